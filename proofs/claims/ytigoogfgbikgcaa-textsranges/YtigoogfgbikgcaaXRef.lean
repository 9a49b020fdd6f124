/-
  The document's Begins and Range.
-/
import Derived.Test.YtigoogfgbikgcaaXMath
namespace Go.Proofs.Ytigoogfgbikgcaa.Tx
open Go.ChangeShapes Go.WideShapes Go.ChangeAt Go.RowKit Cu

set_option maxHeartbeats 1000000 in
theorem rBegins (x v : ByteArray) (w : World) (_hx : x.size ≤ 281474976710656) (_hv : v.size ≤ 281474976710656) : Calls Try.prog 6 #[.string x, .string v] w fun e w' => e = .returned (.bool (prfB x v)) ∧ w' = w := by
  by_cases h : v.size ≤ x.size
  · have hi : (v.size : Int) ≤ (x.size : Int) := by omega
    go_enter Try.func6, Try.ntmps6
    go_wp2_with fail
    go_ret
    exact ⟨ret_bool (prf_cut x v), rfl⟩
  · rw [prf_long h]
    have hi : ¬ (v.size : Int) ≤ (x.size : Int) := by omega
    go_enter Try.func6, Try.ntmps6
    go_wp2_with fail
    go_ret
    exact ⟨rfl, rfl⟩
set_option maxHeartbeats 4000000 in
theorem rRange (a : Option Addr) (T : List ByteArray) (c : Nat) (b : ByteArray) (w : World) (hT : Strs w a T) (hl : T.length ≤ 8796093021952) (hs : ∀ s ∈ T, s.size ≤ 281474976710656) (hb : b.size ≤ 281474976710656) :
    Calls Try.prog 4 #[.slice a T.length c, .string b] w fun e w' => e = .returned (.tuple #[.int .i64 ((T.countP fun s => ltB s b : Nat) : Int), .int .i64 ((T.countP (fun s => ltB s b) + T.countP (fun s => prfB s b) : Nat) : Int)]) ∧ w' = w := by
  have HT := hid hT
  have HP : Hid (∀ s ∈ T, Calls Try.prog 6 #[.string s, .string b] w fun e w' => e = .returned (.bool (prfB s b)) ∧ w' = w) := fun s h => rBegins s b w (hs s h) hb
  have HN : Hid (∀ (p : ByteArray → Bool) (i : Nat) (x : ByteArray), T[i]? = some x → (T.take (i + 1)).countP p = (T.take i).countP p + if p x then 1 else 0) := fun p i x h => by
    rw [List.take_add_one, h, List.countP_append]
    simp [List.countP_cons]
  have HL : Hid (∀ (p : ByteArray → Bool) (i : Nat), (T.take i).countP p ≤ i) := fun p i => Nat.le_trans (List.countP_le_length) (by rw [List.length_take]; omega)
  have HE : Hid (∀ (p : ByteArray → Bool), (T.take T.length).countP p = T.countP p) := fun p => by rw [List.take_length]
  have HM : Hid (∀ (i : Nat) (x : ByteArray), T[i]? = some x → x ∈ T) := fun i x h => List.mem_of_getElem? h
  have HI : Hid (∀ i, i < T.length → ∃ x, T[i]? = some x) := fun i h => ⟨_, List.getElem?_eq_getElem h⟩
  have HB : Hid (∀ s, Op.bytesLess s.toList b.toList = (fun s => ltB s b) s) := fun s => rfl
  have HP2 : Hid (∀ s ∈ T, Calls Try.prog 6 #[.string s, .string b] w fun e w' => e = .returned (.bool ((fun s => prfB s b) s)) ∧ w' = w) := HP.out
  have e0 : ∀ f : ByteArray → Bool, (T.take 0).countP f = 0 := fun f => by simp
  have E1 := hid (HE.out fun s => ltB s b)
  have E2 := hid (HE.out fun s => prfB s b)
  rw [← E1.out, ← E2.out]
  generalize (fun s => ltB s b) = p at *
  generalize (fun s => prfB s b) = q at *
  obtain ⟨n, hn⟩ : ∃ n, T.length = n := ⟨_, rfl⟩
  rw [hn] at hl HI ⊢
  clear hT hs hb HP E1 E2 HE hn
  go_enter Try.func4, Try.ntmps4
  go_wp2_with fail
  go_loopw [6, 7] (fun cx ix wr => ∃ i : Nat, i ≤ n ∧ ix = .int .i64 (i : Int) ∧ cx = .int .i64 ((T.take i).countP p : Nat) ∧ wr = w) (fun _ ix _ => n - (intOf ix).toNat)
  case atStart => exact ⟨0, Nat.zero_le _, rfl, by rw [e0]; rfl, rfl⟩
  case round =>
    obtain ⟨i, hi, rfl, rfl, hwr⟩ := hrel
    subst hwr
    by_cases hlt : i < n
    · have hii : (i : Int) < (n : Int) := by omega
      obtain ⟨x, hx⟩ := HI.out i hlt
      obtain ⟨g, o, rfl, -, hc⟩ := HT.out i x hx
      have hbl := HB.out x
      have HNx := hid (HN.out p i x hx)
      have hle := HL.out p i
      generalize (T.take i).countP p = k at *
      cases hp : p x with
      | true =>
        rw [hp] at hbl HNx
        clear hx hp
        go_wp2_with fail
        refine ⟨⟨i + 1, by omega, by go_num, ?_, trivial⟩, by simp [intOf]; omega⟩
        rw [HNx.out]
        go_num
      | false =>
        rw [hp] at hbl HNx
        clear hx hp
        go_wp2_with fail
        refine ⟨⟨i + 1, by omega, by go_num, ?_, trivial⟩, by simp [intOf]; omega⟩
        rw [HNx.out]
        go_num
    · obtain rfl : i = n := by omega
      have hlz : ¬ (i : Int) < (i : Int) := by omega
      have HK : Hid (∃ k : Nat, (T.take i).countP p = k ∧ k ≤ i) := ⟨_, rfl, HL.out p i⟩
      obtain ⟨k, hk, hki⟩ := HK.out
      have HKe := hid hk
      rw [hk]
      clear HK hk
      go_wp2_with fail
      go_loopw [8, 9] (fun cx ix ws => ∃ j : Nat, j ≤ i ∧ ix = .int .i64 (j : Int) ∧ cx = .int .i64 ((k + (T.take j).countP q : Nat) : Int) ∧ ws = wr) (fun _ ix _ => i - (intOf ix).toNat)
      case atStart => exact ⟨0, Nat.zero_le _, rfl, by rw [e0]; rfl, rfl⟩
      case round =>
        obtain ⟨j, hj, rfl, rfl, hws⟩ := hrel
        subst hws
        by_cases hjt : j < i
        · have hii : (j : Int) < (i : Int) := by omega
          obtain ⟨x, hx⟩ := HI.out j hjt
          obtain ⟨g, o, rfl, -, hc⟩ := HT.out j x hx
          have HPx := hid (HP2.out x (HM.out j x hx))
          have HNx := hid (HN.out q j x hx)
          have hle := HL.out q j
          obtain ⟨r, hr⟩ : ∃ r, k + (T.take j).countP q = r := ⟨_, rfl⟩
          have hr2 : r ≤ i + j := by omega
          have HNr : Hid (k + (T.take (j + 1)).countP q = r + if q x then 1 else 0) := by show _ = _; rw [HNx.out, ← hr]; omega
          rw [hr]
          generalize q x = z at *
          clear hx HNx hle hr
          go_wp2_with fail
          refine HPx.out.mono ?_
          rintro e w2 ⟨rfl, hw2⟩
          subst hw2
          cases z with
          | true =>
            go_wp2_with fail
            refine ⟨⟨j + 1, by omega, by go_num, ?_, trivial⟩, by simp [intOf]; omega⟩
            rw [HNr.out]
            go_num
          | false =>
            go_wp2_with fail
            refine ⟨⟨j + 1, by omega, by go_num, ?_, trivial⟩, by simp [intOf]; omega⟩
            rw [HNr.out]
            go_num
        · obtain rfl : j = i := by omega
          obtain ⟨z, hz⟩ : ∃ z, (T.take j).countP q = z := ⟨_, rfl⟩
          have HZ := hid hz
          rw [hz]
          clear hz
          go_wp2_with fail
          refine bodyPost_ret (v := .tuple #[.int .i64 (k : Int), .int .i64 ((k + z : Nat) : Int)]) (by simp [results, Try.results4, go_sem]) rfl ?_
          exact ⟨by rw [HKe.out, HZ.out], rfl⟩
end Go.Proofs.Ytigoogfgbikgcaa.Tx
