/-
  THE WALK OF CheckPlaces.
-/
import Derived.Test.YthgbneadmnhhlaaCPlaces
namespace Go.Proofs.Ythgbneadmnhhlaa
open Go.RowKit Crc

def anyPow (b : Int) (k : Nat) : Bool := (List.range k).any fun x => b == ((2 ^ x : Nat) : Int)
theorem anyPow_step (b : Int) (k : Nat) : anyPow b (k + 1) = (anyPow b k || b == ((2 ^ k : Nat) : Int)) := by
  unfold anyPow
  rw [List.range_succ, List.any_append]
  simp
/-- What the document's Places answers. -/
def PlAns (w : World) (h : Nat) (b : Int) (k : Int) (e : Ending) (w' : World) : Prop :=
  if isPow b = true ∧ 0 ≤ k ∧ k ≤ 64 then ∃ a c, e = .returned (.tuple #[.slice a k.toNat c, .int .i64 0]) ∧ Nums w' .i64 a k.toNat (placeN h b.toNat) ∧ Below w.heap.size w w'
  else e = .returned (.tuple #[.slice none 0 0, .int .i64 2]) ∧ w' = w
theorem or1_eq (d : Nat) : d ||| 1 = if d % 2 = 0 then d + 1 else d := by
  apply bit_ext
  intro i
  rw [Nat.testBit_or]
  split
  · rename_i h
    obtain ⟨e, rfl⟩ : ∃ e, d = 2 * e := ⟨d / 2, by omega⟩
    cases i with
    | zero => simp [Nat.testBit_zero]
    | succ i =>
      rw [Nat.testBit_succ, Nat.testBit_succ, Nat.testBit_succ, show (2 * e + 1) / 2 = 2 * e / 2 by omega]
      simp
  · rename_i h
    cases i with
    | zero => simp [Nat.testBit_zero]; omega
    | succ i => rw [Nat.testBit_succ, Nat.testBit_succ]; simp
set_option maxHeartbeats 2000000 in
theorem refPlaces_any (h : Nat) (b k : Int) (w : World) (hh : h < 18446744073709551616) (hb1 : -9223372036854775808 ≤ b) (hb2 : b ≤ 9223372036854775807) (hk1 : -9223372036854775808 ≤ k) (hk2 : k ≤ 9223372036854775807) :
    Calls Try.prog 35 #[.int .u64 (h : Int), .int .i64 b, .int .i64 k] w fun e w' => PlAns w h b k e w' := by
  go_enter Try.func35, Try.ntmps35
  go_wp2_with fail
  go_loopw [8, 9] (fun p x wr => ∃ i : Nat, i ≤ 31 ∧ x = .int .i64 i ∧ p = .bool (anyPow b i) ∧ wr = w) (fun _ x _ => 31 - (intOf x).toNat)
  case atStart => exact ⟨0, by omega, rfl, rfl, rfl⟩
  case round =>
    obtain ⟨i, hi, rfl, rfl, rfl⟩ := hrel
    by_cases hlt : i < 31
    · have hii : (i : Int) ≤ 30 := by omega
      have HS := hid (anyPow_step b i)
      have hpl := pow_le_30 (show i ≤ 30 by omega)
      have hpp : (2 : Int) ^ i = ((2 ^ i : Nat) : Int) := by simp
      generalize 2 ^ i = P at *
      cases hq : anyPow b i
      · rw [hq] at HS
        go_wp2_with fail
        exact ⟨⟨i + 1, by omega, by go_num, by rw [HS.out]; rfl, by first | trivial | rfl⟩, by simp [intOf]; omega⟩
      · rw [hq] at HS
        go_wp2_with fail
        exact ⟨⟨i + 1, by omega, by go_num, by rw [HS.out]; rfl, by first | trivial | rfl⟩, by simp [intOf]; omega⟩
    · have hi31 : i = 31 := by omega
      have HP : Hid (anyPow b i = isPow b) := by rw [hi31]; rfl
      have hgt : 30 < (i : Int) := by omega
      clear hi hlt hi31
      by_cases hok : isPow b = true ∧ 0 ≤ k ∧ k ≤ 64
      · obtain ⟨hp, h0, h64⟩ := hok
        have HQ : Hid (PlAns wr h b k = fun e w' => ∃ a c, e = .returned (.tuple #[.slice a k.toNat c, .int .i64 0]) ∧ Nums w' .i64 a k.toNat (placeN h b.toNat) ∧ Below wr.heap.size wr w') := by
          show PlAns wr h b k = _
          funext e w'
          unfold PlAns
          rw [if_pos ⟨hp, h0, h64⟩]
        have ht : anyPow b i = true := HP.out.trans hp
        obtain ⟨q, hq, rfl⟩ := (isPow_iff b).1 hp
        have hpl := pow_le_30 hq
        have hpz := Nat.two_pow_pos q
        obtain ⟨m, rfl⟩ : ∃ m : Nat, k = (m : Int) := ⟨k.toNat, by omega⟩
        clear HP hp hq
        generalize hPP : 2 ^ q = P at *
        have HPP := hid hPP
        clear hPP
        have HD := hid (or1_eq (h / 4294967296))
        have HPl : Hid (∀ i, placeN h P i = (h % 4294967296 + i * (h / 4294967296 ||| 1)) % P) := fun _ => rfl
        have ha : h % 4294967296 < 4294967296 := Nat.mod_lt _ (by omega)
        have hd : h / 4294967296 < 4294967296 := by omega
        have hA : (h : Int) % 4294967296 = ((h % 4294967296 : Nat) : Int) := by simp
        have hDv : (h : Int) / 4294967296 = ((h / 4294967296 : Nat) : Int) := by simp
        generalize h % 4294967296 = A at *
        generalize h / 4294967296 = D0 at *
        rw [ht]
        have hk0 : ((m : Int) < 0) = False := by simp
        by_cases hpar : D0 % 2 = 0
        case' pos =>
          have hpi : (D0 : Int) % 2 = 0 := by omega
          rw [if_pos hpar] at HD
          go_wp2_with fail
          rw [show ((D0 : Int) + 1) = ((D0 + 1 : Nat) : Int) by simp]
          rw [HD.out] at HPl
          have hdd : D0 + 1 < 4294967297 := by omega
          clear hpi HD
          generalize D0 + 1 = D at *
        case' neg =>
          have hpi : (D0 : Int) % 2 = 1 := by omega
          rw [if_neg hpar] at HD
          go_wp2_with fail
          rw [HD.out] at HPl
          have hdd : D0 < 4294967297 := by omega
          clear hpi HD
          generalize D0 = D at *
        all_goals
          rw [hA]
          clear hpar hA hDv hd ht
          go_loopw [12, 13] (fun v x wx => ∃ i : Nat, i ≤ m ∧ x = .int .i64 i ∧ Hid (Own wx wr.heap.size 3 .i64 v i (placeN h P)) ∧ Hid (Below wr.heap.size wr wx)) (fun _ x _ => m - (intOf x).toNat)
          case atStart => exact ⟨0, Nat.zero_le _, rfl, Own.nil _ _ _ _ _, Below.refl _ _⟩
          case round =>
            rename World => wx
            obtain ⟨j, hi2, rfl, HO, HB⟩ := hrel
            by_cases hlt2 : j < m
            · have hii : (j : Int) < (m : Int) := by omega
              have hm : j * D < 4294967297 * 64 := by
                have := Nat.mul_le_mul (show j ≤ 63 by omega) (show D ≤ 4294967296 by omega)
                omega
              have hme : (j : Int) * (D : Int) = ((j * D : Nat) : Int) := by simp
              have HPi := hid (HPl.out j)
              generalize j * D = M at *
              have hrem : ((A : Int) + (M : Int)) % (P : Int) = (((A + M) % P : Nat) : Int) := by simp
              have hlt3 : (A + M) % P < P := Nat.mod_lt _ hpz
              generalize (A + M) % P = R at *
              obtain ⟨g, c', w2, hr2, hO2, hB2, _⟩ := run_one (t := 52) (ty := 52) Try.underlying52 infoInt HO.out (by omega) (by omega) HB.out.size (R : Int) (by rw [HPi.out])
              have R2 := hid hr2
              have O2 := hid hO2
              have B2 := hid (HB.out.trans hB2)
              clear hr2 hO2 hB2 HO HB
              go_wp2_with (at_builtin; refine wpList_app (by rfl) (by rfl) R2.out ?_; clear R2)
              exact ⟨⟨j + 1, by omega, by go_num, O2, B2⟩, by simp [intOf]; omega⟩
            · obtain rfl : j = m := by omega
              obtain ⟨a1, c1, hv, _, _, _⟩ := HO.out.form
              subst hv
              go_wp2_with fail
              go_ret2
              rw [HPP.out, HQ.out]
              exact ⟨a1, c1, rfl, HO.out.nums, HB.out⟩
      · have HQ : Hid (PlAns wr h b k = fun e w' => e = .returned (.tuple #[.slice none 0 0, .int .i64 2]) ∧ w' = wr) := by
          show PlAns wr h b k = _
          funext e w'
          unfold PlAns
          rw [if_neg hok]
        rw [HP.out]
        cases hp : isPow b
        · go_wp2_with fail
          go_ret2
          rw [HQ.out]
          exact ⟨rfl, rfl⟩
        · by_cases h0 : k < 0
          · go_wp2_with fail
            go_ret2
            rw [HQ.out]
            exact ⟨rfl, rfl⟩
          · have h64 : 64 < k := by
              apply Int.lt_of_not_ge
              intro h
              exact hok ⟨hp, by omega, h⟩
            go_wp2_with fail
            go_ret2
            rw [HQ.out]
            exact ⟨rfl, rfl⟩
end Go.Proofs.Ythgbneadmnhhlaa
