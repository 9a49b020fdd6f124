/-
  The document's reader of a dictionary: number, four, count, used.
-/
import Derived.Test.YtenkdhphgfhkbaaGreatDRefNum
import Derived.Test.YtenkdhphgfhkbaaGreatDReadG
import Derived.Test.YtenkdhphgfhkbaaGreatDRefPut
import Derived.Test.YtenkdhphgfhkbaaGreatDLane
namespace Go.Proofs.YtenkdhphgfhkbaaGreat
open Go.ChangeShapes Go.WideShapes Go.ChangeAt Go.RowKit Cu

theorem bytes_cell {w : World} {a : Option Addr} {l : List Nat} (h : Bytes w a l) {i : Nat} (hi : i < l.length) : ∃ g o, a = some ⟨g, o, none⟩ ∧ g < w.heap.size ∧ w.cell? ⟨g, o + i, none⟩ = some (.int .u8 (ofL l i : Int)) := h i hi
set_option maxRecDepth 8000 in
set_option maxHeartbeats 2000000 in
theorem number9_any (a : Option Addr) (l : List Nat) (c : Nat) (w : World) (hA : Bytes w a l) (hb : ∀ x ∈ l, x < 256) (_hl : l.length ≤ 140737488355328) :
    Calls Tryz.prog 16 #[.slice a l.length c] w fun e w' => ∃ v p : Nat, e = .returned (.tuple #[.int .i64 (v : Int), .int .i64 (p : Int)]) ∧ NumO l v p ∧ w' = w := by
  have HA := hid hA
  have HLT := hid (fun i => ofL_lt (by decide : 0 < 256) hb i)
  clear hA hb
  go_enter Tryz.func16, Tryz.ntmps16
  go_wp2_with fail
  go_loopw [4, 5] (fun x y wr => ∃ i v : Nat, i ≤ 3 ∧ i ≤ l.length ∧ y = .int .i64 (i : Int) ∧ x = .int .i64 (v : Int) ∧ v < 2097152 ∧ Hid (v = pvN l i ∧ ∀ j, j < i → 128 ≤ ofL l j) ∧ wr = w) (fun _ y _ => 3 - (intOf y).toNat)
  case atStart => exact ⟨0, 0, by omega, Nat.zero_le _, rfl, rfl, by omega, ⟨rfl, fun j hj => by omega⟩, rfl⟩
  case round =>
    obtain ⟨i, v, h3, hi, rfl, rfl, hv, HP, hwr⟩ := hrel
    subst hwr
    by_cases hlt : i < l.length
    · by_cases h3' : i < 3
      · have hii : (i : Int) < (l.length : Int) := by omega
        have hi3 : (i : Int) < 3 := by omega
        obtain ⟨g, o, rfl, hg, hc⟩ := bytes_cell HA.out hlt
        have hx := HLT.out i
        have HX : Hid (ofL l i = ofL l i) := rfl
        obtain ⟨s, hs⟩ : ∃ s, 7 * i = s := ⟨_, rfl⟩
        have hs2 : (7 : Int) * (i : Int) = (s : Int) := by omega
        have hsw : IntKind.u64.wrap (s : Int) = (s : Int) := Pk.u64_left _ (by omega) (by omega)
        obtain ⟨m, hm⟩ : ∃ m, ofL l i % 128 = m := ⟨_, rfl⟩
        have hm2 : (ofL l i : Int) % 128 = (m : Int) := by omega
        obtain ⟨t, ht⟩ : ∃ t, m * 2 ^ s = t := ⟨_, rfl⟩
        have ht2 : t < 2097152 := by
          have : i = 0 ∨ i = 1 ∨ i = 2 := by omega
          rcases this with rfl | rfl | rfl <;> subst hs <;> omega
        have hvt : v + t < 2097152 := by
          have e := pvN_lt l (i := i + 1) (by omega)
          unfold pvN at e
          rw [← HP.out.1, hm, hs, ht] at e
          exact e
        have htw : (m : Int) * 2 ^ s = (t : Int) := by rw [← ht]; simp
        have htw2 : IntKind.i64.wrap (t : Int) = (t : Int) := Pk.i64_left _ (by omega) (by omega)
        have HPN : Hid (v + t = pvN l (i + 1)) := by show v + t = _; unfold pvN; rw [← HP.out.1, hm, hs, ht]
        by_cases hsm : ofL l i < 128
        · have HO : Hid (NumO l (v + t) (i + 1)) := by rw [HPN.out]; exact num_hit h3' hlt HP.out.2 hsm
          have hsm2 : (ofL l i : Int) < 128 := by omega
          clear hs ht hm HX
          generalize ofL l i = x at *
          go_wp2_with fail
          refine bodyPost_ret (v := .tuple #[.int .i64 ((v : Int) + (t : Int)), .int .i64 ((i : Int) + 1)]) (by simp [results, Tryz.results16, go_sem]) rfl ?_
          exact ⟨v + t, i + 1, rfl, HO.out, rfl⟩
        · have HN : Hid (v + t = pvN l (i + 1) ∧ ∀ j, j < i + 1 → 128 ≤ ofL l j) := ⟨HPN.out, fun j hj => by
            by_cases e : j = i
            · subst e; omega
            · exact HP.out.2 j (by omega)⟩
          have hsm2 : ¬ (ofL l i : Int) < 128 := by omega
          clear hs ht hm HX HPN
          generalize ofL l i = x at *
          go_wp2_with fail
          exact ⟨⟨i + 1, v + t, by omega, by omega, by go_num, by go_num, hvt, HN, trivial⟩, by simp [intOf]; omega⟩
      · have hii : (i : Int) < (l.length : Int) := by omega
        have hi3 : ¬ (i : Int) < 3 := by omega
        have HO : Hid (NumO l 0 0) := num_none h3 (.inr (by omega)) HP.out.2
        go_wp2_with fail
        refine bodyPost_ret (v := .tuple #[.int .i64 0, .int .i64 0]) (by simp [results, Tryz.results16, go_sem]) rfl ?_
        exact ⟨0, 0, rfl, HO.out, rfl⟩
    · have hii : ¬ (i : Int) < (l.length : Int) := by omega
      have HO : Hid (NumO l 0 0) := num_none h3 (.inl (by omega)) HP.out.2
      go_wp2_with fail
      refine bodyPost_ret (v := .tuple #[.int .i64 0, .int .i64 0]) (by simp [results, Tryz.results16, go_sem]) rfl ?_
      exact ⟨0, 0, rfl, HO.out, rfl⟩
def four' (l : List Nat) : Nat := ofL l 0 + 256 * ofL l 1 + 65536 * ofL l 2 + 16777216 * ofL l 3
set_option maxRecDepth 8000 in
set_option maxHeartbeats 2000000 in
theorem four9_any (a : Option Addr) (l : List Nat) (c : Nat) (w : World) (hA : Bytes w a l) (hb : ∀ x ∈ l, x < 256) (h4 : 4 ≤ l.length) (_hl : l.length ≤ 140737488355328) :
    Calls Tryz.prog 17 #[.slice a l.length c] w fun e w' => e = .returned (.int .i64 (four' l : Int)) ∧ ∃ j, w' = w.drewN j := by
  obtain ⟨g, o, rfl, hg, c0⟩ := bytes_cell hA (show 0 < l.length by omega)
  obtain ⟨g1, o1, e1, -, c1⟩ := bytes_cell hA (show 1 < l.length by omega)
  cases e1
  obtain ⟨g1, o1, e1, -, c2⟩ := bytes_cell hA (show 2 < l.length by omega)
  cases e1
  obtain ⟨g1, o1, e1, -, c3⟩ := bytes_cell hA (show 3 < l.length by omega)
  cases e1
  have HLT := hid (fun i => ofL_lt (by decide : 0 < 256) hb i)
  have b0 := HLT.out 0
  have b1 := HLT.out 1
  have b2 := HLT.out 2
  have b3 := HLT.out 3
  have k0 : (0 : Int) < (l.length : Int) := by omega
  have k1 : (1 : Int) < (l.length : Int) := by omega
  have k2 : (2 : Int) < (l.length : Int) := by omega
  have k3 : (3 : Int) < (l.length : Int) := by omega
  have n0 : 0 < l.length := by omega
  have n1 : 1 < l.length := by omega
  have n2 : 2 < l.length := by omega
  have n3 : 3 < l.length := by omega
  rw [Nat.add_zero] at c0
  unfold four'
  clear HLT hb hA
  generalize ofL l 0 = x0 at *
  generalize ofL l 1 = x1 at *
  generalize ofL l 2 = x2 at *
  generalize ofL l 3 = x3 at *
  have w1 : IntKind.i64.wrap ((x1 : Int) * 256) = (x1 : Int) * 256 := Pk.i64_left _ (by omega) (by omega)
  have w2 : IntKind.i64.wrap ((x2 : Int) * 65536) = (x2 : Int) * 65536 := Pk.i64_left _ (by omega) (by omega)
  have w3 : IntKind.i64.wrap ((x3 : Int) * 16777216) = (x3 : Int) * 16777216 := Pk.i64_left _ (by omega) (by omega)
  go_enter Tryz.func17, Tryz.ntmps17
  go_wp2_with fail
  go_quiet (fail)
  go_wp2_with fail
  go_ret
  exact ⟨ret_int (by omega), _, rfl⟩
theorem four_lt {l : List Nat} (hb : ∀ x ∈ l, x < 256) : four' l < 4294967296 := by
  have HLT := fun i => ofL_lt (by decide : 0 < 256) hb i
  have b0 := HLT 0
  have b1 := HLT 1
  have b2 := HLT 2
  have b3 := HLT 3
  unfold four'
  omega
set_option maxHeartbeats 400000 in
theorem count9_any (n : Int) (w : World) : Calls Tryz.prog 15 #[.int .i64 n] w fun e w' => e = .returned (.int .i64 (if n < 0 then 2 else if 16777216 < n then 3 else 0)) ∧ w' = w := by
  by_cases h1 : n < 0
  · rw [if_pos h1]
    go_enter Tryz.func15, Tryz.ntmps15
    go_wp2_with fail
    go_ret
    exact ⟨rfl, rfl⟩
  · rw [if_neg h1]
    by_cases h2 : 16777216 < n
    · rw [if_pos h2]
      go_enter Tryz.func15, Tryz.ntmps15
      go_wp2_with fail
      go_ret
      exact ⟨rfl, rfl⟩
    · rw [if_neg h2]
      go_enter Tryz.func15, Tryz.ntmps15
      go_wp2_with fail
      go_ret
      exact ⟨rfl, rfl⟩
/-- Bytes are the codes of n values, each below k. -/
def UsedC (k n : Nat) (CB : List Nat) : Prop := CB.length = (n * wd k + 7) / 8 ∧ Pk.wordZ (Pk.bitB (ofL CB)) ((n * wd k : Nat) : Int) = 0 ∧ ∀ i, i < n → lnC CB (wd k) i < k
theorem pf_zero {nb : Nat} {B : Nat → Nat} {k n : Nat} (hk : k ≤ 64) (hn : n ≤ 16777216) : Pk.pfE nb B (k : Int) (n : Int) = 0 ↔ nb = (n * k + 7) / 8 ∧ Pk.wordZ (Pk.bitB B) ((n * k : Nat) : Int) = 0 := by
  have hw : Pk.isWidth (k : Int) = true := by unfold Pk.isWidth; simp; omega
  have e0 : Pk.byteE (n : Int) (k : Int) = 0 := by unfold Pk.byteE; rw [if_neg (by omega), if_neg (by omega), if_pos hw]
  have hmk : (n : Int) * (k : Int) = ((n * k : Nat) : Int) := by simp
  obtain ⟨s, hs⟩ : ∃ s, (n * k + 7) / 8 = s := ⟨_, rfl⟩
  have e1 : Pk.byteN (n : Int) (k : Int) = (s : Int) := by unfold Pk.byteN; rw [if_pos ⟨by omega, by omega, hw⟩, hmk]; omega
  unfold Pk.pfE
  rw [if_neg (by simp [hw]), if_neg (by simp [e0]), e1, hmk, hs]
  constructor
  · intro h
    by_cases h1 : (nb : Int) < (s : Int)
    · rw [if_pos h1] at h; omega
    · rw [if_neg h1] at h
      by_cases h2 : (s : Int) < (nb : Int)
      · rw [if_pos h2] at h; omega
      · rw [if_neg h2] at h
        by_cases h3 : Pk.wordZ (Pk.bitB B) ((n * k : Nat) : Int) = 0
        · exact ⟨by omega, h3⟩
        · rw [if_pos h3] at h; omega
  · rintro ⟨h1, h2⟩
    rw [if_neg (by omega), if_neg (by omega), if_neg (fun h => h h2)]
set_option maxRecDepth 8000 in
set_option maxHeartbeats 4000000 in
theorem used9_any (a : Option Addr) (CB : List Nat) (c k n : Nat) (w : World) (hA : Bytes w a CB) (hb : ∀ x ∈ CB, x < 256) (hk : k ≤ 65536) (hn : n ≤ 16777216) (hl : CB.length ≤ 140737488351232) :
    Calls Tryz.prog 18 #[.slice a CB.length c, .int .i64 (k : Int), .int .i64 (n : Int)] w fun e w' => Below w.heap.size w w' ∧ ((e = .returned (.tuple #[.slice none 0 0, .bool false]) ∧ ¬ UsedC k n CB) ∨ (UsedC k n CB ∧ ∃ v, e = .returned (.tuple #[v, .bool true]) ∧ Pk.Own w' w.heap.size 40 .u64 v n (lnC CB (wd k)))) := by
  have hw16 := wd_le16 hk
  have hby := byt_of hb rfl
  have HW := hid (rWidth9 k w hk)
  have HF := hid (Pk.refFault_any a CB.length c (ofL CB) (wd k : Int) (n : Int) w hl hby.1 hby.2 hA)
  have HN := hid (fun wx => Pk.refNumbers_any a CB.length c (wd k) n (ofL CB) wx hby.1 hby.2)
  have HZ := hid (pf_zero (nb := CB.length) (B := ofL CB) (k := wd k) (n := n) (by omega) hn)
  have HU : Hid (UsedC k n CB ↔ (Pk.pfE CB.length (ofL CB) (wd k : Int) (n : Int) = 0 ∧ ∀ i, i < n → lnC CB (wd k) i < k)) := by
    show _ ↔ _
    unfold UsedC
    rw [HZ.out]
    exact ⟨fun h => ⟨⟨h.1, h.2.1⟩, h.2.2⟩, fun h => ⟨h.1.1, h.1.2, h.2⟩⟩
  have HL6 : Hid (∀ i, lnC CB (wd k) i < 18446744073709551616) := fun i => Nat.lt_of_lt_of_le (Pk.laneOf_lt _ _ _) (Nat.pow_le_pow_right (n := 2) (by omega) (show wd k ≤ 64 by omega))
  have HA := hid hA
  have hN2 := HN.out w hA (by omega) hn
  have HN2 : Hid (Calls Tryz.prog 32 #[.slice a CB.length c, .int .i64 (wd k : Int), .int .i64 (n : Int)] w fun e w' => ∃ v, e = .returned v ∧ Pk.Own w' w.heap.size 40 .u64 v n (lnC CB (wd k)) ∧ Below w.heap.size w w') := hN2
  generalize hE : Pk.pfE CB.length (ofL CB) (wd k : Int) (n : Int) = E at *
  clear hE HZ HN hN2 hby hb hA
  generalize lnC CB (wd k) = L at *
  generalize wd k = wk at *
  by_cases hE0 : E = 0
  · subst hE0
    go_enter Tryz.func18, Tryz.ntmps18
    go_wp2_with fail
    refine HW.out.mono ?_
    rintro e w1 ⟨rfl, hw1⟩
    subst w1
    go_wp2_with fail
    refine HF.out.mono ?_
    rintro e w1 ⟨rfl, hw1⟩
    subst w1
    go_wp2_with fail
    refine HN2.out.mono ?_
    rintro e w2 ⟨v2, rfl, o2, b2⟩
    obtain ⟨a2, c2, rfl, -, -, hz2⟩ := o2.form
    have N2 := hid o2.nums
    have O2 := hid o2
    have B2 := hid b2
    clear o2 b2 HN2 HF HW hz2
    go_wp2_with fail
    go_loopw [10] (fun y wr => ∃ i : Nat, i ≤ n ∧ y = .int .i64 (i : Int) ∧ Hid (∀ j, j < i → L j < k) ∧ wr = w2) (fun y _ => n - (intOf y).toNat)
    case atStart => exact ⟨0, Nat.zero_le _, rfl, fun j hj => by omega, rfl⟩
    case round =>
      obtain ⟨i, hi, rfl, HP, hwr⟩ := hrel
      subst hwr
      by_cases hlt : i < n
      · have hii : (i : Int) < (n : Int) := by omega
        obtain ⟨g, o, rfl, hg, hc⟩ := N2.out i hlt
        have hx := HL6.out i
        have hkw : IntKind.u64.wrap (k : Int) = (k : Int) := Pk.u64_left _ (by omega) (by omega)
        by_cases hs : L i < k
        · have HP2 : Hid (∀ j, j < i + 1 → L j < k) := fun j hj => by
            by_cases e : j = i
            · subst e; exact hs
            · exact HP.out j (by omega)
          have hs2 : ¬ (k : Int) ≤ (L i : Int) := by omega
          clear hs
          generalize L i = x at *
          go_wp2_with fail
          exact ⟨⟨i + 1, by omega, by go_num, HP2, trivial⟩, by simp [intOf]; omega⟩
        · have HNU : Hid (¬ UsedC k n CB) := fun h => hs ((HU.out.1 h).2 i hlt)
          have hs2 : (k : Int) ≤ (L i : Int) := by omega
          clear hs
          generalize L i = x at *
          go_wp2_with fail
          refine bodyPost_ret (v := .tuple #[.slice none 0 0, .bool false]) (by simp [results, Tryz.results18, go_sem]) rfl ?_
          exact ⟨B2.out, .inl ⟨rfl, HNU.out⟩⟩
      · obtain rfl : i = n := by omega
        have hii : ¬ (i : Int) < (i : Int) := by omega
        have HYU : Hid (UsedC k i CB) := HU.out.2 (by first | exact ⟨rfl, HP.out⟩ | exact ⟨trivial, HP.out⟩)
        go_wp2_with fail
        refine bodyPost_ret (v := .tuple #[.slice a2 i c2, .bool true]) (by simp [results, Tryz.results18, go_sem]) rfl ?_
        exact ⟨B2.out, .inr ⟨HYU.out, _, rfl, O2.out⟩⟩
  · have HNU : Hid (¬ UsedC k n CB) := fun h => hE0 (HU.out.1 h).1
    have hEb : (E != 0) = true := by simpa using hE0
    go_enter Tryz.func18, Tryz.ntmps18
    go_wp2_with fail
    refine HW.out.mono ?_
    rintro e w1 ⟨rfl, hw1⟩
    subst w1
    go_wp2_with fail
    refine HF.out.mono ?_
    rintro e w1 ⟨rfl, hw1⟩
    subst w1
    go_wp2_with fail
    refine bodyPost_ret (v := .tuple #[.slice none 0 0, .bool false]) (by simp [results, Tryz.results18, go_sem]) rfl ?_
    exact ⟨Below.refl _ _, .inl ⟨rfl, HNU.out⟩⟩
end Go.Proofs.YtenkdhphgfhkbaaGreat
