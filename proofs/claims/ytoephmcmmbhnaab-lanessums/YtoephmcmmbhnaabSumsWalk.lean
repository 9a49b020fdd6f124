/-
  THE WALK OF LanesSums.
-/
import Derived.Test.YtoephmcmmbhnaabLKnown
import Derived.Test.YtoephmcmmbhnaabLRefS
import Derived.Test.YtoephmcmmbhnaabLStruct
import Derived.Deep.RegionHeld3
namespace Go.Proofs.Ytoephmcmmbhnaab
open Go.RowKit Ln

set_option maxHeartbeats 2000000 in
set_option maxRecDepth 20000 in
theorem walk_lanesSums (w : World) (a0 : Option Addr) (nb c : Nat) (B : Nat → Nat) (wd n op cc lo hi : Int) (a1 : Option Addr) (n1 c1 : Nat) (L : Nat → Nat) (hA : NumArg w .u8 a0 nb c B 256 (140737488351232 / 1))
    (_hwd : -9223372036854775808 ≤ wd ∧ wd ≤ 9223372036854775807) (_hn : -9223372036854775808 ≤ n ∧ n ≤ 9223372036854775807) (_hop : -9223372036854775808 ≤ op ∧ op ≤ 9223372036854775807)
    (_hcc : 0 ≤ cc ∧ cc < ((18446744073709551616 : Nat) : Int)) (_hlo : 0 ≤ lo ∧ lo < ((18446744073709551616 : Nat) : Int)) (_hhi : 0 ≤ hi ∧ hi < ((18446744073709551616 : Nat) : Int)) (_hL : NumArg w .u64 a1 n1 c1 L 18446744073709551616 (140737488351232 / 8)) :
    Calls Try.prog 3 #[.agg #[.slice a0 nb c, .int .i64 wd, .int .i64 n, .int .i64 op, .int .u64 cc, .int .u64 lo, .int .u64 hi, .slice a1 n1 c1]] w fun e w' => e = .returned (.bool true) ∧ Below w.heap.size w w' := by
  have hP := pArg_of hA
  have hnil := hA.2.2.2.2.2
  have HK : Hid (∀ W, Calls Try.prog 9 #[] W fun e w' => e = .returned (.bool true) ∧ Below W.heap.size W w') := fun W => known_yes W
  have HLG : Hid (∀ W, Calls Try.prog 10 #[.int .i64 n] W fun e w' => e = .returned (.bool (decide (1048576 < n) && decide (n ≤ 16777216))) ∧ w' = W) := fun W => large_any n W
  obtain ⟨E, hE⟩ : ∃ E, pfE nb B wd n = E := ⟨_, rfl⟩
  obtain ⟨s1, hs1⟩ : ∃ x, (if pfE nb B wd n = 0 then sumH (laneOf (bitB B) wd.toNat) n.toNat else 0) = x := ⟨_, rfl⟩
  obtain ⟨s2, hs2⟩ : ∃ x, (if pfE nb B wd n = 0 then sumL (laneOf (bitB B) wd.toNat) n.toNat else 0) = x := ⟨_, rfl⟩
  obtain ⟨t1, ht1⟩ : ∃ x, (if pfE nb B wd n = 0 ∧ 1 ≤ n.toNat then minU (laneOf (bitB B) wd.toNat) n.toNat else 0) = x := ⟨_, rfl⟩
  obtain ⟨t2, ht2⟩ : ∃ x, (if pfE nb B wd n = 0 ∧ 1 ≤ n.toNat then maxU (laneOf (bitB B) wd.toNat) n.toNat else 0) = x := ⟨_, rfl⟩
  have HRS : Hid (∀ W, Below w.heap.size w W → Calls Try.prog 11 #[.slice a0 nb c, .int .i64 wd, .int .i64 n] W fun e w' => e = .returned (.tuple #[.int .u64 (s1 : Int), .int .u64 (s2 : Int), .int .i64 E]) ∧ Below W.heap.size W w') := fun W hW => by
    have := refSum_any a0 nb c B wd n W (hP.later hW)
    rwa [hs1, hs2, hE] at this
  have HRE : Hid (∀ W, Below w.heap.size w W → Calls Try.prog 14 #[.slice a0 nb c, .int .i64 wd, .int .i64 n] W fun e w' => e = .returned (.tuple #[.int .u64 (t1 : Int), .int .u64 (t2 : Int), .int .i64 E]) ∧ Below W.heap.size W w') := fun W hW => by
    have := refEnds_any a0 nb c B wd n W (hP.later hW)
    rwa [ht1, ht2, hE] at this
  have HTW : Hid (∀ W, Below w.heap.size w W → Calls Try.prog 13 #[.slice a0 nb c] W fun e w' => ∃ a2 c2, e = .returned (.slice a2 nb c2) ∧ nb ≤ c2 ∧ c2 ≤ maxLen ∧ Nums w' .u8 a2 nb B ∧ Below W.heap.size W w') := fun W hW => twin_any a0 nb c B W hP.small (hP.nums.later hW) hnil
  have HS : Hid (∀ (a2 : Option Addr) (c2 : Nat) W, nb ≤ c2 → c2 ≤ maxLen → Nums W .u8 a2 nb B → Calls Try.prog 12 #[.slice a2 nb c2, .int .i64 wd, .int .i64 n] W fun e w' => e = .returned (.tuple #[.int .u64 (s1 : Int), .int .u64 (s2 : Int), .int .i64 E]) ∧ Below W.heap.size W w') := fun a2 c2 W h1 h2 h3 => by
    have := Sum_any a2 nb c2 B wd n W ⟨hP.small, h1, by simp [maxLen] at h2; omega, hP.byte, hP.out, h3⟩
    rwa [hs1, hs2, hE] at this
  have HN : Hid (∀ (a2 : Option Addr) (c2 : Nat) W, nb ≤ c2 → c2 ≤ maxLen → Nums W .u8 a2 nb B → Calls Try.prog 15 #[.slice a2 nb c2, .int .i64 wd, .int .i64 n] W fun e w' => e = .returned (.tuple #[.int .u64 (t1 : Int), .int .u64 (t2 : Int), .int .i64 E]) ∧ Below W.heap.size W w') := fun a2 c2 W h1 h2 h3 => by
    have := Ends_any a2 nb c2 B wd n W ⟨hP.small, h1, by simp [maxLen] at h2; omega, hP.byte, hP.out, h3⟩
    rwa [ht1, ht2, hE] at this
  clear hA hP hnil _hL hE hs1 hs2 ht1 ht2
  obtain ⟨wb, hwb⟩ : ∃ wb, wb = w.alloc (.cells #[.slice a0 nb c, .int .i64 wd, .int .i64 n, .int .i64 op, .int .u64 cc, .int .u64 lo, .int .u64 hi, .slice a1 n1 c1] 26) := ⟨_, rfl⟩
  have hb0 : Below w.heap.size w wb := by rw [hwb]; exact (Grew.alloc w _).below
  have hl0 : w.heap.size < wb.heap.size := by rw [hwb]; simp
  have q0 : wb.cell? ⟨w.heap.size, 0, none⟩ = some (.slice a0 nb c) := by rw [hwb]; simp [go_sem]
  have q1 : wb.cell? ⟨w.heap.size, 1, none⟩ = some (.int .i64 wd) := by rw [hwb]; simp [go_sem]
  have q2 : wb.cell? ⟨w.heap.size, 2, none⟩ = some (.int .i64 n) := by rw [hwb]; simp [go_sem]
  have f0 : ∀ W, Below wb.heap.size wb W → W.cell? ⟨w.heap.size, 0, none⟩ = some (.slice a0 nb c) := fun W h => (h.cell (p := ⟨w.heap.size, 0, none⟩) hl0).trans q0
  have f1 : ∀ W, Below wb.heap.size wb W → W.cell? ⟨w.heap.size, 1, none⟩ = some (.int .i64 wd) := fun W h => (h.cell (p := ⟨w.heap.size, 1, none⟩) hl0).trans q1
  have f2 : ∀ W, Below wb.heap.size wb W → W.cell? ⟨w.heap.size, 2, none⟩ = some (.int .i64 n) := fun W h => (h.cell (p := ⟨w.heap.size, 2, none⟩) hl0).trans q2
  have HK2 : Hid (Calls Try.prog 9 #[] (w.alloc (.cells #[.slice a0 nb c, .int .i64 wd, .int .i64 n, .int .i64 op, .int .u64 cc, .int .u64 lo, .int .u64 hi, .slice a1 n1 c1] 26)) fun e w' => e = .returned (.bool true) ∧ Below wb.heap.size wb w') := by
    rw [← hwb]; exact HK.out wb
  clear hwb q0 q1 q2 HK
  cases hlg : (decide (1048576 < n) && decide (n ≤ 16777216)) && (wd == 0) with
  | true =>
    obtain ⟨hlg1, hlg2⟩ := Bool.and_eq_true_iff.1 hlg
    have HL1 : Hid ((decide (1048576 < n) && decide (n ≤ 16777216)) = true) := hlg1
    clear hlg hlg1
    go_enter Try.func3, Try.ntmps3
    go_wp2_with (first
      | (go_at_call 9; refine HK2.out.mono ?_; rintro e w1 ⟨rfl, hb1⟩; have g1 := f1 w1 hb1; have g2 := f2 w1 hb1)
      | (go_at_call 10; refine (HLG.out _).mono ?_; rintro e wz ⟨rfl, hwz⟩; subst wz; rw [HL1.out]))
    go_ret
    exact ⟨rfl, below_on hb0 hb1⟩
  | false =>
    obtain ⟨lg, hlg1⟩ : ∃ lg, (decide (1048576 < n) && decide (n ≤ 16777216)) = lg := ⟨_, rfl⟩
    rw [hlg1] at hlg
    have HL1 : Hid ((decide (1048576 < n) && decide (n ≤ 16777216)) = lg) := hlg1
    clear hlg1
    have hcase : lg = false ∨ (lg = true ∧ (wd == 0) = false) := by cases lg <;> simp_all
    clear hlg
    have eE : (E == E) = true := by simp
    have es1 : ((s1 : Int) == (s1 : Int)) = true := by simp
    have es2 : ((s2 : Int) == (s2 : Int)) = true := by simp
    have et1 : ((t1 : Int) == (t1 : Int)) = true := by simp
    have et2 : ((t2 : Int) == (t2 : Int)) = true := by simp
    rcases hcase with rfl | ⟨rfl, hwz0⟩
    all_goals
      go_enter Try.func3, Try.ntmps3
      go_wp2_with (first
        | (go_at_call 9; refine HK2.out.mono ?_; rintro e w1 ⟨rfl, hb1⟩; have g0 := f0 w1 hb1; have g1 := f1 w1 hb1; have g2 := f2 w1 hb1)
        | (go_at_call 10; refine (HLG.out _).mono ?_; rintro e wz ⟨rfl, hwz⟩; subst wz; rw [HL1.out]))
      refine (HRS.out _ (below_on hb0 hb1)).mono ?_
      rintro e w2 ⟨rfl, hb2⟩
      have hb12 : Below wb.heap.size wb w2 := below_on hb1 hb2
      clear g0 g1 g2 hb1 hb2 HK2 HRS HLG HL1
      go_wp2
      go_region_held3 (fun W => Below wb.heap.size wb W) (first | assumption | exact Below.drew (by assumption)) (first
        | (go_at_call 13; refine (HTW.out _ (below_on hb0 (by assumption))).mono ?_; rintro e w3 ⟨a2, c2, rfl, hc1, hc2, hn3, hb3⟩; have hS3 : Below wb.heap.size wb w3 := below_on (by assumption) hb3)
        | (go_at_call 12; refine (HS.out a2 c2 _ hc1 hc2 hn3).mono ?_; rintro e w4 ⟨rfl, hb4⟩; have hS4 : Below wb.heap.size wb w4 := below_on (by assumption) hb4))
      all_goals (have k0 := f0 w4 hS4; have k1 := f1 w4 hS4; have k2 := f2 w4 hS4)
      all_goals (go_wp2_with (go_at_call 14; refine (HRE.out _ (below_on hb0 hS4)).mono ?_; rintro e w5 ⟨rfl, hb5⟩; have hS5 : Below wb.heap.size wb w5 := below_on hS4 hb5))
      all_goals (clear k0 k1 k2 hS4 hb4 hS3 hb3 hn3 hc1 hc2 hb12 hb5)
      all_goals (go_region_held3 (fun W => Below wb.heap.size wb W) (first | assumption | exact Below.drew (by assumption)) (first
        | (go_at_call 13; refine (HTW.out _ (below_on hb0 (by assumption))).mono ?_; rintro e w6 ⟨a3, c3, rfl, hc1, hc2, hn6, hb6⟩; have hS6 : Below wb.heap.size wb w6 := below_on (by assumption) hb6)
        | (go_at_call 15; refine (HN.out a3 c3 _ hc1 hc2 hn6).mono ?_; rintro e w7 ⟨rfl, hb7⟩; have hS7 : Below wb.heap.size wb w7 := below_on (by assumption) hb7)))
      all_goals go_wp2
      all_goals go_ret
      all_goals exact ⟨rfl, below_on hb0 hS7⟩
end Go.Proofs.Ytoephmcmmbhnaab
