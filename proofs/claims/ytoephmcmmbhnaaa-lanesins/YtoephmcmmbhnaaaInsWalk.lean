/-
  THE WALK OF LanesIns.
-/
import Derived.Test.YtoephmcmmbhnaaaLKnown
import Derived.Test.YtoephmcmmbhnaaaLRefI
import Derived.Test.YtoephmcmmbhnaaaLIn2
import Derived.Test.YtoephmcmmbhnaaaLStruct
import Derived.Deep.RegionHeld3
namespace Go.Proofs.Ytoephmcmmbhnaaa
open Go.RowKit Ln

set_option maxHeartbeats 2000000 in
set_option maxRecDepth 20000 in
theorem walk_lanesIns (w : World) (a0 : Option Addr) (nb c : Nat) (B : Nat → Nat) (wd n op cc lo hi : Int) (a1 : Option Addr) (n1 c1 : Nat) (L : Nat → Nat) (hA : NumArg w .u8 a0 nb c B 256 (140737488351232 / 1))
    (_hwd : -9223372036854775808 ≤ wd ∧ wd ≤ 9223372036854775807) (_hn : -9223372036854775808 ≤ n ∧ n ≤ 9223372036854775807) (_hop : -9223372036854775808 ≤ op ∧ op ≤ 9223372036854775807)
    (_hcc : 0 ≤ cc ∧ cc < ((18446744073709551616 : Nat) : Int)) (_hlo : 0 ≤ lo ∧ lo < ((18446744073709551616 : Nat) : Int)) (_hhi : 0 ≤ hi ∧ hi < ((18446744073709551616 : Nat) : Int)) (hL : NumArg w .u64 a1 n1 c1 L 18446744073709551616 (140737488351232 / 8)) :
    Calls Try.prog 8 #[.agg #[.slice a0 nb c, .int .i64 wd, .int .i64 n, .int .i64 op, .int .u64 cc, .int .u64 lo, .int .u64 hi, .slice a1 n1 c1]] w fun e w' => e = .returned (.bool true) ∧ Below w.heap.size w w' := by
  have hn1 : n1 ≤ 17592186043904 := by have := hL.2.2.2.1; have := hL.2.2.2.2.1; omega
  have hnil1 := hL.2.2.2.2.2
  have HLL : Hid (∀ j, L j < 18446744073709551616) := hL.2.1
  have hP := pArg_of hA
  have hnil := hA.2.2.2.2.2
  have HK : Hid (∀ W, Calls Try.prog 11 #[] W fun e w' => e = .returned (.bool true) ∧ Below W.heap.size W w') := fun W => known_yes W
  have HLG : Hid (∀ W, Calls Try.prog 17 #[.int .i64 n] W fun e w' => e = .returned (.bool (decide (1048576 < n) && decide (n ≤ 16777216))) ∧ w' = W) := fun W => large_any n W
  have HRT : Hid (∀ W, Below w.heap.size w W → Calls Try.prog 24 #[.slice a0 nb c, .int .i64 wd, .int .i64 n, .slice a1 n1 c1] W (BAns W (pfE nb B wd n) n.toNat (fun i => anyB L n1 (laneOf (bitB B) wd.toNat i)))) := fun W hW => refIn_any a0 nb c B wd n a1 n1 c1 L W (hP.later hW) hn1 (hL.1.later hW)
  have HTW : Hid (∀ W, Below w.heap.size w W → Calls Try.prog 20 #[.slice a0 nb c] W fun e w' => ∃ a2 c2, e = .returned (.slice a2 nb c2) ∧ nb ≤ c2 ∧ c2 ≤ maxLen ∧ Nums w' .u8 a2 nb B ∧ Below W.heap.size W w') := fun W hW => twin_any a0 nb c B W hP.small (hP.nums.later hW) hnil
  have HT : Hid (∀ (a2 a5 : Option Addr) (c2 c5 : Nat) W, nb ≤ c2 → c2 ≤ maxLen → Nums W .u8 a2 nb B → Nums W .u64 a5 n1 L → Calls Try.prog 25 #[.slice a2 nb c2, .int .i64 wd, .int .i64 n, .slice a5 n1 c5] W (SetAns W (pfE nb B wd n) n.toNat (fun i => anyB L n1 (laneOf (bitB B) wd.toNat i)))) := fun a2 a5 c2 c5 W h1 h2 h3 h7 => In_any a2 a5 nb c2 n1 c5 B L wd n W ⟨hP.small, h1, by simp [maxLen] at h2; omega, hP.byte, hP.out, h3⟩ hn1 HLL.out h7
  have HTE : Hid (pfE nb B wd n = 0 → n.toNat ≤ 16777216) := fun h => by
    obtain ⟨k, m, _, rfl, _, hm, _⟩ := pfE_ok h
    simpa using hm
  have HL0 : Hid (Nums w .u64 a1 n1 L) := hL.1
  clear hA hP hnil hL
  obtain ⟨wb, hwb⟩ : ∃ wb, wb = w.alloc (.cells #[.slice a0 nb c, .int .i64 wd, .int .i64 n, .int .i64 op, .int .u64 cc, .int .u64 lo, .int .u64 hi, .slice a1 n1 c1] 34) := ⟨_, rfl⟩
  have hb0 : Below w.heap.size w wb := by rw [hwb]; exact (Grew.alloc w _).below
  have hl0 : w.heap.size < wb.heap.size := by rw [hwb]; simp
  have q0 : wb.cell? ⟨w.heap.size, 0, none⟩ = some (.slice a0 nb c) := by rw [hwb]; simp [go_sem]
  have q1 : wb.cell? ⟨w.heap.size, 1, none⟩ = some (.int .i64 wd) := by rw [hwb]; simp [go_sem]
  have q2 : wb.cell? ⟨w.heap.size, 2, none⟩ = some (.int .i64 n) := by rw [hwb]; simp [go_sem]
  have q3 : wb.cell? ⟨w.heap.size, 7, none⟩ = some (.slice a1 n1 c1) := by rw [hwb]; simp [go_sem]
  have f0 : ∀ W, Below wb.heap.size wb W → W.cell? ⟨w.heap.size, 0, none⟩ = some (.slice a0 nb c) := fun W h => (h.cell (p := ⟨w.heap.size, 0, none⟩) hl0).trans q0
  have f1 : ∀ W, Below wb.heap.size wb W → W.cell? ⟨w.heap.size, 1, none⟩ = some (.int .i64 wd) := fun W h => (h.cell (p := ⟨w.heap.size, 1, none⟩) hl0).trans q1
  have f2 : ∀ W, Below wb.heap.size wb W → W.cell? ⟨w.heap.size, 2, none⟩ = some (.int .i64 n) := fun W h => (h.cell (p := ⟨w.heap.size, 2, none⟩) hl0).trans q2
  have f3 : ∀ W, Below wb.heap.size wb W → W.cell? ⟨w.heap.size, 7, none⟩ = some (.slice a1 n1 c1) := fun W h => (h.cell (p := ⟨w.heap.size, 7, none⟩) hl0).trans q3
  have HWB : Hid (wb = w.alloc (.cells #[.slice a0 nb c, .int .i64 wd, .int .i64 n, .int .i64 op, .int .u64 cc, .int .u64 lo, .int .u64 hi, .slice a1 n1 c1] 34)) := hwb
  clear hwb q0 q1 q2 q3
  have HK2 : Hid (Calls Try.prog 11 #[] (w.alloc (.cells #[.slice a0 nb c, .int .i64 wd, .int .i64 n, .int .i64 op, .int .u64 cc, .int .u64 lo, .int .u64 hi, .slice a1 n1 c1] 34)) fun e w' => e = .returned (.bool true) ∧ Below wb.heap.size wb w') := by
    rw [← HWB.out]; exact HK.out wb
  cases hlg : (decide (1048576 < n) && decide (n ≤ 16777216)) && (wd == 0) with
  | true =>
    obtain ⟨hlg1, hlg2⟩ := Bool.and_eq_true_iff.1 hlg
    have HL1 : Hid ((decide (1048576 < n) && decide (n ≤ 16777216)) = true) := hlg1
    clear hlg hlg1
    go_enter Try.func8, Try.ntmps8
    go_wp2_with (first
      | (go_at_call 11; refine HK2.out.mono ?_; rintro e w1 ⟨rfl, hb1⟩; have g1 := f1 w1 hb1; have g2 := f2 w1 hb1)
      | (go_at_call 17; refine (HLG.out _).mono ?_; rintro e wz ⟨rfl, hwz⟩; subst wz; rw [HL1.out]))
    go_ret
    exact ⟨rfl, below_on hb0 hb1⟩
  | false =>
    obtain ⟨lg, hlg1⟩ : ∃ lg, (decide (1048576 < n) && decide (n ≤ 16777216)) = lg := ⟨_, rfl⟩
    rw [hlg1] at hlg
    have HL1 : Hid ((decide (1048576 < n) && decide (n ≤ 16777216)) = lg) := hlg1
    clear hlg1
    have hcase : lg = false ∨ (lg = true ∧ (wd == 0) = false) := by cases lg <;> simp_all
    clear hlg
    rcases hcase with rfl | ⟨rfl, hwz0⟩
    all_goals
      go_enter Try.func8, Try.ntmps8
      go_wp2_with (first
        | (go_at_call 11; refine HK2.out.mono ?_; rintro e w1 ⟨rfl, hb1⟩; have g0 := f0 w1 hb1; have g1 := f1 w1 hb1; have g2 := f2 w1 hb1; have g3 := f3 w1 hb1)
        | (go_at_call 17; refine (HLG.out _).mono ?_; rintro e wz ⟨rfl, hwz⟩; subst wz; rw [HL1.out]))
      refine (HRT.out _ (below_on hb0 hb1)).mono ?_
      rintro e w2 ⟨hb2, hres⟩
      have hb02 : Below w.heap.size w w2 := below_on hb0 (below_on hb1 hb2)
      have k3 := f3 w2 (below_on hb1 hb2)
      obtain ⟨v', w9, hr9, hO9, hg9, _⟩ := run_many (t := 32) (ty := 32) (B := w2.heap.size) Try.underlying32 infoU64 (Own.nil w2 w2.heap.size 22 .u64 L) (HL0.out.later hb02) hnil1 (by omega) (by omega) (Nat.le_refl _)
      have hO9' : Own w9 w2.heap.size 22 .u64 v' n1 L := by
        have h2 : Own w9 w2.heap.size 22 .u64 v' n1 (cat 0 L L) := by simpa using hO9
        exact h2.ext fun j _ => by unfold cat; simp
      have hb9 : Below w2.heap.size w2 w9 := (Below.refl _ w2).grown hg9 (Nat.le_refl _) (fun k hk => by simp [Value.ownBlock] at hk)
      obtain ⟨a5, c5, rfl, _, _, _⟩ := hO9'.form
      have HR9 : Hid ((Builtin.append_ #[32, 32] 32 #[.slice none 0 0, .slice a1 n1 c1]).run Try.prog w2 = .ok (.slice a5 n1 c5) w9) := hr9
      have HN9 : Hid (Nums w9 .u64 a5 n1 L) := hO9'.nums
      clear hO9 hO9' hg9 hr9
      rcases hres with ⟨hE, rfl⟩ | ⟨hE, a3, c3, rfl, hbn⟩
      · have HT1 : Hid (∀ (a2 a5 : Option Addr) (c2 c5 : Nat) W, nb ≤ c2 → c2 ≤ maxLen → Nums W .u8 a2 nb B → Nums W .u64 a5 n1 L → Calls Try.prog 25 #[.slice a2 nb c2, .int .i64 wd, .int .i64 n, .slice a5 n1 c5] W fun e w' => e = .returned (.tuple #[.pointer none, .int .i64 (pfE nb B wd n)]) ∧ Below W.heap.size W w') := fun a2 a5 c2 c5 W h1 h2 h3 h7 => by
          refine (HT.out a2 a5 c2 c5 W h1 h2 h3 h7).mono ?_
          rintro e w' ⟨h4, h5⟩
          rcases h5 with ⟨_, h6⟩ | ⟨h6, _⟩
          · exact ⟨h6, h4⟩
          · exact absurd h6 hE
        have hb12 : Below wb.heap.size wb w9 := below_on (below_on hb1 hb2) hb9
        have HLK : Hid (∀ W v, Calls Try.prog 21 #[.pointer none, v, .int .i64 (pfE nb B wd n)] W fun e w' => e = .returned (.bool true) ∧ w' = W) := fun W v => like_err _ v W hE
        have heq : (pfE nb B wd n == pfE nb B wd n) = true := by simp
        clear HT HRT hE g0 g1 g2 g3 hb1 hb2 hb02 HTE HK2
        generalize pfE nb B wd n = E at *
        go_wp2_with (at_builtin; refine wpList_app (by rfl) (by rfl) HR9.out ?_)
        go_region_held3 (fun W => Below wb.heap.size wb W) (first | assumption | exact Below.drew (by assumption)) (first
          | (go_at_call 20; refine (HTW.out _ (below_on hb0 (by assumption))).mono ?_; rintro e w3 ⟨a2, c2, rfl, hc1, hc2, hn3, hb3⟩; have hS3 : Below wb.heap.size wb w3 := below_on (by assumption) hb3; have hT3 : Below w9.heap.size w9 w3 := below_on (Below.refl _ w9).drew hb3)
          | (go_at_call 25; refine (HT1.out a2 a5 c2 c5 _ hc1 hc2 hn3 (HN9.out.later hT3)).mono ?_; rintro e w4 ⟨rfl, hb4⟩; have hS4 : Below wb.heap.size wb w4 := below_on (by assumption) hb4))
        all_goals (go_wp2_with (go_at_call 21; refine (HLK.out _ _).mono ?_; rintro e wz ⟨rfl, hwz⟩; subst wz))
        all_goals go_ret
        all_goals exact ⟨rfl, below_on hb0 hS4⟩
      · have HT0 : Hid (∀ (a2 a5 : Option Addr) (c2 c5 : Nat) W, nb ≤ c2 → c2 ≤ maxLen → Nums W .u8 a2 nb B → Nums W .u64 a5 n1 L → Calls Try.prog 25 #[.slice a2 nb c2, .int .i64 wd, .int .i64 n, .slice a5 n1 c5] W fun e w' => ∃ d, e = .returned (.tuple #[.pointer (some ⟨d, 0, none⟩), .int .i64 0]) ∧ Bt.SetF w' d n.toNat (fun i => decide (i < n.toNat) && anyB L n1 (laneOf (bitB B) wd.toNat i)) ∧ Below W.heap.size W w') := fun a2 a5 c2 c5 W h1 h2 h3 h7 => by
          refine (HT.out a2 a5 c2 c5 W h1 h2 h3 h7).mono ?_
          rintro e w' ⟨h4, h5⟩
          rcases h5 with ⟨h6, _⟩ | ⟨_, d, g, h6, _, _, h7⟩
          · exact absurd hE h6
          · exact ⟨d, h6, h7.is, h4⟩
        have hb12 : Below wb.heap.size wb w9 := below_on (below_on hb1 hb2) hb9
        have hmm := HTE.out hE
        have HLK : Hid (∀ (W : World) (d : Nat), Below w2.heap.size w2 W → Bt.SetF W d n.toNat (fun i => decide (i < n.toNat) && anyB L n1 (laneOf (bitB B) wd.toNat i)) → Calls Try.prog 21 #[.pointer (some ⟨d, 0, none⟩), .slice a3 n.toNat c3, .int .i64 0] W fun e w' => e = .returned (.bool true) ∧ ∃ j, w' = W.drewN j) := fun W d h1 h2 => like_yes d n.toNat c3 _ a3 W h2 hmm (hbn.later h1).cut
        clear HT HRT hE g0 g1 g2 g3 hb1 hb2 hb02 HTE hbn HK2
        generalize n.toNat = nn at *
        go_wp2_with (at_builtin; refine wpList_app (by rfl) (by rfl) HR9.out ?_)
        go_region_held3 (fun W => Below wb.heap.size wb W) (first | assumption | exact Below.drew (by assumption)) (first
          | (go_at_call 20; refine (HTW.out _ (below_on hb0 (by assumption))).mono ?_; rintro e w3 ⟨a2, c2, rfl, hc1, hc2, hn3, hb3⟩; have hS3 : Below wb.heap.size wb w3 := below_on (by assumption) hb3; have hT3 : Below w9.heap.size w9 w3 := below_on (Below.refl _ w9).drew hb3)
          | (go_at_call 25; refine (HT0.out a2 a5 c2 c5 _ hc1 hc2 hn3 (HN9.out.later hT3)).mono ?_; rintro e w4 ⟨d, rfl, hs4, hb4⟩; have hS4 : Below wb.heap.size wb w4 := below_on (by assumption) hb4; have hT4 : Below w2.heap.size w2 w4 := below_on (below_on hb9 hT3) hb4))
        all_goals (go_wp2_with (go_at_call 21; refine (HLK.out _ d hT4 hs4).mono ?_; rintro e w6 ⟨rfl, j6, hw6⟩; subst hw6))
        all_goals go_ret
        all_goals exact ⟨rfl, below_on hb0 (below_on hS4 (Grew.drewN _ _).below)⟩
end Go.Proofs.Ytoephmcmmbhnaaa
