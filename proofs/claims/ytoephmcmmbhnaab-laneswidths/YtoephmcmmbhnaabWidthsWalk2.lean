/-
  THE WALK OF LanesWidths (made by mklist.py).
-/
import Derived.Test.YtoephmcmmbhnaabPackedWalk
namespace Go.Proofs.Ytoephmcmmbhnaab
open Go.RowKit Ln
open Bt (packF)

theorem tmod_bound (x : Int) (d : Nat) (hd : 0 < d) : -(d : Int) < x.tmod (d : Int) ∧ x.tmod (d : Int) < (d : Int) := by
  by_cases h0 : 0 ≤ x
  · rw [Int.tmod_eq_emod_of_nonneg h0]
    have h1 := Int.emod_nonneg x (show (d : Int) ≠ 0 by omega)
    have h2 := Int.emod_lt_of_pos x (show (0 : Int) < (d : Int) by omega)
    omega
  · obtain ⟨y, rfl⟩ : ∃ y : Int, x = -y := ⟨-x, by omega⟩
    rw [Int.neg_tmod, Int.tmod_eq_emod_of_nonneg (by omega)]
    have h1 := Int.emod_nonneg y (show (d : Int) ≠ 0 by omega)
    have h2 := Int.emod_lt_of_pos y (show (0 : Int) < (d : Int) by omega)
    omega
theorem wide_of (k : Nat) (more : Int) (hk : k ≤ 64) : ∃ (d : Nat) (t1 t2 t3 : Int) (r k2 : Nat), (65 : Int) - (k : Int) = (d : Int) ∧ d ≠ 0 ∧ more.tmod (d : Int) = t1 ∧ t1 + 65 = t2 ∧ t2 - (k : Int) = t3 ∧ t3.tmod (d : Int) = (r : Int) ∧ (k : Int) + (r : Int) = (k2 : Int) ∧ k ≤ k2 ∧ k2 ≤ 64 ∧ d ≤ 65 ∧ -65 ≤ t1 ∧ t1 ≤ 65 := by
  obtain ⟨d, hd⟩ : ∃ d : Nat, 65 - k = d := ⟨_, rfl⟩
  have hd0 : 0 < d := by omega
  have hb := tmod_bound more d hd0
  have h3 : 0 ≤ more.tmod (d : Int) + 65 - (k : Int) := by omega
  have h4 := tmod_bound (more.tmod (d : Int) + 65 - (k : Int)) d hd0
  have h5 : 0 ≤ (more.tmod (d : Int) + 65 - (k : Int)).tmod (d : Int) := by
    rw [Int.tmod_eq_emod_of_nonneg h3]; exact Int.emod_nonneg _ (by omega)
  obtain ⟨r, hr⟩ : ∃ r : Nat, (more.tmod (d : Int) + 65 - (k : Int)).tmod (d : Int) = (r : Int) := ⟨((more.tmod (d : Int) + 65 - (k : Int)).tmod (d : Int)).toNat, by omega⟩
  exact ⟨d, _, _, _, r, k + r, by omega, by omega, rfl, rfl, rfl, hr, by omega, by omega, by omega, by omega, by omega, by omega⟩

set_option maxHeartbeats 8000000 in
set_option maxRecDepth 20000 in
theorem walk_lanesWidths (w : World) (a0 : Option Addr) (n c : Nat) (L0 : Nat → Nat) (wd cc lo hi : Int) (a1 : Option Addr) (n1 c1 : Nat) (L : Nat → Nat) (more : Int) (hA : NumArg w .u64 a0 n c L0 18446744073709551616 (140737488351232 / 8))
    (hwd : -9223372036854775808 ≤ wd ∧ wd ≤ 9223372036854775807) (hcc : 0 ≤ cc ∧ cc < ((18446744073709551616 : Nat) : Int)) (hlo : 0 ≤ lo ∧ lo < ((18446744073709551616 : Nat) : Int)) (hhi : 0 ≤ hi ∧ hi < ((18446744073709551616 : Nat) : Int)) (hL : NumArg w .u64 a1 n1 c1 L 18446744073709551616 (140737488351232 / 8)) (_hm : -9223372036854775808 ≤ more ∧ more ≤ 9223372036854775807) :
    Calls Try.prog 7 #[.agg #[.slice a0 n c, .int .i64 wd, .int .u64 cc, .int .u64 lo, .int .u64 hi, .slice a1 n1 c1], .int .i64 more] w fun e w' => e = .returned (.bool true) ∧ Below w.heap.size w w' := by
  obtain ⟨cc, rfl⟩ : ∃ v : Nat, cc = (v : Int) := ⟨cc.toNat, by omega⟩
  obtain ⟨lo, rfl⟩ : ∃ v : Nat, lo = (v : Int) := ⟨lo.toNat, by omega⟩
  obtain ⟨hi, rfl⟩ : ∃ v : Nat, hi = (v : Int) := ⟨hi.toNat, by omega⟩
  have hc2 : cc < 18446744073709551616 := by omega
  have hl2 : lo < 18446744073709551616 := by omega
  have hn0 : n ≤ 17592186043904 := by have := hA.2.2.2.1; have := hA.2.2.2.2.1; omega
  have hn1 : n1 ≤ 17592186043904 := by have := hL.2.2.2.1; have := hL.2.2.2.2.1; omega
  have HK : Hid (∀ W, Calls Try.prog 9 #[] W fun e w' => e = .returned (.bool true) ∧ Below W.heap.size W w') := fun W => known_yes W
  have HFIT : Hid (∀ W, Below w.heap.size w W → Calls Try.prog 26 #[.agg #[.slice a0 n c, .int .i64 wd, .int .u64 (cc : Int), .int .u64 (lo : Int), .int .u64 (hi : Int), .slice a1 n1 c1]] W fun e w' => ∃ a2 c2, e = .returned (.tuple #[.slice a2 n c2, .int .i64 (fitK wd : Int)]) ∧ Nums w' .u64 a2 n (fun j => L0 j % 2 ^ fitK wd) ∧ Below W.heap.size W w') := fun W hW => by
    refine (fit_any a0 a1 n c n1 c1 L0 wd _ _ _ W hwd hn0 hA.2.1 (hA.1.later hW)).mono ?_
    rintro e w' ⟨a2, c2, h1, h2, h3⟩
    exact ⟨a2, c2, h1, h2.nums, h3⟩
  have HF : Hid (∀ j, L0 j % 2 ^ fitK wd < 2 ^ fitK wd) := fun j => Nat.mod_lt _ (Nat.pos_of_ne_zero (by simp))
  have hk := fitK_le wd
  have HLL : Hid (∀ j, L j < 18446744073709551616) := hL.2.1
  have HL0 : Hid (Nums w .u64 a1 n1 L) := hL.1
  clear hA hL hcc hlo hhi
  generalize fitK wd = k at *
  generalize hFF : (fun j => L0 j % 2 ^ k) = F at *
  have hF' : ∀ j, L0 j % 2 ^ k = F j := fun j => by rw [← hFF]
  simp only [hF'] at HF
  clear hFF hF'
  obtain ⟨wb, hwb⟩ : ∃ wb, wb = w.alloc (.cells #[.slice a0 n c, .int .i64 wd, .int .u64 (cc : Int), .int .u64 (lo : Int), .int .u64 (hi : Int), .slice a1 n1 c1] 50) := ⟨_, rfl⟩
  have hb0 : Below w.heap.size w wb := by rw [hwb]; exact (Grew.alloc w _).below
  have hl0 : w.heap.size < wb.heap.size := by rw [hwb]; simp
  have q0 : wb.cell? ⟨w.heap.size, 0, none⟩ = some (.slice a0 n c) := by rw [hwb]; simp [go_sem]
  have q1 : wb.cell? ⟨w.heap.size, 1, none⟩ = some (.int .i64 wd) := by rw [hwb]; simp [go_sem]
  have q2 : wb.cell? ⟨w.heap.size, 2, none⟩ = some (.int .u64 (cc : Int)) := by rw [hwb]; simp [go_sem]
  have q3 : wb.cell? ⟨w.heap.size, 3, none⟩ = some (.int .u64 (lo : Int)) := by rw [hwb]; simp [go_sem]
  have q4 : wb.cell? ⟨w.heap.size, 4, none⟩ = some (.int .u64 (hi : Int)) := by rw [hwb]; simp [go_sem]
  have q5 : wb.cell? ⟨w.heap.size, 5, none⟩ = some (.slice a1 n1 c1) := by rw [hwb]; simp [go_sem]
  have f0 : Hid (∀ W, Below wb.heap.size wb W → W.cell? ⟨w.heap.size, 0, none⟩ = some (.slice a0 n c)) := fun W h => (h.cell (p := ⟨w.heap.size, 0, none⟩) hl0).trans q0
  have f1 : Hid (∀ W, Below wb.heap.size wb W → W.cell? ⟨w.heap.size, 1, none⟩ = some (.int .i64 wd)) := fun W h => (h.cell (p := ⟨w.heap.size, 1, none⟩) hl0).trans q1
  have f2 : Hid (∀ W, Below wb.heap.size wb W → W.cell? ⟨w.heap.size, 2, none⟩ = some (.int .u64 (cc : Int))) := fun W h => (h.cell (p := ⟨w.heap.size, 2, none⟩) hl0).trans q2
  have f3 : Hid (∀ W, Below wb.heap.size wb W → W.cell? ⟨w.heap.size, 3, none⟩ = some (.int .u64 (lo : Int))) := fun W h => (h.cell (p := ⟨w.heap.size, 3, none⟩) hl0).trans q3
  have f4 : Hid (∀ W, Below wb.heap.size wb W → W.cell? ⟨w.heap.size, 4, none⟩ = some (.int .u64 (hi : Int))) := fun W h => (h.cell (p := ⟨w.heap.size, 4, none⟩) hl0).trans q4
  have f5 : Hid (∀ W, Below wb.heap.size wb W → W.cell? ⟨w.heap.size, 5, none⟩ = some (.slice a1 n1 c1)) := fun W h => (h.cell (p := ⟨w.heap.size, 5, none⟩) hl0).trans q5
  have HWB : Hid (wb = w.alloc (.cells #[.slice a0 n c, .int .i64 wd, .int .u64 (cc : Int), .int .u64 (lo : Int), .int .u64 (hi : Int), .slice a1 n1 c1] 50)) := hwb
  have HB0 : Hid (Below w.heap.size w wb) := hb0
  clear hwb q0 q1 q2 q3 q4 q5 hb0
  go_enter Try.func7, Try.ntmps7
  go_wp2_with fail
  rw [← HWB.out]
  refine (HK.out _).mono ?_
  rintro e w1 ⟨rfl, hb1⟩
  have g0 := f0.out w1 hb1
  have g1 := f1.out w1 hb1
  have g2 := f2.out w1 hb1
  have g3 := f3.out w1 hb1
  have g4 := f4.out w1 hb1
  have g5 := f5.out w1 hb1
  go_wp2_with fail
  refine (HFIT.out _ (below_on HB0.out hb1)).mono ?_
  rintro e w2 ⟨a2, c2, rfl, hN2, hb2⟩
  have h12 : Below wb.heap.size wb w2 := below_on hb1 hb2
  clear g0 g1 g2 g3 g4 g5 hb1 hb2
  by_cases hbig : 16777216 < n
  · have hbd : decide ((n : Int) > 16777216) = true := by simp; omega
    have HE : Hid (Below w.heap.size w w2) := below_on HB0.out h12
    clear h12 hN2
    go_wp2
    go_ret
    exact ⟨rfl, HE.out⟩
  have hn : n ≤ 16777216 := by omega
  have hbd : decide ((n : Int) > 16777216) = false := by simp; omega
  obtain ⟨dd, t1, t2, t3, r, k2, e1, e2, e3, e4, e5, e6, e7, hk2, hk64, hdd, ht1, ht2⟩ := wide_of k more hk
  have e2i : ¬ ((dd : Int) = 0) := by omega
  have w1' : IntKind.i64.wrap (dd : Int) = (dd : Int) := i64_left _ (by omega) (by omega)
  have w2' : IntKind.i64.wrap t1 = t1 := i64_left _ (by omega) (by omega)
  have w3' : IntKind.i64.wrap t2 = t2 := i64_left _ (by omega) (by omega)
  have w4' : IntKind.i64.wrap t3 = t3 := i64_left _ (by omega) (by omega)
  have w5' : IntKind.i64.wrap (k2 : Int) = (k2 : Int) := i64_left _ (by omega) (by omega)
  have HF2 : Hid (∀ j, F j < 2 ^ k2) := fun j => Nat.lt_of_lt_of_le (HF.out j) (Nat.pow_le_pow_right (n := 2) (by omega) hk2)
  go_wp2_with fail
  clear e1 e2 e3 e4 e5 e6 e7 e2i w1' w2' w3' w4' w5' ht1 ht2 hdd
  refine (pack_pkd a2 n c2 k F _ hn hk HF.out hN2).mono ?_
  rintro e w3 ⟨g, nb, rfl, _, _, hP3, hb3⟩
  have HN3 : Hid (Nums w3 .u64 a2 n F) := hN2.later hb3
  have h13 : Below wb.heap.size wb w3 := below_on h12 hb3
  clear h12 hb3 hN2
  go_wp2_with fail
  refine (pack_pkd a2 n c2 k2 F _ hn hk64 HF2.out HN3.out).mono ?_
  rintro e w4 ⟨g2, nb2, rfl, _, _, hP4, hb4⟩
  have HP : Hid (Pkd w4 (some ⟨g, 0, none⟩) nb nb n k F) := hP3.later hb4
  have HP2 : Hid (Pkd w4 (some ⟨g2, 0, none⟩) nb2 nb2 n k2 F) := hP4
  have H14 : Hid (Below wb.heap.size wb w4) := below_on h13 hb4
  clear h13 hb4 hP3 hP4 HN3
  go_wp2_with fail
  go_loopw [13] (fun s13 wr => ∃ op : Nat, 1 ≤ op ∧ op ≤ 7 ∧ s13 = .int .i64 op ∧ Hid (Below w4.heap.size w4 wr)) (fun s13 _ => 7 - (intOf s13).toNat)
  case atStart => exact ⟨1, by omega, by omega, rfl, Below.refl _ _⟩
  case round =>
    obtain ⟨op, h1, h7, rfl, HB⟩ := hrel
    have HBW : Hid (Below wb.heap.size wb wr) := below_on H14.out HB.out
    by_cases hlt : op ≤ 6
    · have hbi : (op : Int) ≤ 6 := by omega
      have g2' := f2.out wr HBW.out
      go_wp2_with fail
      refine (test_pk (HP.out.later HB.out) op cc (by omega) hc2).mono ?_
      intro e w5 ho
      obtain ⟨d5, rfl, hS5, hb5⟩ := okSet_set ho
      clear ho g2'
      have HB5 : Hid (Below w4.heap.size w4 w5) := below_on HB.out hb5
      have g2' := f2.out w5 (below_on H14.out HB5.out)
      go_wp2_with fail
      refine (test_pk (HP2.out.later HB5.out) op cc (by omega) hc2).mono ?_
      intro e w6 ho
      obtain ⟨d6, rfl, hS6, hb6⟩ := okSet_set ho
      clear ho g2'
      have HB6 : Hid (Below w4.heap.size w4 w6) := below_on HB5.out hb6
      have HS5 : Hid (Bt.SetF w6 d5 n (fun i => decide (i < n) && standsB op (F i) cc)) := hS5.later hb6
      have HS6 : Hid (Bt.SetF w6 d6 n (fun i => decide (i < n) && standsB op (F i) cc)) := hS6
      clear hS5 hS6 hb5 hb6
      go_wp2_with fail
      refine (same_yes d5 d6 n _ _ HS5.out HS6.out hn).mono ?_
      rintro e w7 ⟨rfl, j7, hw7⟩
      have HB7 : Hid (Below w4.heap.size w4 w7) := by rw [hw7]; exact below_on HB6.out (Grew.drewN _ _).below
      clear hw7
      go_wp2
      exact ⟨⟨op + 1, by omega, by omega, by go_num, HB7⟩, by simp [intOf]; omega⟩
    · have hbi : ¬ ((op : Int) ≤ 6) := by omega
      have g5 := f5.out wr HBW.out
      go_wp2_with fail
      refine (in_pk (HP.out.later HB.out) a1 n1 c1 L hn1 HLL.out (HL0.out.later (below_on HB0.out HBW.out))).mono ?_
      intro e w5 ho
      obtain ⟨d5, rfl, hS5, hb5⟩ := okSet_set ho
      clear ho g5
      have HB5 : Hid (Below w4.heap.size w4 w5) := below_on HB.out hb5
      have g5 := f5.out w5 (below_on H14.out HB5.out)
      go_wp2_with fail
      refine (in_pk (HP2.out.later HB5.out) a1 n1 c1 L hn1 HLL.out (HL0.out.later (below_on HB0.out (below_on H14.out HB5.out)))).mono ?_
      intro e w6 ho
      obtain ⟨d6, rfl, hS6, hb6⟩ := okSet_set ho
      clear ho g5
      have HB6 : Hid (Below w4.heap.size w4 w6) := below_on HB5.out hb6
      have HS5 : Hid (Bt.SetF w6 d5 n (fun i => decide (i < n) && anyB L n1 (F i))) := hS5.later hb6
      have HS6 : Hid (Bt.SetF w6 d6 n (fun i => decide (i < n) && anyB L n1 (F i))) := hS6
      clear hS5 hS6 hb5 hb6
      go_wp2_with fail
      refine (sum_pk (HP.out.later HB6.out)).mono ?_
      rintro e w7 ⟨rfl, hb7⟩
      have HB7 : Hid (Below w6.heap.size w6 w7) := hb7
      clear hb7
      go_wp2_with fail
      refine (sum_pk (HP2.out.later (below_on HB6.out HB7.out))).mono ?_
      rintro e w8 ⟨rfl, hb8⟩
      have HB8 : Hid (Below w6.heap.size w6 w8) := below_on HB7.out hb8
      clear hb8 HB7
      go_wp2_with fail
      refine (ends_pk (HP.out.later (below_on HB6.out HB8.out))).mono ?_
      rintro e w9 ⟨rfl, hb9⟩
      have HB9 : Hid (Below w6.heap.size w6 w9) := below_on HB8.out hb9
      clear hb9 HB8
      go_wp2_with fail
      refine (ends_pk (HP2.out.later (below_on HB6.out HB9.out))).mono ?_
      rintro e w10 ⟨rfl, hb10⟩
      have HB10 : Hid (Below w6.heap.size w6 w10) := below_on HB9.out hb10
      clear hb10 HB9
      go_wp2_with fail
      refine (same_yes d5 d6 n _ _ (HS5.out.later HB10.out) (HS6.out.later HB10.out) hn).mono ?_
      rintro e w11 ⟨rfl, j11, hw11⟩
      have HEN : Hid (Below w.heap.size w w11) := by rw [hw11]; exact below_on (below_on (below_on (below_on HB0.out H14.out) HB6.out) HB10.out) (Grew.drewN _ _).below
      clear hw11
      go_wp2
      go_ret
      exact ⟨by simp, HEN.out⟩
end Go.Proofs.Ytoephmcmmbhnaab
