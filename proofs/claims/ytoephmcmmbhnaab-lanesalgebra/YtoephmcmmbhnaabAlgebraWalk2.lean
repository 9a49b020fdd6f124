/-
  THE WALK OF LanesAlgebra (made by mklist.py).
-/
import Derived.Test.YtoephmcmmbhnaabPackedWalk
import Derived.Test.YtoephmcmmbhnaabLSeven
namespace Go.Proofs.Ytoephmcmmbhnaab
open Go.RowKit Ln
open Bt (packF)

set_option maxHeartbeats 8000000 in
set_option maxRecDepth 20000 in
theorem walk_lanesAlgebra (w : World) (a0 : Option Addr) (n c : Nat) (L0 : Nat → Nat) (wd cc lo hi : Int) (a1 : Option Addr) (n1 c1 : Nat) (L : Nat → Nat) (hA : NumArg w .u64 a0 n c L0 18446744073709551616 (140737488351232 / 8))
    (hwd : -9223372036854775808 ≤ wd ∧ wd ≤ 9223372036854775807) (hcc : 0 ≤ cc ∧ cc < ((18446744073709551616 : Nat) : Int)) (hlo : 0 ≤ lo ∧ lo < ((18446744073709551616 : Nat) : Int)) (hhi : 0 ≤ hi ∧ hi < ((18446744073709551616 : Nat) : Int)) (hL : NumArg w .u64 a1 n1 c1 L 18446744073709551616 (140737488351232 / 8)) :
    Calls Try.prog 8 #[.agg #[.slice a0 n c, .int .i64 wd, .int .u64 cc, .int .u64 lo, .int .u64 hi, .slice a1 n1 c1]] w fun e w' => e = .returned (.bool true) ∧ Below w.heap.size w w' := by
  obtain ⟨cc, rfl⟩ : ∃ v : Nat, cc = (v : Int) := ⟨cc.toNat, by omega⟩
  obtain ⟨lo, rfl⟩ : ∃ v : Nat, lo = (v : Int) := ⟨lo.toNat, by omega⟩
  obtain ⟨hi, rfl⟩ : ∃ v : Nat, hi = (v : Int) := ⟨hi.toNat, by omega⟩
  have hc2 : cc < 18446744073709551616 := by omega
  have hl2 : lo < 18446744073709551616 := by omega
  have hh2 : hi < 18446744073709551616 := by omega
  have hn0 : n ≤ 17592186043904 := by have := hA.2.2.2.1; have := hA.2.2.2.2.1; omega
  have hn1 : n1 ≤ 17592186043904 := by have := hL.2.2.2.1; have := hL.2.2.2.2.1; omega
  have HK : Hid (∀ W, Calls Try.prog 9 #[] W fun e w' => e = .returned (.bool true) ∧ Below W.heap.size W w') := fun W => known_yes W
  have HFIT : Hid (∀ W, Below w.heap.size w W → Calls Try.prog 26 #[.agg #[.slice a0 n c, .int .i64 wd, .int .u64 (cc : Int), .int .u64 (lo : Int), .int .u64 (hi : Int), .slice a1 n1 c1]] W fun e w' => ∃ a2 c2, e = .returned (.tuple #[.slice a2 n c2, .int .i64 (fitK wd : Int)]) ∧ Nums w' .u64 a2 n (fun j => L0 j % 2 ^ fitK wd) ∧ Below W.heap.size W w') := fun W hW => by
    refine (fit_any a0 a1 n c n1 c1 L0 wd _ _ _ W hwd hn0 hA.2.1 (hA.1.later hW)).mono ?_
    rintro e w' ⟨a2, c2, h1, h2, h3⟩
    exact ⟨a2, c2, h1, h2.nums, h3⟩
  have HF : Hid (∀ j, L0 j % 2 ^ fitK wd < 2 ^ fitK wd) := fun j => Nat.mod_lt _ (Nat.pos_of_ne_zero (by simp))
  have hk := fitK_le wd
  have HLL : Hid (∀ j, L j < 18446744073709551616) := hL.2.1
  have HL0 : Hid (Nums w .u64 a1 n1 L) := hL.1
  clear hA hL hcc hlo hhi
  generalize fitK wd = k at *
  generalize hFF : (fun j => L0 j % 2 ^ k) = F at *
  have hF' : ∀ j, L0 j % 2 ^ k = F j := fun j => by rw [← hFF]
  simp only [hF'] at HF
  clear hFF hF'
  obtain ⟨wb, hwb⟩ : ∃ wb, wb = w.alloc (.cells #[.slice a0 n c, .int .i64 wd, .int .u64 (cc : Int), .int .u64 (lo : Int), .int .u64 (hi : Int), .slice a1 n1 c1] 50) := ⟨_, rfl⟩
  have hb0 : Below w.heap.size w wb := by rw [hwb]; exact (Grew.alloc w _).below
  have hl0 : w.heap.size < wb.heap.size := by rw [hwb]; simp
  have q0 : wb.cell? ⟨w.heap.size, 0, none⟩ = some (.slice a0 n c) := by rw [hwb]; simp [go_sem]
  have q1 : wb.cell? ⟨w.heap.size, 1, none⟩ = some (.int .i64 wd) := by rw [hwb]; simp [go_sem]
  have q2 : wb.cell? ⟨w.heap.size, 2, none⟩ = some (.int .u64 (cc : Int)) := by rw [hwb]; simp [go_sem]
  have q3 : wb.cell? ⟨w.heap.size, 3, none⟩ = some (.int .u64 (lo : Int)) := by rw [hwb]; simp [go_sem]
  have q4 : wb.cell? ⟨w.heap.size, 4, none⟩ = some (.int .u64 (hi : Int)) := by rw [hwb]; simp [go_sem]
  have q5 : wb.cell? ⟨w.heap.size, 5, none⟩ = some (.slice a1 n1 c1) := by rw [hwb]; simp [go_sem]
  have f0 : Hid (∀ W, Below wb.heap.size wb W → W.cell? ⟨w.heap.size, 0, none⟩ = some (.slice a0 n c)) := fun W h => (h.cell (p := ⟨w.heap.size, 0, none⟩) hl0).trans q0
  have f1 : Hid (∀ W, Below wb.heap.size wb W → W.cell? ⟨w.heap.size, 1, none⟩ = some (.int .i64 wd)) := fun W h => (h.cell (p := ⟨w.heap.size, 1, none⟩) hl0).trans q1
  have f2 : Hid (∀ W, Below wb.heap.size wb W → W.cell? ⟨w.heap.size, 2, none⟩ = some (.int .u64 (cc : Int))) := fun W h => (h.cell (p := ⟨w.heap.size, 2, none⟩) hl0).trans q2
  have f3 : Hid (∀ W, Below wb.heap.size wb W → W.cell? ⟨w.heap.size, 3, none⟩ = some (.int .u64 (lo : Int))) := fun W h => (h.cell (p := ⟨w.heap.size, 3, none⟩) hl0).trans q3
  have f4 : Hid (∀ W, Below wb.heap.size wb W → W.cell? ⟨w.heap.size, 4, none⟩ = some (.int .u64 (hi : Int))) := fun W h => (h.cell (p := ⟨w.heap.size, 4, none⟩) hl0).trans q4
  have f5 : Hid (∀ W, Below wb.heap.size wb W → W.cell? ⟨w.heap.size, 5, none⟩ = some (.slice a1 n1 c1)) := fun W h => (h.cell (p := ⟨w.heap.size, 5, none⟩) hl0).trans q5
  have HWB : Hid (wb = w.alloc (.cells #[.slice a0 n c, .int .i64 wd, .int .u64 (cc : Int), .int .u64 (lo : Int), .int .u64 (hi : Int), .slice a1 n1 c1] 50)) := hwb
  have HB0 : Hid (Below w.heap.size w wb) := hb0
  clear hwb q0 q1 q2 q3 q4 q5 hb0
  go_enter Try.func8, Try.ntmps8
  go_wp2_with fail
  rw [← HWB.out]
  refine (HK.out _).mono ?_
  rintro e w1 ⟨rfl, hb1⟩
  have g0 := f0.out w1 hb1
  have g1 := f1.out w1 hb1
  have g2 := f2.out w1 hb1
  have g3 := f3.out w1 hb1
  have g4 := f4.out w1 hb1
  have g5 := f5.out w1 hb1
  go_wp2_with fail
  refine (HFIT.out _ (below_on HB0.out hb1)).mono ?_
  rintro e w2 ⟨a2, c2, rfl, hN2, hb2⟩
  have h12 : Below wb.heap.size wb w2 := below_on hb1 hb2
  clear g0 g1 g2 g3 g4 g5 hb1 hb2
  by_cases hbig : 16777216 < n
  · have hbd : decide ((n : Int) > 16777216) = true := by simp; omega
    have HE : Hid (Below w.heap.size w w2) := below_on HB0.out h12
    clear h12 hN2
    go_wp2
    go_ret
    exact ⟨rfl, HE.out⟩
  have hn : n ≤ 16777216 := by omega
  have hbd : decide ((n : Int) > 16777216) = false := by simp; omega
  go_wp2_with fail
  refine (pack_pkd a2 n c2 k F _ hn hk HF.out hN2).mono ?_
  rintro e w3 ⟨g, nb, rfl, _, _, hP3, hb3⟩
  have HP : Hid (Pkd w3 (some ⟨g, 0, none⟩) nb nb n k F) := hP3
  have H13 : Hid (Below wb.heap.size wb w3) := below_on h12 hb3
  clear h12 hb3 hN2 hP3
  have HS0 : Hid (Seven (w3.alloc (.cells #[.pointer none, .pointer none, .pointer none, .pointer none, .pointer none, .pointer none, .pointer none] 60)) w3.heap.size n (fun t i => decide (i < n) && standsB t (F i) cc) 1) := by
    refine ⟨fun _ => .pointer none, ⟨_, heap_alloc_new w3 _, rfl, fun j hj => ?_⟩, fun t h1 h2 => by omega⟩
    rcases (show j = 0 ∨ j = 1 ∨ j = 2 ∨ j = 3 ∨ j = 4 ∨ j = 5 ∨ j = 6 by omega) with rfl | rfl | rfl | rfl | rfl | rfl | rfl <;> rfl
  have HB1 : Hid (Below w3.heap.size w3 (w3.alloc (.cells #[.pointer none, .pointer none, .pointer none, .pointer none, .pointer none, .pointer none, .pointer none] 60))) := (Grew.alloc _ _).below
  go_wp2_with fail
  go_loopw [9] (fun s9 wr => ∃ op : Nat, 1 ≤ op ∧ op ≤ 7 ∧ s9 = .int .i64 op ∧ Hid (Seven wr w3.heap.size n (fun t i => decide (i < n) && standsB t (F i) cc) op ∧ Below w3.heap.size w3 wr)) (fun s9 _ => 7 - (intOf s9).toNat)
  case atStart => exact ⟨1, by omega, by omega, rfl, HS0.out, HB1.out⟩
  case round =>
    clear HS0 HB1
    obtain ⟨op, h1, h7, rfl, HJ⟩ := hrel
    obtain ⟨hS7, hB⟩ := HJ.out
    have HS7 : Hid (Seven wr w3.heap.size n (fun t i => decide (i < n) && standsB t (F i) cc) op) := hS7
    have HB : Hid (Below w3.heap.size w3 wr) := hB
    clear hS7 hB HJ
    by_cases hlt : op ≤ 6
    · have hbi : (op : Int) ≤ 6 := by omega
      have g2' := f2.out wr (below_on H13.out HB.out)
      go_wp2_with fail
      refine (test_pk (HP.out.later HB.out) op cc (by omega) hc2).mono ?_
      intro e w5 ho
      obtain ⟨d5, g5, rfl, hd5, hg5, hS5, hb5⟩ := ho
      clear g2'
      have HS5 : Hid (Bt.NewSet w5 d5 g5 n (packF n (fun i => decide (i < n) && standsB op (F i) cc))) := hS5
      have HS75 : Hid (Seven w5 w3.heap.size n (fun t i => decide (i < n) && standsB t (F i) cc) op) := HS7.out.later hb5
      have HB5 : Hid (Below w3.heap.size w3 w5) := below_on HB.out hb5
      have hlt3 : w3.heap.size < wr.heap.size := by
        obtain ⟨V, hV, _⟩ := HS7.out
        exact hV.lt
      have HST : Hid (Seven (w5.setCell ⟨w3.heap.size, op, none⟩ (.pointer (some ⟨d5, 0, none⟩))) w3.heap.size n (fun t i => decide (i < n) && standsB t (F i) cc) (op + 1) ∧ Below w3.heap.size w3 (w5.setCell ⟨w3.heap.size, op, none⟩ (.pointer (some ⟨d5, 0, none⟩)))) :=
        ⟨HS75.out.store (by omega) (by omega) (by omega) HS5.out, below_set HB5.out (Nat.le_refl _) _ _⟩
      obtain ⟨v5, hv5⟩ := HS75.out.cell (t := op) (by omega)
      have hf5 := HS75.out.frozen op
      clear hS5 hb5 hd5 hg5 hlt3
      go_wp2_with fail
      refine (count_yes d5 n _ _ HS5.out.is hn).mono ?_
      rintro e wz ⟨x5, rfl, hwz⟩
      subst wz
      have hx5 : decide ((x5 : Int) < 0) = false := by simp
      have h7z : (op : Int) < 7 := by omega
      go_wp2
      exact ⟨⟨op + 1, by omega, by omega, by go_num, HST.out⟩, by simp [intOf]; omega⟩
    have hbi : ¬ ((op : Int) ≤ 6) := by omega
    obtain ⟨w6, hw6⟩ : ∃ w6, w6 = wr := ⟨_, rfl⟩
    rw [← hw6] at HS7 HB
    obtain ⟨d1, hc1, hs1⟩ := HS7.out.get (t := 1) (by omega) (by omega) (by omega)
    have C1 : Hid (w6.cell? ⟨w3.heap.size, 1, none⟩ = some (.pointer (some ⟨d1, 0, none⟩))) := hc1
    have S1 : Hid (Bt.SetF w6 d1 n (fun i => decide (i < n) && standsB 1 (F i) cc)) := hs1
    clear hc1 hs1
    obtain ⟨d2, hc2, hs2⟩ := HS7.out.get (t := 2) (by omega) (by omega) (by omega)
    have C2 : Hid (w6.cell? ⟨w3.heap.size, 2, none⟩ = some (.pointer (some ⟨d2, 0, none⟩))) := hc2
    have S2 : Hid (Bt.SetF w6 d2 n (fun i => decide (i < n) && standsB 2 (F i) cc)) := hs2
    clear hc2 hs2
    obtain ⟨d3, hc3, hs3⟩ := HS7.out.get (t := 3) (by omega) (by omega) (by omega)
    have C3 : Hid (w6.cell? ⟨w3.heap.size, 3, none⟩ = some (.pointer (some ⟨d3, 0, none⟩))) := hc3
    have S3 : Hid (Bt.SetF w6 d3 n (fun i => decide (i < n) && standsB 3 (F i) cc)) := hs3
    clear hc3 hs3
    obtain ⟨d4, hc4, hs4⟩ := HS7.out.get (t := 4) (by omega) (by omega) (by omega)
    have C4 : Hid (w6.cell? ⟨w3.heap.size, 4, none⟩ = some (.pointer (some ⟨d4, 0, none⟩))) := hc4
    have S4 : Hid (Bt.SetF w6 d4 n (fun i => decide (i < n) && standsB 4 (F i) cc)) := hs4
    clear hc4 hs4
    obtain ⟨d5, hc5, hs5⟩ := HS7.out.get (t := 5) (by omega) (by omega) (by omega)
    have C5 : Hid (w6.cell? ⟨w3.heap.size, 5, none⟩ = some (.pointer (some ⟨d5, 0, none⟩))) := hc5
    have S5 : Hid (Bt.SetF w6 d5 n (fun i => decide (i < n) && standsB 5 (F i) cc)) := hs5
    clear hc5 hs5
    obtain ⟨d6, hc6, hs6⟩ := HS7.out.get (t := 6) (by omega) (by omega) (by omega)
    have C6 : Hid (w6.cell? ⟨w3.heap.size, 6, none⟩ = some (.pointer (some ⟨d6, 0, none⟩))) := hc6
    have S6 : Hid (Bt.SetF w6 d6 n (fun i => decide (i < n) && standsB 6 (F i) cc)) := hs6
    clear hc6 hs6
    have HG : Hid (∀ (W : World) (m d : Nat) (f : Nat → Bool) (i : Nat), W = w6.drewN m → Bt.SetF w6 d n f → i < n → Calls Try.prog 30 #[.pointer (some ⟨d, 0, none⟩), .int .i64 (i : Int)] W fun e w' => e = .returned (.bool (f i)) ∧ ∃ j', w' = w6.drewN j') := fun W m d f i h1 h2 h3 => by
      subst h1
      refine (Bt.get_in d n i f _ (h2.drewN m) hn h3).mono ?_
      rintro e w' ⟨q, j, hj⟩
      exact ⟨q, m + j, by rw [hj, World.drewN_drewN]⟩
    have HW6 : Hid (w6 = wr) := hw6
    clear hw6
    go_wp2
    rw [← HW6.out]
    clear HW6
    go_loopw [12] (fun ix wr => ∃ i : Nat, i ≤ n ∧ ix = .int .i64 i ∧ Hid (∃ m, wr = w6.drewN m)) (fun ix _ => n - (intOf ix).toNat)
    case atStart => exact ⟨0, Nat.zero_le _, rfl, 0, rfl⟩
    case round =>
      obtain ⟨i, hin, rfl, HW⟩ := hrel
      obtain ⟨m, hm⟩ := HW.out
      have HM : Hid (wr = w6.drewN m) := hm
      clear hm HW
      by_cases hlt : i < n
      · have hbi : (i : Int) < (n : Int) := by omega
        have c3' : wr.cell? ⟨w3.heap.size, 3, none⟩ = some (.pointer (some ⟨d3, 0, none⟩)) := by rw [HM.out]; exact C3.out
        rcases Nat.lt_trichotomy (F i) cc with hyt | hyt | hyt
        · have V1 : Hid ((decide (i < n) && standsB 1 (F i) cc) = false) := by show _ = _; simp [hlt, standsB]; omega
          have V2 : Hid ((decide (i < n) && standsB 2 (F i) cc) = true) := by show _ = _; simp [hlt, standsB]; omega
          have V3 : Hid ((decide (i < n) && standsB 3 (F i) cc) = true) := by show _ = _; simp [hlt, standsB]; omega
          have V4 : Hid ((decide (i < n) && standsB 4 (F i) cc) = true) := by show _ = _; simp [hlt, standsB]; omega
          have V5 : Hid ((decide (i < n) && standsB 5 (F i) cc) = false) := by show _ = _; simp [hlt, standsB]; omega
          have V6 : Hid ((decide (i < n) && standsB 6 (F i) cc) = false) := by show _ = _; simp [hlt, standsB]; omega
          clear hyt
          go_wp2_with fail
          refine (HG.out wr m d3 _ i HM.out S3.out hlt).mono ?_
          rintro e w21 ⟨rfl, q1, hw⟩
          rw [V3.out]
          have c1' : w21.cell? ⟨w3.heap.size, 1, none⟩ = some (.pointer (some ⟨d1, 0, none⟩)) := by rw [hw]; exact C1.out
          have HW1 : Hid (w21 = w6.drewN q1) := hw
          clear hw
          go_wp2_with fail
          refine (HG.out w21 _ d1 _ i (HW1.out) S1.out hlt).mono ?_
          rintro e w22 ⟨rfl, q2, hw⟩
          rw [V1.out]
          have c5' : w22.cell? ⟨w3.heap.size, 5, none⟩ = some (.pointer (some ⟨d5, 0, none⟩)) := by rw [hw]; exact C5.out
          have HW2 : Hid (w22 = w6.drewN q2) := hw
          clear hw
          go_wp2_with fail
          refine (HG.out w22 _ d5 _ i (HW2.out) S5.out hlt).mono ?_
          rintro e w23 ⟨rfl, q3, hw⟩
          rw [V5.out]
          have c2' : w23.cell? ⟨w3.heap.size, 2, none⟩ = some (.pointer (some ⟨d2, 0, none⟩)) := by rw [hw]; exact C2.out
          have HW3 : Hid (w23 = w6.drewN q3) := hw
          clear hw
          go_wp2_with fail
          refine (HG.out w23 _ d2 _ i (HW3.out) S2.out hlt).mono ?_
          rintro e w24 ⟨rfl, q4, hw⟩
          rw [V2.out]
          have c6' : w24.cell? ⟨w3.heap.size, 6, none⟩ = some (.pointer (some ⟨d6, 0, none⟩)) := by rw [hw]; exact C6.out
          have HW4 : Hid (w24 = w6.drewN q4) := hw
          clear hw
          go_wp2_with fail
          refine (HG.out w24 _ d6 _ i (HW4.out) S6.out hlt).mono ?_
          rintro e w25 ⟨rfl, q5, hw⟩
          rw [V6.out]
          have c4' : w25.cell? ⟨w3.heap.size, 4, none⟩ = some (.pointer (some ⟨d4, 0, none⟩)) := by rw [hw]; exact C4.out
          have HW5 : Hid (w25 = w6.drewN q5) := hw
          clear hw
          go_wp2_with fail
          refine (HG.out w25 _ d4 _ i (HW5.out) S4.out hlt).mono ?_
          rintro e w26 ⟨rfl, q6, hw⟩
          rw [V4.out]
          have HW6 : Hid (w26 = w6.drewN q6) := hw
          clear hw
          go_wp2
          exact ⟨⟨i + 1, by omega, by go_num, q6, HW6.out⟩, by simp [intOf]; omega⟩
        · have V1 : Hid ((decide (i < n) && standsB 1 (F i) cc) = true) := by show _ = _; simp [hlt, standsB]; omega
          have V2 : Hid ((decide (i < n) && standsB 2 (F i) cc) = false) := by show _ = _; simp [hlt, standsB]; omega
          have V3 : Hid ((decide (i < n) && standsB 3 (F i) cc) = false) := by show _ = _; simp [hlt, standsB]; omega
          have V4 : Hid ((decide (i < n) && standsB 4 (F i) cc) = true) := by show _ = _; simp [hlt, standsB]; omega
          have V5 : Hid ((decide (i < n) && standsB 5 (F i) cc) = false) := by show _ = _; simp [hlt, standsB]; omega
          have V6 : Hid ((decide (i < n) && standsB 6 (F i) cc) = true) := by show _ = _; simp [hlt, standsB]; omega
          clear hyt
          go_wp2_with fail
          refine (HG.out wr m d3 _ i HM.out S3.out hlt).mono ?_
          rintro e w21 ⟨rfl, q1, hw⟩
          rw [V3.out]
          have c1' : w21.cell? ⟨w3.heap.size, 1, none⟩ = some (.pointer (some ⟨d1, 0, none⟩)) := by rw [hw]; exact C1.out
          have HW1 : Hid (w21 = w6.drewN q1) := hw
          clear hw
          go_wp2_with fail
          refine (HG.out w21 _ d1 _ i (HW1.out) S1.out hlt).mono ?_
          rintro e w22 ⟨rfl, q2, hw⟩
          rw [V1.out]
          have c5' : w22.cell? ⟨w3.heap.size, 5, none⟩ = some (.pointer (some ⟨d5, 0, none⟩)) := by rw [hw]; exact C5.out
          have HW2 : Hid (w22 = w6.drewN q2) := hw
          clear hw
          go_wp2_with fail
          refine (HG.out w22 _ d5 _ i (HW2.out) S5.out hlt).mono ?_
          rintro e w23 ⟨rfl, q3, hw⟩
          rw [V5.out]
          have c2' : w23.cell? ⟨w3.heap.size, 2, none⟩ = some (.pointer (some ⟨d2, 0, none⟩)) := by rw [hw]; exact C2.out
          have HW3 : Hid (w23 = w6.drewN q3) := hw
          clear hw
          go_wp2_with fail
          refine (HG.out w23 _ d2 _ i (HW3.out) S2.out hlt).mono ?_
          rintro e w24 ⟨rfl, q4, hw⟩
          rw [V2.out]
          have c6' : w24.cell? ⟨w3.heap.size, 6, none⟩ = some (.pointer (some ⟨d6, 0, none⟩)) := by rw [hw]; exact C6.out
          have HW4 : Hid (w24 = w6.drewN q4) := hw
          clear hw
          go_wp2_with fail
          refine (HG.out w24 _ d6 _ i (HW4.out) S6.out hlt).mono ?_
          rintro e w25 ⟨rfl, q5, hw⟩
          rw [V6.out]
          have c4' : w25.cell? ⟨w3.heap.size, 4, none⟩ = some (.pointer (some ⟨d4, 0, none⟩)) := by rw [hw]; exact C4.out
          have HW5 : Hid (w25 = w6.drewN q5) := hw
          clear hw
          go_wp2_with fail
          refine (HG.out w25 _ d4 _ i (HW5.out) S4.out hlt).mono ?_
          rintro e w26 ⟨rfl, q6, hw⟩
          rw [V4.out]
          have HW6 : Hid (w26 = w6.drewN q6) := hw
          clear hw
          go_wp2
          exact ⟨⟨i + 1, by omega, by go_num, q6, HW6.out⟩, by simp [intOf]; omega⟩
        · have V1 : Hid ((decide (i < n) && standsB 1 (F i) cc) = false) := by show _ = _; simp [hlt, standsB]; omega
          have V2 : Hid ((decide (i < n) && standsB 2 (F i) cc) = true) := by show _ = _; simp [hlt, standsB]; omega
          have V3 : Hid ((decide (i < n) && standsB 3 (F i) cc) = false) := by show _ = _; simp [hlt, standsB]; omega
          have V4 : Hid ((decide (i < n) && standsB 4 (F i) cc) = false) := by show _ = _; simp [hlt, standsB]; omega
          have V5 : Hid ((decide (i < n) && standsB 5 (F i) cc) = true) := by show _ = _; simp [hlt, standsB]; omega
          have V6 : Hid ((decide (i < n) && standsB 6 (F i) cc) = true) := by show _ = _; simp [hlt, standsB]; omega
          clear hyt
          go_wp2_with fail
          refine (HG.out wr m d3 _ i HM.out S3.out hlt).mono ?_
          rintro e w21 ⟨rfl, q1, hw⟩
          rw [V3.out]
          have c1' : w21.cell? ⟨w3.heap.size, 1, none⟩ = some (.pointer (some ⟨d1, 0, none⟩)) := by rw [hw]; exact C1.out
          have HW1 : Hid (w21 = w6.drewN q1) := hw
          clear hw
          go_wp2_with fail
          refine (HG.out w21 _ d1 _ i (HW1.out) S1.out hlt).mono ?_
          rintro e w22 ⟨rfl, q2, hw⟩
          rw [V1.out]
          have c5' : w22.cell? ⟨w3.heap.size, 5, none⟩ = some (.pointer (some ⟨d5, 0, none⟩)) := by rw [hw]; exact C5.out
          have HW2 : Hid (w22 = w6.drewN q2) := hw
          clear hw
          go_wp2_with fail
          refine (HG.out w22 _ d5 _ i (HW2.out) S5.out hlt).mono ?_
          rintro e w23 ⟨rfl, q3, hw⟩
          rw [V5.out]
          have c2' : w23.cell? ⟨w3.heap.size, 2, none⟩ = some (.pointer (some ⟨d2, 0, none⟩)) := by rw [hw]; exact C2.out
          have HW3 : Hid (w23 = w6.drewN q3) := hw
          clear hw
          go_wp2_with fail
          refine (HG.out w23 _ d2 _ i (HW3.out) S2.out hlt).mono ?_
          rintro e w24 ⟨rfl, q4, hw⟩
          rw [V2.out]
          have c6' : w24.cell? ⟨w3.heap.size, 6, none⟩ = some (.pointer (some ⟨d6, 0, none⟩)) := by rw [hw]; exact C6.out
          have HW4 : Hid (w24 = w6.drewN q4) := hw
          clear hw
          go_wp2_with fail
          refine (HG.out w24 _ d6 _ i (HW4.out) S6.out hlt).mono ?_
          rintro e w25 ⟨rfl, q5, hw⟩
          rw [V6.out]
          have c4' : w25.cell? ⟨w3.heap.size, 4, none⟩ = some (.pointer (some ⟨d4, 0, none⟩)) := by rw [hw]; exact C4.out
          have HW5 : Hid (w25 = w6.drewN q5) := hw
          clear hw
          go_wp2_with fail
          refine (HG.out w25 _ d4 _ i (HW5.out) S4.out hlt).mono ?_
          rintro e w26 ⟨rfl, q6, hw⟩
          rw [V4.out]
          have HW6 : Hid (w26 = w6.drewN q6) := hw
          clear hw
          go_wp2
          exact ⟨⟨i + 1, by omega, by go_num, q6, HW6.out⟩, by simp [intOf]; omega⟩
      · obtain rfl : i = n := by omega
        have HBW : Hid (Below w3.heap.size w3 wr) := by rw [HM.out]; exact below_on HB.out (Grew.drewN _ _).below
        clear HG C1 C2 C3 C4 C5 C6 S1 S2 S3 S4 S5 S6 HS7 HB HM
        have g3 := f3.out wr (below_on H13.out HBW.out)
        go_wp2_with fail
        refine (test_pk (HP.out.later HBW.out) 6 lo (by omega) hl2).mono ?_
        intro e w7 ho
        obtain ⟨e7, rfl, hS7, hb7⟩ := okSet_set ho
        clear ho g3
        have HB7 : Hid (Below w3.heap.size w3 w7) := below_on HBW.out hb7
        have g4 := f4.out w7 (below_on H13.out HB7.out)
        go_wp2_with fail
        refine (test_pk (HP.out.later HB7.out) 4 hi (by omega) hh2).mono ?_
        intro e w8 ho
        obtain ⟨e8, rfl, hS8, hb8⟩ := okSet_set ho
        clear ho g4
        have HB8 : Hid (Below w3.heap.size w3 w8) := below_on HB7.out hb8
        have g3 := f3.out w8 (below_on H13.out HB8.out)
        have g4 := f4.out w8 (below_on H13.out HB8.out)
        go_wp2_with fail
        refine (bet_pk (HP.out.later HB8.out) lo hi hl2).mono ?_
        intro e w9 ho
        obtain ⟨e9, rfl, hS9, hb9⟩ := okSet_set ho
        clear ho g3 g4
        have HB9 : Hid (Below w3.heap.size w3 w9) := below_on HB8.out hb9
        have S7 : Hid (Bt.SetF w9 e7 i (fun t => decide (t < i) && standsB 6 (F t) lo)) := hS7.later (below_on hb8 hb9)
        have S8 : Hid (Bt.SetF w9 e8 i (fun t => decide (t < i) && standsB 4 (F t) hi)) := hS8.later hb9
        have S9 : Hid (Bt.SetF w9 e9 i (fun t => decide (t < i) && betB lo hi (F t))) := hS9
        clear hS7 hS8 hS9 hb7 hb8 hb9 HB7 HB8 HBW
        go_wp2_with fail
        refine (count_yes e7 i _ _ S7.out hn).mono ?_
        rintro e wz ⟨x1, rfl, hwz⟩
        subst wz
        have hx1 : decide ((x1 : Int) < 0) = false := by simp
        go_wp2_with fail
        refine (count_yes e8 i _ _ S8.out hn).mono ?_
        rintro e wz ⟨x2, rfl, hwz⟩
        subst wz
        have hx2 : decide ((x2 : Int) < 0) = false := by simp
        go_wp2_with fail
        refine (count_yes e9 i _ _ S9.out hn).mono ?_
        rintro e wz ⟨x3, rfl, hwz⟩
        subst wz
        have hx3 : decide ((x3 : Int) < 0) = false := by simp
        have HG : Hid (∀ (W : World) (m d : Nat) (f : Nat → Bool) (t : Nat), W = w9.drewN m → Bt.SetF w9 d i f → t < i → Calls Try.prog 30 #[.pointer (some ⟨d, 0, none⟩), .int .i64 (t : Int)] W fun e w' => e = .returned (.bool (f t)) ∧ ∃ j', w' = w9.drewN j') := fun W m d f t h1 h2 h3 => by
          subst h1
          refine (Bt.get_in d i t f _ (h2.drewN m) hn h3).mono ?_
          rintro e w' ⟨q, j, hj⟩
          exact ⟨q, m + j, by rw [hj, World.drewN_drewN]⟩
        go_wp2_with fail
        go_loopw [22] (fun tx wr => ∃ t : Nat, t ≤ i ∧ tx = .int .i64 t ∧ Hid (∃ m, wr = w9.drewN m)) (fun tx _ => i - (intOf tx).toNat)
        case atStart => exact ⟨0, Nat.zero_le _, rfl, 0, rfl⟩
        case round =>
          obtain ⟨t, htn, rfl, HW⟩ := hrel
          obtain ⟨m, hm⟩ := HW.out
          have HM : Hid (wr = w9.drewN m) := hm
          clear hm HW
          by_cases hlt : t < i
          · have hbt : (t : Int) < (i : Int) := by omega
            by_cases h2 : lo ≤ F t
            · obtain ⟨b, hb⟩ : ∃ b, decide (F t ≤ hi) = b := ⟨_, rfl⟩
              have V9 : Hid ((decide (t < i) && betB lo hi (F t)) = b) := by show _ = _; rw [← hb]; simp [hlt, betB, h2]
              have V7 : Hid ((decide (t < i) && standsB 6 (F t) lo) = true) := by show _ = _; simp [hlt, standsB]; omega
              have V8 : Hid ((decide (t < i) && standsB 4 (F t) hi) = b) := by show _ = _; rw [← hb, Bool.eq_iff_iff]; simp [hlt, standsB]
              have hbb : (b == b) = true := by simp
              have hbc : (b != b) = false := by simp
              clear hb h2
              go_wp2_with fail
              refine (HG.out wr m e9 _ t HM.out S9.out hlt).mono ?_
              rintro e w21 ⟨rfl, q1, hw⟩
              rw [V9.out]
              have HW1 : Hid (w21 = w9.drewN q1) := hw
              clear hw
              go_wp2_with fail
              refine (HG.out w21 q1 e7 _ t HW1.out S7.out hlt).mono ?_
              rintro e w22 ⟨rfl, q2, hw⟩
              rw [V7.out]
              have HW2 : Hid (w22 = w9.drewN q2) := hw
              clear hw
              go_wp2_with fail
              refine (HG.out w22 q2 e8 _ t HW2.out S8.out hlt).mono ?_
              rintro e w23 ⟨rfl, q3, hw⟩
              rw [V8.out]
              have HW3 : Hid (w23 = w9.drewN q3) := hw
              clear hw
              go_wp2
              exact ⟨⟨t + 1, by omega, by go_num, q3, HW3.out⟩, by simp [intOf]; omega⟩
            · have V9 : Hid ((decide (t < i) && betB lo hi (F t)) = false) := by show _ = _; simp [hlt, betB, h2]
              have V7 : Hid ((decide (t < i) && standsB 6 (F t) lo) = false) := by show _ = _; simp [hlt, standsB]; omega
              clear h2
              go_wp2_with fail
              refine (HG.out wr m e9 _ t HM.out S9.out hlt).mono ?_
              rintro e w21 ⟨rfl, q1, hw⟩
              rw [V9.out]
              have HW1 : Hid (w21 = w9.drewN q1) := hw
              clear hw
              go_wp2_with fail
              refine (HG.out w21 q1 e7 _ t HW1.out S7.out hlt).mono ?_
              rintro e w22 ⟨rfl, q2, hw⟩
              rw [V7.out]
              have HW2 : Hid (w22 = w9.drewN q2) := hw
              clear hw
              go_wp2
              exact ⟨⟨t + 1, by omega, by go_num, q2, HW2.out⟩, by simp [intOf]; omega⟩
          · obtain rfl : t = i := by omega
            have HBW : Hid (Below w3.heap.size w3 wr) := by rw [HM.out]; exact below_on HB9.out (Grew.drewN _ _).below
            have HBW2 : Hid (Below wb.heap.size wb wr) := below_on H13.out HBW.out
            have k0 := f0.out wr HBW2.out
            have k1 := f1.out wr HBW2.out
            have k2 := f2.out wr HBW2.out
            have k3 := f3.out wr HBW2.out
            have k4 := f4.out wr HBW2.out
            have k5 := f5.out wr HBW2.out
            clear HG S7 S8 S9 HM
            go_wp2_with fail
            refine (listed_yes a0 a1 _ t c n1 c1 nb nb t k L F wd cc lo hi wr (HP.out.later HBW.out) hn1 HLL.out (HL0.out.later (below_on HB0.out HBW2.out))).mono ?_
            rintro e w30 ⟨rfl, hb30⟩
            have HEN : Hid (Below w.heap.size w w30) := below_on (below_on HB0.out HBW2.out) hb30
            clear hb30 k0 k1 k2 k3 k4 k5
            go_wp2
            go_ret
            exact ⟨rfl, HEN.out⟩
end Go.Proofs.Ytoephmcmmbhnaab
