/-
  The law's lesser and greater. (Written by mkles.py.)
-/
import Derived.Test.YtobmehajknmniaaGreatZArgs
import Derived.Test.YtobmehajknmniaaGreatZJoinM
namespace Go.Proofs.YtobmehajknmniaaGreat
open Go.RowKit Crc Cu Vl
attribute [local go_sem] run_store_float

def threeW (w : World) (a b : V) : World := ((w.alloc (.cells (va a) 27)).alloc (.cells (va b) 27)).alloc (.cells (va v0) 27)
theorem three_bx (w : World) (a b : V) : Bx (threeW w a b) w.heap.size (va a) 27 ∧ Bx (threeW w a b) (w.heap.size + 1) (va b) 27 ∧ Bx (threeW w a b) (w.heap.size + 1 + 1) (va v0) 27 ∧ Below w.heap.size w (threeW w a b) := by
  have h1 := Bx.new w (va a) 27
  have h2 := Bx.new (w.alloc (.cells (va a) 27)) (va b) 27
  have h3 := Bx.new ((w.alloc (.cells (va a) 27)).alloc (.cells (va b) 27)) (va v0) 27
  simp only [World.size_alloc] at h2 h3
  refine ⟨(h1.al _).al _, h2.al _, h3, ?_⟩
  exact below_up (below_up (below_new w _) (below_new _ _)) (below_new _ _)
set_option maxRecDepth 4000 in
set_option maxHeartbeats 8000000 in
theorem les_any (a b : V) (w : World) (ha : G3 a) (hb : G3 b) : Calls Tryz.prog 10 #[vv a, vv b] w fun e w' => e = .returned (vv (lesV a b)) ∧ Below w.heap.size w w' := by
  have HC1 := hid fun w => compare_any b a w hb ha
  have HW : Hid (lesV a b = if a.K = 0 ∨ ¬ b.K = 0 ∧ cmpV b a < 0 then b else a) := rfl
  obtain ⟨xa, xb, xr, hB⟩ := three_bx w a b
  obtain ⟨W, hW⟩ : ∃ W, threeW w a b = W := ⟨_, rfl⟩
  rw [hW] at xa xb xr hB
  have Xa := hid xa
  have Xb := hid xb
  have Xr := hid xr
  have B := hid hB
  have HWW := hid hW
  clear xa xb xr hB hW ha hb
  generalize lesV a b = R at *
  generalize cmpV b a = x at *
  obtain ⟨aK, aI, ab, sa⟩ := a
  obtain ⟨bK, bI, bb, sb⟩ := b
  unfold threeW va at HWW
  unfold vv at HC1
  rw [show vv ⟨aK, aI, ab, sa⟩ = .agg #[.int .i64 aK, .int .i64 aI, .float .f64 ab, .string sa] from rfl, show vv ⟨bK, bI, bb, sb⟩ = .agg #[.int .i64 bK, .int .i64 bI, .float .f64 bb, .string sb] from rfl]
  have e0 : v0 = ⟨0, 0, 0, ⟨#[]⟩⟩ := rfl
  rw [e0] at HWW Xr
  clear e0
  dsimp only at *
  have hres : Tryz.f10.results = #[.cell 4 27] := by kernel_rfl
  have HRES := hid hres
  clear hres
  obtain ⟨g, hg⟩ : ∃ g, w.heap.size = g := ⟨_, rfl⟩
  have HG := hid hg
  have HG2 : Hid (g ≤ W.heap.size) := by show g ≤ _; rw [← hg]; exact B.out.size
  rw [hg] at B Xa Xb Xr
  clear hg
  obtain ⟨a0, a1, a2, a3⟩ := Xa.out.val
  obtain ⟨b0, b1, b2, b3⟩ := Xb.out.val
  dsimp only at a0 a1 a2 a3 b0 b1 b2 b3
  by_cases h1 : aK = 0
  · have hd : (aK == 0) = true := by simpa using h1
    go_enter Tryz.func10, Tryz.ntmps10
    go_wp2_with fail
    have hR : R = ⟨bK, bI, bb, sb⟩ := by rw [HW.out]; rw [if_pos (.inl h1)]
    rw [hR]
    refine bodyPost_ret (v := vv ⟨bK, bI, bb, sb⟩) ?_ rfl ⟨rfl, below_up (below_up (below_new w _) (below_new _ _)) (below_new _ _)⟩
    simp only [results, HRES.out]
    go_simp
    first | rfl | exact ⟨rfl, rfl⟩ | skip
  · have hd : (aK == 0) = false := by simpa using h1
    by_cases h2 : bK = 0
    · have he : (bK == 0) = true := by simpa using h2
      go_enter Tryz.func10, Tryz.ntmps10
      go_wp2_with fail
      have hR : R = ⟨aK, aI, ab, sa⟩ := by rw [HW.out]; rw [if_neg (by simp [h1, h2])]
      rw [hR]
      refine bodyPost_ret (v := vv ⟨aK, aI, ab, sa⟩) ?_ rfl ⟨rfl, below_up (below_up (below_new w _) (below_new _ _)) (below_new _ _)⟩
      simp only [results, HRES.out]
      go_simp
      first | rfl | exact ⟨rfl, rfl⟩ | skip
    · have he : (bK == 0) = false := by simpa using h2
      go_enter Tryz.func10, Tryz.ntmps10
      go_wp2_with fail
      rw [HWW.out]
      simp only [HG.out]
      clear a0 a1 a2 a3 b0 b1 b2 b3
      refine (HC1.out _).mono ?_
      rintro e w2 ⟨rfl, hb⟩
      replace B := hid (B.out.trans (hb.mono HG2.out))
      replace Xa := hid (Xa.out.later hb)
      replace Xb := hid (Xb.out.later hb)
      replace Xr := hid (Xr.out.later hb)
      clear hb
      by_cases h3 : x < 0
      · have hf : decide (x < 0) = true := by simpa using h3
        obtain ⟨a0, a1, a2, a3⟩ := Xa.out.val
        obtain ⟨b0, b1, b2, b3⟩ := Xb.out.val
        obtain ⟨r0, r1, r2, r3⟩ := Xr.out.val
        have fr := Xr.out.frz
        have Zr := hid (Xr.out.put ⟨bK, bI, bb, sb⟩)
        have ZB := hid (below_put B.out (show g ≤ g + 1 + 1 by omega) ⟨bK, bI, bb, sb⟩)
        unfold putV at Zr ZB
        dsimp only at a0 a1 a2 a3 b0 b1 b2 b3 r0 r1 r2 r3 Zr ZB
        go_wp2_with fail
        clear a0 a1 a2 a3 b0 b1 b2 b3 r0 r1 r2 r3 fr
        generalize World.setCell _ _ _ = w9 at *
        obtain ⟨r0, r1, r2, r3⟩ := Zr.out.val
        dsimp only at r0 r1 r2 r3
        have hR : R = ⟨bK, bI, bb, sb⟩ := by rw [HW.out]; rw [if_pos (.inr ⟨h2, h3⟩)]
        subst hR
        refine bodyPost_ret (v := vv ⟨bK, bI, bb, sb⟩) ?_ rfl ⟨rfl, by rw [HG.out]; exact ZB.out⟩
        simp only [results, HRES.out]
        go_simp
        first | rfl | exact ⟨rfl, rfl⟩ | skip
      · have hf : decide (x < 0) = false := by simpa using h3
        obtain ⟨a0, a1, a2, a3⟩ := Xa.out.val
        obtain ⟨b0, b1, b2, b3⟩ := Xb.out.val
        obtain ⟨r0, r1, r2, r3⟩ := Xr.out.val
        have fr := Xr.out.frz
        have Zr := hid (Xr.out.put ⟨aK, aI, ab, sa⟩)
        have ZB := hid (below_put B.out (show g ≤ g + 1 + 1 by omega) ⟨aK, aI, ab, sa⟩)
        unfold putV at Zr ZB
        dsimp only at a0 a1 a2 a3 b0 b1 b2 b3 r0 r1 r2 r3 Zr ZB
        go_wp2_with fail
        clear a0 a1 a2 a3 b0 b1 b2 b3 r0 r1 r2 r3 fr
        generalize World.setCell _ _ _ = w9 at *
        obtain ⟨r0, r1, r2, r3⟩ := Zr.out.val
        dsimp only at r0 r1 r2 r3
        have hR : R = ⟨aK, aI, ab, sa⟩ := by rw [HW.out]; rw [if_neg (by simp [h1, h2]; omega)]
        subst hR
        refine bodyPost_ret (v := vv ⟨aK, aI, ab, sa⟩) ?_ rfl ⟨rfl, by rw [HG.out]; exact ZB.out⟩
        simp only [results, HRES.out]
        go_simp
        first | rfl | exact ⟨rfl, rfl⟩ | skip
set_option maxRecDepth 4000 in
set_option maxHeartbeats 8000000 in
theorem gre_any (a b : V) (w : World) (ha : G3 a) (hb : G3 b) : Calls Tryz.prog 11 #[vv a, vv b] w fun e w' => e = .returned (vv (greV a b)) ∧ Below w.heap.size w w' := by
  have HC1 := hid fun w => compare_any b a w hb ha
  have HW : Hid (greV a b = if a.K = 0 ∨ ¬ b.K = 0 ∧ 0 < cmpV b a then b else a) := rfl
  obtain ⟨xa, xb, xr, hB⟩ := three_bx w a b
  obtain ⟨W, hW⟩ : ∃ W, threeW w a b = W := ⟨_, rfl⟩
  rw [hW] at xa xb xr hB
  have Xa := hid xa
  have Xb := hid xb
  have Xr := hid xr
  have B := hid hB
  have HWW := hid hW
  clear xa xb xr hB hW ha hb
  generalize greV a b = R at *
  generalize cmpV b a = x at *
  obtain ⟨aK, aI, ab, sa⟩ := a
  obtain ⟨bK, bI, bb, sb⟩ := b
  unfold threeW va at HWW
  unfold vv at HC1
  rw [show vv ⟨aK, aI, ab, sa⟩ = .agg #[.int .i64 aK, .int .i64 aI, .float .f64 ab, .string sa] from rfl, show vv ⟨bK, bI, bb, sb⟩ = .agg #[.int .i64 bK, .int .i64 bI, .float .f64 bb, .string sb] from rfl]
  have e0 : v0 = ⟨0, 0, 0, ⟨#[]⟩⟩ := rfl
  rw [e0] at HWW Xr
  clear e0
  dsimp only at *
  have hres : Tryz.f11.results = #[.cell 4 27] := by kernel_rfl
  have HRES := hid hres
  clear hres
  obtain ⟨g, hg⟩ : ∃ g, w.heap.size = g := ⟨_, rfl⟩
  have HG := hid hg
  have HG2 : Hid (g ≤ W.heap.size) := by show g ≤ _; rw [← hg]; exact B.out.size
  rw [hg] at B Xa Xb Xr
  clear hg
  obtain ⟨a0, a1, a2, a3⟩ := Xa.out.val
  obtain ⟨b0, b1, b2, b3⟩ := Xb.out.val
  dsimp only at a0 a1 a2 a3 b0 b1 b2 b3
  by_cases h1 : aK = 0
  · have hd : (aK == 0) = true := by simpa using h1
    go_enter Tryz.func11, Tryz.ntmps11
    go_wp2_with fail
    have hR : R = ⟨bK, bI, bb, sb⟩ := by rw [HW.out]; rw [if_pos (.inl h1)]
    rw [hR]
    refine bodyPost_ret (v := vv ⟨bK, bI, bb, sb⟩) ?_ rfl ⟨rfl, below_up (below_up (below_new w _) (below_new _ _)) (below_new _ _)⟩
    simp only [results, HRES.out]
    go_simp
    first | rfl | exact ⟨rfl, rfl⟩ | skip
  · have hd : (aK == 0) = false := by simpa using h1
    by_cases h2 : bK = 0
    · have he : (bK == 0) = true := by simpa using h2
      go_enter Tryz.func11, Tryz.ntmps11
      go_wp2_with fail
      have hR : R = ⟨aK, aI, ab, sa⟩ := by rw [HW.out]; rw [if_neg (by simp [h1, h2])]
      rw [hR]
      refine bodyPost_ret (v := vv ⟨aK, aI, ab, sa⟩) ?_ rfl ⟨rfl, below_up (below_up (below_new w _) (below_new _ _)) (below_new _ _)⟩
      simp only [results, HRES.out]
      go_simp
      first | rfl | exact ⟨rfl, rfl⟩ | skip
    · have he : (bK == 0) = false := by simpa using h2
      go_enter Tryz.func11, Tryz.ntmps11
      go_wp2_with fail
      rw [HWW.out]
      simp only [HG.out]
      clear a0 a1 a2 a3 b0 b1 b2 b3
      refine (HC1.out _).mono ?_
      rintro e w2 ⟨rfl, hb⟩
      replace B := hid (B.out.trans (hb.mono HG2.out))
      replace Xa := hid (Xa.out.later hb)
      replace Xb := hid (Xb.out.later hb)
      replace Xr := hid (Xr.out.later hb)
      clear hb
      by_cases h3 : 0 < x
      · have hf : decide (0 < x) = true := by simpa using h3
        obtain ⟨a0, a1, a2, a3⟩ := Xa.out.val
        obtain ⟨b0, b1, b2, b3⟩ := Xb.out.val
        obtain ⟨r0, r1, r2, r3⟩ := Xr.out.val
        have fr := Xr.out.frz
        have Zr := hid (Xr.out.put ⟨bK, bI, bb, sb⟩)
        have ZB := hid (below_put B.out (show g ≤ g + 1 + 1 by omega) ⟨bK, bI, bb, sb⟩)
        unfold putV at Zr ZB
        dsimp only at a0 a1 a2 a3 b0 b1 b2 b3 r0 r1 r2 r3 Zr ZB
        go_wp2_with fail
        clear a0 a1 a2 a3 b0 b1 b2 b3 r0 r1 r2 r3 fr
        generalize World.setCell _ _ _ = w9 at *
        obtain ⟨r0, r1, r2, r3⟩ := Zr.out.val
        dsimp only at r0 r1 r2 r3
        have hR : R = ⟨bK, bI, bb, sb⟩ := by rw [HW.out]; rw [if_pos (.inr ⟨h2, h3⟩)]
        subst hR
        refine bodyPost_ret (v := vv ⟨bK, bI, bb, sb⟩) ?_ rfl ⟨rfl, by rw [HG.out]; exact ZB.out⟩
        simp only [results, HRES.out]
        go_simp
        first | rfl | exact ⟨rfl, rfl⟩ | skip
      · have hf : decide (0 < x) = false := by simpa using h3
        obtain ⟨a0, a1, a2, a3⟩ := Xa.out.val
        obtain ⟨b0, b1, b2, b3⟩ := Xb.out.val
        obtain ⟨r0, r1, r2, r3⟩ := Xr.out.val
        have fr := Xr.out.frz
        have Zr := hid (Xr.out.put ⟨aK, aI, ab, sa⟩)
        have ZB := hid (below_put B.out (show g ≤ g + 1 + 1 by omega) ⟨aK, aI, ab, sa⟩)
        unfold putV at Zr ZB
        dsimp only at a0 a1 a2 a3 b0 b1 b2 b3 r0 r1 r2 r3 Zr ZB
        go_wp2_with fail
        clear a0 a1 a2 a3 b0 b1 b2 b3 r0 r1 r2 r3 fr
        generalize World.setCell _ _ _ = w9 at *
        obtain ⟨r0, r1, r2, r3⟩ := Zr.out.val
        dsimp only at r0 r1 r2 r3
        have hR : R = ⟨aK, aI, ab, sa⟩ := by rw [HW.out]; rw [if_neg (by simp [h1, h2]; omega)]
        subst hR
        refine bodyPost_ret (v := vv ⟨aK, aI, ab, sa⟩) ?_ rfl ⟨rfl, by rw [HG.out]; exact ZB.out⟩
        simp only [results, HRES.out]
        go_simp
        first | rfl | exact ⟨rfl, rfl⟩ | skip
end Go.Proofs.YtobmehajknmniaaGreat
