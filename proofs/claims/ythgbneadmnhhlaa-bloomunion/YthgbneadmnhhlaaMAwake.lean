/-
  The law's awake. (Written by mkawake.py.)
-/
import Derived.Test.YthgbneadmnhhlaaMLaw
namespace Go.Proofs.Ythgbneadmnhhlaa
open Go.RowKit Crc Cu Vl
attribute [local go_sem] run_store_float

theorem box_cells {w : World} {g : Nat} {a b c d : Value} {t : TypeId} (h : w.heap[g]? = some (.cells #[a, b, c, d] t (0, 0))) : w.cell? ⟨g, 0, none⟩ = some a ∧ w.cell? ⟨g, 1, none⟩ = some b ∧ w.cell? ⟨g, 2, none⟩ = some c ∧ w.cell? ⟨g, 3, none⟩ = some d :=
  ⟨cell_of h rfl, cell_of h rfl, cell_of h rfl, cell_of h rfl⟩
def aV : V := ⟨1, 5, 0, ⟨#[]⟩⟩
def aW : V := ⟨2, 0, 0, ⟨#[97]⟩⟩
theorem aV_ok : VOk aV ∧ forB aV = true := ⟨⟨⟨by decide, by decide⟩, ⟨by decide, by decide⟩, by decide, Nat.zero_le _⟩, by simp [forB, mayB, aV, Go.ByteArray.toList_eq]⟩
theorem aW_ok : VOk aW ∧ forB aW = true := ⟨⟨⟨by decide, by decide⟩, ⟨by decide, by decide⟩, by decide, by show 1 ≤ _; omega⟩, by simp [forB, mayB, aW, ByteArray.size]⟩
theorem sz64 : isSz ((64 : Nat) : Int) = true := by decide
theorem not_empty {n : Nat} (hn : isSz (n : Int) = true) {l : List V} {v : V} (hv : v ∈ l) (hl : l.all forB = true) : filt n l ≠ filt n [] := fun h => by
  have h1 := has_built hn hl hv
  have h2 := has_none hn v
  rw [h, h2] at h1
  cases h1
theorem bytes_form {w w' : World} {v : Value} {l : List Nat} {n : Nat} (h : NewL w w' v l) (hl : l.length = n) : ∃ a c, v = .slice a n c ∧ Bytes w' a l ∧ Below w.heap.size w w' := by
  obtain ⟨a, c, hv, _, hB⟩ := h.form
  subst hl
  exact ⟨a, c, hv, hB, h.2⟩
set_option maxHeartbeats 4000000 in
theorem awake_any (w : World) : Calls Try.prog 21 #[] w fun e w' => e = .returned (.bool true) ∧ Below w.heap.size w w' := by
  have hall : [aV, aW].all forB = true := by simp [aV_ok.2, aW_ok.2]
  have hE1 : buildE 64 [aV, aW] = 0 := by unfold buildE; rw [if_pos (by exact sz64), if_pos hall]
  have hR1 : buildR 64 [aV, aW] = filt 64 [aV, aW] := by unfold buildR; rw [if_pos ⟨by exact sz64, hall⟩]; rfl
  have hE2 : buildE 64 [] = 0 := by unfold buildE; rw [if_pos (by exact sz64), if_pos (by simp)]
  have hR2 : buildR 64 [] = filt 64 [] := by unfold buildR; rw [if_pos ⟨by exact sz64, by simp⟩]; rfl
  have h2 : ∀ v ∈ [aV, aW], VOk v := by intro v hv; simp at hv; rcases hv with rfl | rfl; exact aV_ok.1; exact aW_ok.1
  have HB1 := hid fun w a hL => build_any 64 a [aV, aW] 2 w ⟨by omega, by omega⟩ h2 hL (by simp)
  rw [hE1, hR1] at HB1
  have HB2 := hid fun w => build_any 64 none [] 0 w ⟨by omega, by omega⟩ (by intro v hv; simp at hv) Lst.nil (by simp)
  rw [hE2, hR2] at HB2
  have HX1 := has_built sz64 hall (v := aV) (by simp)
  have HX2 := has_built sz64 hall (v := aW) (by simp)
  have HX3 := has_none sz64 aV
  have HX4 : allB (filt 64 [aV, aW]) [aW, aV] = true := by unfold allB; rw [List.all_cons, List.all_cons, HX1, HX2]; rfl
  have HX5 : allB (filt 64 []) [aW] = false := by unfold allB; rw [List.all_cons, has_none sz64 aW]; rfl
  have hne := not_empty sz64 (v := aV) (l := [aV, aW]) (by simp) hall
  have HL1 := filt_lt 64 [aV, aW]
  have HL2 := filt_lt 64 []
  have HN1 := filt_len 64 [aV, aW]
  have HN2 := filt_len 64 []
  generalize filt 64 [aV, aW] = F1 at *
  generalize filt 64 [] = F2 at *
  have hC1 := hid fun a c w hB => has_any a F1 c aV w hB HL1 (by omega) aV_ok.1
  have hC2 := hid fun a c w hB => has_any a F1 c aW w hB HL1 (by omega) aW_ok.1
  have hC3 := hid fun a c w hB => has_any a F2 c aV w hB HL2 (by omega) aV_ok.1
  have hC4 := hid fun a c a2 w hB hL => all_any a F1 c a2 [aW, aV] 2 w hB HL1 (by omega) (fun v hv => h2 v (by simp at hv ⊢; exact hv.symm)) hL (by simp)
  have hC5 := hid fun a c a2 w hB hL => all_any a F2 c a2 [aW] 1 w hB HL2 (by omega) (fun v hv => h2 v (by simp at hv ⊢; exact .inr hv)) hL (by simp)
  rw [HX1, HN1] at hC1
  rw [HX2, HN1] at hC2
  rw [HX3, HN2] at hC3
  rw [HX4, HN1] at hC4
  rw [HX5, HN2] at hC5
  have hsne : ((strL F1).toList == (strL F2).toList) = false := by
    rw [str_beqR, decide_eq_false_iff_not]
    exact fun h => hne (strL_inj HL1 HL2 h)
  have HS1 := hid fun a c w (hB : Bytes w a F1) => run_strL c hB
  have HS2 := hid fun a c w (hB : Bytes w a F2) => run_strL c hB
  rw [HN1] at HS1
  rw [HN2] at HS2
  generalize strL F1 = S1 at *
  generalize strL F2 = S2 at *
  have N1 := hid HN1
  have N2 := hid HN2
  clear hall hE1 hR1 hE2 hR2 h2 HX1 HX2 HX3 HX4 HX5 hne HL1 HL2 HN1 HN2
  unfold vv aV at hC1 hC3
  unfold vv aW at hC2
  dsimp only at hC1 hC2 hC3
  have hs1 : (w.alloc (.cells #[.int .i64 1, .int .i64 5, .float .f64 0, .string ⟨#[]⟩] 33)).heap.size = w.heap.size + 1 := by simp
  have hs2 : ((w.alloc (.cells #[.int .i64 1, .int .i64 5, .float .f64 0, .string ⟨#[]⟩] 33)).alloc (.cells #[.int .i64 2, .int .i64 0, .float .f64 0, .string ⟨#[97]⟩] 33)).heap.size = w.heap.size + 1 + 1 := by simp
  obtain ⟨W3, hW3⟩ : ∃ W3, ((w.alloc (.cells #[.int .i64 1, .int .i64 5, .float .f64 0, .string ⟨#[]⟩] 33)).alloc (.cells #[.int .i64 2, .int .i64 0, .float .f64 0, .string ⟨#[97]⟩] 33)).alloc (.cells #[.int .i64 1, .int .i64 5, .float .f64 0, .string ⟨#[]⟩, .int .i64 2, .int .i64 0, .float .f64 0, .string ⟨#[97]⟩] 33) = W3 := ⟨_, rfl⟩
  have hl3 : Lst vc 4 W3 (some ⟨w.heap.size + 1 + 1, 0, none⟩) [aV, aW] := by rw [← hW3, ← hs2]; exact lst_lit _ [aV, aW] _ _ (0, 0) rfl
  have X1 : Hid (W3.heap[w.heap.size]? = some (.cells #[.int .i64 1, .int .i64 5, .float .f64 0, .string ⟨#[]⟩] 33 (0, 0))) := by
    show _ = _
    rw [← hW3, Below.heap_alloc _ _ _ (by simp; omega), Below.heap_alloc _ _ _ (by simp)]
    exact heap_alloc_new w _
  have X2 : Hid (W3.heap[w.heap.size + 1]? = some (.cells #[.int .i64 2, .int .i64 0, .float .f64 0, .string ⟨#[97]⟩] 33 (0, 0))) := by
    show _ = _
    rw [← hW3, Below.heap_alloc _ _ _ (by simp), ← hs1]
    exact heap_alloc_new _ _
  have b3 : Hid (Below w.heap.size w W3) := by
    show Below _ _ _
    rw [← hW3]
    exact below_up (below_up (below_new w _) (below_new _ _)) (below_new _ _)
  have hlt3 : w.heap.size + 1 < W3.heap.size := by rw [← hW3]; simp
  have HW3 := hid hW3
  have HL3 := hid hl3
  have LT := hid hlt3
  clear hW3 hl3 hs1 hs2 hlt3
  go_enter Try.func21, Try.ntmps21
  go_wp2_with fail
  rw [show ((w.alloc (.cells #[.int .i64 1, .int .i64 5, .float .f64 0, .string ⟨#[]⟩] 33)).alloc (.cells #[.int .i64 2, .int .i64 0, .float .f64 0, .string ⟨#[97]⟩] 33)).alloc (.cells #[.int .i64 1, .int .i64 5, .float .f64 0, .string ⟨#[]⟩, .int .i64 2, .int .i64 0, .float .f64 0, .string ⟨#[97]⟩] 33) = W3 from HW3.out]
  refine (HB1.out _ _ HL3.out).mono ?_
  rintro e w1 ⟨v1, rfl, hN1⟩
  obtain ⟨a1, c1, rfl, hF1, hb1⟩ := bytes_form hN1 N1.out
  have F1w := hid hF1
  have Bw := hid hb1
  clear hN1 hF1 hb1 HB1 HL3 HW3
  go_wp2_with fail
  refine (HB2.out _).mono ?_
  rintro e w2 ⟨v2, rfl, hN2⟩
  obtain ⟨a2, c2, rfl, hF2, hb2⟩ := bytes_form hN2 N2.out
  have F1x := hid (F1w.out.later hb2)
  have F2x := hid hF2
  have Bx := hid (below_up Bw.out hb2)
  clear hN2 hF2 hb2 HB2 F1w Bw
  obtain ⟨k0, k1, k2, k3⟩ := box_cells ((Bx.out.block _ (by have := LT.out; omega)).trans X1.out)
  obtain ⟨m0, m1, m2, m3⟩ := box_cells ((Bx.out.block _ LT.out).trans X2.out)
  go_wp2_with fail
  refine (hC1.out a1 c1 _ F1x.out).mono ?_
  rintro e w3 ⟨rfl, hb⟩
  have F1y := hid (F1x.out.later hb)
  have F2y := hid (F2x.out.later hb)
  have By := hid (below_up Bx.out hb)
  clear hb k0 k1 k2 k3 m0 m1 m2 m3 F1x F2x Bx
  have F1x := F1y
  have F2x := F2y
  have Bx := By
  clear F1y F2y By
  obtain ⟨k0, k1, k2, k3⟩ := box_cells ((Bx.out.block _ (by have := LT.out; omega)).trans X1.out)
  obtain ⟨m0, m1, m2, m3⟩ := box_cells ((Bx.out.block _ LT.out).trans X2.out)
  go_wp2_with fail
  refine (hC2.out a1 c1 _ F1x.out).mono ?_
  rintro e w4 ⟨rfl, hb⟩
  have F1y := hid (F1x.out.later hb)
  have F2y := hid (F2x.out.later hb)
  have By := hid (below_up Bx.out hb)
  clear hb k0 k1 k2 k3 m0 m1 m2 m3 F1x F2x Bx
  have F1x := F1y
  have F2x := F2y
  have Bx := By
  clear F1y F2y By
  obtain ⟨k0, k1, k2, k3⟩ := box_cells ((Bx.out.block _ (by have := LT.out; omega)).trans X1.out)
  obtain ⟨m0, m1, m2, m3⟩ := box_cells ((Bx.out.block _ LT.out).trans X2.out)
  go_wp2_with fail
  refine (hC3.out a2 c2 _ F2x.out).mono ?_
  rintro e w5 ⟨rfl, hb⟩
  have F1y := hid (F1x.out.later hb)
  have F2y := hid (F2x.out.later hb)
  have By := hid (below_up Bx.out hb)
  clear hb k0 k1 k2 k3 m0 m1 m2 m3 F1x F2x Bx
  have F1x := F1y
  have F2x := F2y
  have Bx := By
  clear F1y F2y By
  obtain ⟨k0, k1, k2, k3⟩ := box_cells ((Bx.out.block _ (by have := LT.out; omega)).trans X1.out)
  obtain ⟨m0, m1, m2, m3⟩ := box_cells ((Bx.out.block _ LT.out).trans X2.out)
  go_wp2_with fail
  refine (hC4.out a1 c1 _ _ (F1x.out.later (below_new _ _)) (lst_lit _ [aW, aV] _ _ (0, 0) rfl)).mono ?_
  rintro e w6 ⟨rfl, hb⟩
  have F1y := hid (F1x.out.later (below_up (below_new _ _) hb))
  have F2y := hid (F2x.out.later (below_up (below_new _ _) hb))
  have By := hid (below_up Bx.out (below_up (below_new _ _) hb))
  clear hb k0 k1 k2 k3 m0 m1 m2 m3 F1x F2x Bx
  have F1x := F1y
  have F2x := F2y
  have Bx := By
  clear F1y F2y By
  obtain ⟨k0, k1, k2, k3⟩ := box_cells ((Bx.out.block _ (by have := LT.out; omega)).trans X1.out)
  obtain ⟨m0, m1, m2, m3⟩ := box_cells ((Bx.out.block _ LT.out).trans X2.out)
  go_wp2_with fail
  refine (hC5.out a2 c2 _ _ (F2x.out.later (below_new _ _)) (lst_lit _ [aW] _ _ (0, 0) rfl)).mono ?_
  rintro e w7 ⟨rfl, hb⟩
  have F1y := hid (F1x.out.later (below_up (below_new _ _) hb))
  have F2y := hid (F2x.out.later (below_up (below_new _ _) hb))
  have By := hid (below_up Bx.out (below_up (below_new _ _) hb))
  clear hb k0 k1 k2 k3 m0 m1 m2 m3 F1x F2x Bx
  have F1x := F1y
  have F2x := F2y
  have Bx := By
  clear F1y F2y By
  obtain ⟨k0, k1, k2, k3⟩ := box_cells ((Bx.out.block _ (by have := LT.out; omega)).trans X1.out)
  obtain ⟨m0, m1, m2, m3⟩ := box_cells ((Bx.out.block _ LT.out).trans X2.out)
  have r1 := HS1.out a1 c1 _ F1x.out
  have r2 := HS2.out a2 c2 _ F2x.out
  clear k0 k1 k2 k3 m0 m1 m2 m3
  go_wp2_with fail
  go_ret
  exact ⟨rfl, below_up b3.out Bx.out⟩
end Go.Proofs.Ythgbneadmnhhlaa
