import Derived.Test.YtlidolocibfbgaaGreatDoorSAll
import Derived.Test.YtlidolocibfbgaaGreatDoorINames
/-
  Package agg of a chunk that is not there; AggNames.
-/
namespace Go.Proofs.YtlidolocibfbgaaGreatDoor
open Go.ChangeShapes Go.WideShapes Go.ChangeAt Go.RowKit Sl Bt

attribute [local go_sem] run_store_float
def Z12 : Array Value := #[.int .i64 0, .int .i64 0, .int .i64 0, .int .u64 0, .int .i64 0, .int .i64 0, .float .f64 0, .string ⟨#[]⟩, .int .i64 0, .int .i64 0, .float .f64 0, .string ⟨#[]⟩]
theorem box12 (w : World) : ∃ z, ((((((((((((w.alloc (.cells Z12 38)).setCell ⟨w.heap.size, 0, none⟩ (.int .i64 0)).setCell ⟨w.heap.size, 1, none⟩ (.int .i64 0)).setCell ⟨w.heap.size, 2, none⟩ (.int .i64 0)).setCell ⟨w.heap.size, 3, none⟩ (.int .u64 0)).setCell ⟨w.heap.size, 4, none⟩ (.int .i64 0)).setCell ⟨w.heap.size, 5, none⟩ (.int .i64 0)).setCell ⟨w.heap.size, 6, none⟩ (.float .f64 0)).setCell ⟨w.heap.size, 7, none⟩ (.string ⟨#[]⟩)).setCell ⟨w.heap.size, 8, none⟩ (.int .i64 0)).setCell ⟨w.heap.size, 9, none⟩ (.int .i64 0)).setCell ⟨w.heap.size, 10, none⟩ (.float .f64 0)).setCell ⟨w.heap.size, 11, none⟩ (.string ⟨#[]⟩) = z ∧ z.heap[w.heap.size]? = some (.cells Z12 38 (0, 0)) ∧ Below w.heap.size w z := by
  have hn := heap_alloc_new w (.cells Z12 38)
  have hb := below_new w (.cells Z12 38)
  have H := bx_set0 (i := 11) (bx_set0 (i := 10) (bx_set0 (i := 9) (bx_set0 (i := 8) (bx_set0 (i := 7) (bx_set0 (i := 6) (bx_set0 (i := 5) (bx_set0 (i := 4) (bx_set0 (i := 3) (bx_set0 (i := 2) (bx_set0 (i := 1) (bx_set0 (i := 0) hn (.int .i64 0)) (.int .i64 0)) (.int .i64 0)) (.int .u64 0)) (.int .i64 0)) (.int .i64 0)) (.float .f64 0)) (.string ⟨#[]⟩)) (.int .i64 0)) (.int .i64 0)) (.float .f64 0)) (.string ⟨#[]⟩)
  have B := ((((((((((((hb.setCell (p := ⟨w.heap.size, 0, none⟩) (Nat.le_refl _) (.int .i64 0)).setCell (p := ⟨w.heap.size, 1, none⟩) (Nat.le_refl _) (.int .i64 0)).setCell (p := ⟨w.heap.size, 2, none⟩) (Nat.le_refl _) (.int .i64 0)).setCell (p := ⟨w.heap.size, 3, none⟩) (Nat.le_refl _) (.int .u64 0)).setCell (p := ⟨w.heap.size, 4, none⟩) (Nat.le_refl _) (.int .i64 0)).setCell (p := ⟨w.heap.size, 5, none⟩) (Nat.le_refl _) (.int .i64 0)).setCell (p := ⟨w.heap.size, 6, none⟩) (Nat.le_refl _) (.float .f64 0)).setCell (p := ⟨w.heap.size, 7, none⟩) (Nat.le_refl _) (.string ⟨#[]⟩)).setCell (p := ⟨w.heap.size, 8, none⟩) (Nat.le_refl _) (.int .i64 0)).setCell (p := ⟨w.heap.size, 9, none⟩) (Nat.le_refl _) (.int .i64 0)).setCell (p := ⟨w.heap.size, 10, none⟩) (Nat.le_refl _) (.float .f64 0)).setCell (p := ⟨w.heap.size, 11, none⟩) (Nat.le_refl _) (.string ⟨#[]⟩))
  exact ⟨_, rfl, H, B⟩
theorem cells12 {w : World} {g : Nat} (h : w.heap[g]? = some (.cells Z12 38 (0, 0))) : (w.cell? ⟨g, 0, none⟩ = some (.int .i64 0) ∧ w.cell? ⟨g, 1, none⟩ = some (.int .i64 0) ∧ w.cell? ⟨g, 2, none⟩ = some (.int .i64 0) ∧ w.cell? ⟨g, 3, none⟩ = some (.int .u64 0) ∧ w.cell? ⟨g, 4, none⟩ = some (.int .i64 0) ∧ w.cell? ⟨g, 5, none⟩ = some (.int .i64 0) ∧ w.cell? ⟨g, 6, none⟩ = some (.float .f64 0) ∧ w.cell? ⟨g, 7, none⟩ = some (.string ⟨#[]⟩) ∧ w.cell? ⟨g, 8, none⟩ = some (.int .i64 0) ∧ w.cell? ⟨g, 9, none⟩ = some (.int .i64 0) ∧ w.cell? ⟨g, 10, none⟩ = some (.float .f64 0) ∧ w.cell? ⟨g, 11, none⟩ = some (.string ⟨#[]⟩)) ∧ ∀ j, w.frozen? ⟨g, j, none⟩ = false :=
  ⟨⟨cell_of0 h rfl, cell_of0 h rfl, cell_of0 h rfl, cell_of0 h rfl, cell_of0 h rfl, cell_of0 h rfl, cell_of0 h rfl, cell_of0 h rfl, cell_of0 h rfl, cell_of0 h rfl, cell_of0 h rfl, cell_of0 h rfl⟩, fun j => by simp [World.frozen?, h]⟩
set_option maxRecDepth 8000 in
set_option maxHeartbeats 4000000 in
theorem none_any (w : World) : Calls Tryz.prog 7 #[] w fun e w' => e = .returned (.agg Z12) ∧ Below w.heap.size w w' := by
  have hres : Tryz.f7.results = #[.cell 0 38] := by kernel_rfl
  have HRES := hid hres
  obtain ⟨z, hz, hc, hb⟩ := box12 w
  obtain ⟨u, hu⟩ : ∃ u, w.alloc (.cells Z12 38) = u := ⟨_, rfl⟩
  have hn := heap_alloc_new w (.cells Z12 38)
  rw [hu] at hz hn
  obtain ⟨⟨x0, x1, x2, x3, x4, x5, x6, x7, x8, x9, x10, x11⟩, fz⟩ := cells12 hn
  have HC := hid (cells12 hc)
  have B := hid hb
  unfold Z12 at hu
  clear hn hc hb hres
  go_enter Tryz.func7, Tryz.ntmps7
  go_wp2_with fail
  clear hz hu x0 x1 x2 x3 x4 x5 x6 x7 x8 x9 x10 x11 fz
  obtain ⟨⟨x0, x1, x2, x3, x4, x5, x6, x7, x8, x9, x10, x11⟩, fz⟩ := HC.out
  unfold Z12
  refine bodyPost_ret (v := _) ?_ rfl ⟨rfl, B.out⟩
  simp only [results, HRES.out]
  go_simp
theorem bx_put12 {w : World} {g : Nat} (h : w.heap[g]? = some (.cells Z12 38 (0, 0))) : ∃ z, (((((((((((w.setCell ⟨g, 0, none⟩ (.int .i64 0)).setCell ⟨g, 1, none⟩ (.int .i64 0)).setCell ⟨g, 2, none⟩ (.int .i64 0)).setCell ⟨g, 3, none⟩ (.int .u64 0)).setCell ⟨g, 4, none⟩ (.int .i64 0)).setCell ⟨g, 5, none⟩ (.int .i64 0)).setCell ⟨g, 6, none⟩ (.float .f64 0)).setCell ⟨g, 7, none⟩ (.string ⟨#[]⟩)).setCell ⟨g, 8, none⟩ (.int .i64 0)).setCell ⟨g, 9, none⟩ (.int .i64 0)).setCell ⟨g, 10, none⟩ (.float .f64 0)).setCell ⟨g, 11, none⟩ (.string ⟨#[]⟩) = z ∧ z.heap[g]? = some (.cells Z12 38 (0, 0)) ∧ (∀ {B : Nat} {a : World}, B ≤ g → Below B a w → Below B a z) := by
  have H := bx_set0 (i := 11) (bx_set0 (i := 10) (bx_set0 (i := 9) (bx_set0 (i := 8) (bx_set0 (i := 7) (bx_set0 (i := 6) (bx_set0 (i := 5) (bx_set0 (i := 4) (bx_set0 (i := 3) (bx_set0 (i := 2) (bx_set0 (i := 1) (bx_set0 (i := 0) h (.int .i64 0)) (.int .i64 0)) (.int .i64 0)) (.int .u64 0)) (.int .i64 0)) (.int .i64 0)) (.float .f64 0)) (.string ⟨#[]⟩)) (.int .i64 0)) (.int .i64 0)) (.float .f64 0)) (.string ⟨#[]⟩)
  exact ⟨_, rfl, H, fun hg hb => ((((((((((((hb.setCell (p := ⟨g, 0, none⟩) hg _).setCell (p := ⟨g, 1, none⟩) hg _).setCell (p := ⟨g, 2, none⟩) hg _).setCell (p := ⟨g, 3, none⟩) hg _).setCell (p := ⟨g, 4, none⟩) hg _).setCell (p := ⟨g, 5, none⟩) hg _).setCell (p := ⟨g, 6, none⟩) hg _).setCell (p := ⟨g, 7, none⟩) hg _).setCell (p := ⟨g, 8, none⟩) hg _).setCell (p := ⟨g, 9, none⟩) hg _).setCell (p := ⟨g, 10, none⟩) hg _).setCell (p := ⟨g, 11, none⟩) hg _)⟩
set_option maxRecDepth 8000 in
set_option maxHeartbeats 8000000 in
theorem fold_no (v s : Value) (w : World) (hv : NoCh w v) : Calls Tryz.prog 5 #[v, s] w fun e w' => e = .returned (.tuple #[.agg Z12, .int .i64 1]) ∧ Below w.heap.size w w' := by
  have hres : Tryz.f5.results = #[.cell 4 38, .tmp 5] := by kernel_rfl
  have HRES := hid hres
  have b1 := below_new w (.cells Z12 38)
  have h1 := heap_alloc_new w (.cells Z12 38)
  obtain ⟨w1, hw1⟩ : ∃ w1, w.alloc (.cells Z12 38) = w1 := ⟨_, rfl⟩
  rw [hw1] at b1 h1
  have hs : w.heap.size < w1.heap.size := by rw [← hw1]; simp
  have HN := hid (nulls_no v w1 (hv.later b1))
  have H1 := hid h1
  have B1 := hid b1
  have HS := hid hs
  unfold Z12 at hw1
  clear b1 h1 hs hres
  go_enter Tryz.func5, Tryz.ntmps5
  go_wp2_with fail
  refine HN.out.mono ?_
  rintro e w2 ⟨rfl, hb⟩
  have H2 := hid ((hb.block w.heap.size HS.out).trans H1.out)
  have B2 := hid (below_up B1.out hb)
  clear hb HN H1 B1 hw1
  go_wp2_with fail
  refine (none_any w2).mono ?_
  rintro e w3 ⟨rfl, hb⟩
  have hl2 : w.heap.size < w2.heap.size := (Array.getElem?_eq_some_iff.1 H2.out).1
  have h3 : w3.heap[w.heap.size]? = some (.cells Z12 38 (0, 0)) := (hb.block w.heap.size hl2).trans H2.out
  have hb3 := below_up B2.out hb
  obtain ⟨z, hz, hc, hbz⟩ := bx_put12 h3
  have B3 := hid (hbz (Nat.le_refl _) hb3)
  have HC := hid (cells12 hc)
  obtain ⟨⟨x0, x1, x2, x3, x4, x5, x6, x7, x8, x9, x10, x11⟩, fz⟩ := cells12 h3
  clear hb hb3 hl2 h3 hc hbz H2 B2
  unfold Z12
  go_wp2_with fail
  clear hz x0 x1 x2 x3 x4 x5 x6 x7 x8 x9 x10 x11 fz
  obtain ⟨⟨x0, x1, x2, x3, x4, x5, x6, x7, x8, x9, x10, x11⟩, fz⟩ := HC.out
  refine bodyPost_ret (v := _) ?_ rfl ⟨rfl, B3.out⟩
  simp only [results, HRES.out]
  go_simp
  rfl
set_option maxRecDepth 8000 in
set_option maxHeartbeats 8000000 in
theorem merge_no (w : World) : Calls Tryz.prog 8 #[.slice none 0 0] w fun e w' => e = .returned (.agg Z12) ∧ Below w.heap.size w w' := by
  have hres : Tryz.f8.results = #[.cell 2 38] := by kernel_rfl
  have HRES := hid hres
  have b1 := below_new w (.cells Z12 38)
  have h1 := heap_alloc_new w (.cells Z12 38)
  obtain ⟨w1, hw1⟩ : ∃ w1, w.alloc (.cells Z12 38) = w1 := ⟨_, rfl⟩
  rw [hw1] at b1 h1
  have H1 := hid h1
  have B1 := hid b1
  unfold Z12 at hw1
  clear b1 h1 hres
  go_enter Tryz.func8, Tryz.ntmps8
  go_wp2_with fail
  refine (none_any w1).mono ?_
  rintro e w2 ⟨rfl, hb⟩
  have hl1 : w.heap.size < w1.heap.size := (Array.getElem?_eq_some_iff.1 H1.out).1
  have h2 : w2.heap[w.heap.size]? = some (.cells Z12 38 (0, 0)) := (hb.block w.heap.size hl1).trans H1.out
  have hb2 := below_up B1.out hb
  -- the State that is merged
  obtain ⟨u, hu⟩ : ∃ u, w2.alloc (.cells Z12 38) = u := ⟨_, rfl⟩
  have hn := heap_alloc_new w2 (.cells Z12 38)
  have bn := below_new w2 (.cells Z12 38)
  rw [hu] at hn bn
  obtain ⟨z, hz, hc, hbz⟩ := bx_put12 hn
  have hbz2 : Below w2.heap.size w2 z := hbz (Nat.le_refl _) bn
  have hl2 : w.heap.size < w2.heap.size := (Array.getElem?_eq_some_iff.1 h2).1
  have h3 : z.heap[w.heap.size]? = some (.cells Z12 38 (0, 0)) := (hbz2.block w.heap.size hl2).trans h2
  obtain ⟨z2, hz2, hc2, hbz3⟩ := bx_put12 h3
  have B3 := hid (hbz3 (Nat.le_refl _) (below_up hb2 hbz2))
  have HC := hid (cells12 hc2)
  obtain ⟨⟨x0, x1, x2, x3, x4, x5, x6, x7, x8, x9, x10, x11⟩, fz⟩ := cells12 hn
  obtain ⟨⟨y0, y1, y2, y3, y4, y5, y6, y7, y8, y9, y10, y11⟩, fy⟩ := cells12 hc
  obtain ⟨⟨k0, k1, k2, k3, k4, k5, k6, k7, k8, k9, k10, k11⟩, fk⟩ := cells12 h3
  clear hb hl1 h2 hb2 hn bn hc hbz hbz2 hl2 h3 hc2 hbz3 H1 B1 hw1
  unfold Z12 at hu ⊢
  go_wp2_with fail
  go_loopw [9] (fun ix wr => ix = .int .i64 0 ∧ wr = z) (fun _ _ => 0)
  case atStart => exact ⟨rfl, rfl⟩
  case round =>
  obtain ⟨rfl, hwr⟩ := hrel
  rw [hwr]
  go_wp2_with fail
  clear hu hz hz2 x0 x1 x2 x3 x4 x5 x6 x7 x8 x9 x10 x11 fz y0 y1 y2 y3 y4 y5 y6 y7 y8 y9 y10 y11 fy k0 k1 k2 k3 k4 k5 k6 k7 k8 k9 k10 k11 fk
  obtain ⟨⟨x0, x1, x2, x3, x4, x5, x6, x7, x8, x9, x10, x11⟩, fz⟩ := HC.out
  refine bodyPost_ret (v := _) ?_ rfl ⟨rfl, B3.out⟩
  simp only [results, HRES.out]
  go_simp
  try rfl
end Go.Proofs.YtlidolocibfbgaaGreatDoor
