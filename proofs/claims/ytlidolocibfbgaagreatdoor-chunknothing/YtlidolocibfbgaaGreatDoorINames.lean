import Derived.Test.YtlidolocibfbgaaGreatDoorRAll
import Derived.Test.YtlidolocibfbgaaGreatDoorUAll
/-
  A chunk that is not there: Nulls, Column, Test; IntsNames.
-/
namespace Go.Proofs.YtlidolocibfbgaaGreatDoor
open Go.ChangeShapes Go.WideShapes Go.ChangeAt Go.RowKit

theorem run_store_float (P : Program) (w : World) (a : Addr) (m : Mode) (k : FloatKind) (b : Nat) : (store a (.float k b) m).run P w = stored P w a (.float k b) m := run_store P w a _ m rfl

attribute [local go_sem] run_store_float
theorem cell_of0 {w : World} {g i : Nat} {arr : Array Value} {t : TypeId} {fr : Nat × Nat} {v : Value} (h : w.heap[g]? = some (.cells arr t fr)) (hv : arr[i]? = some v) : w.cell? ⟨g, i, none⟩ = some v := by
  simp [World.cell?, h, hv]
theorem bx_set0 {w : World} {g i : Nat} {arr : Array Value} {t : TypeId} (h : w.heap[g]? = some (.cells arr t (0, 0))) (u : Value) : (w.setCell ⟨g, i, none⟩ u).heap[g]? = some (.cells (arr.setIfInBounds i u) t (0, 0)) := by
  have h' : w.heap[g]? = some (.cells arr t (0, 0)) := h
  show (w.setCell ⟨g, i, none⟩ u).heap[g]? = _
  simp only [World.setCell, Array.getElem?_modify]
  simp [h']
def Z7 : Array Value := #[.string ⟨#[]⟩, .int .i64 0, .bool false, .int .i64 0, .int .i64 0, .pointer none, .nilIface]
/-- A pointer to nothing, or to a chunk's zero value. -/
def NoCh (w : World) (v : Value) : Prop := v = .pointer none ∨ ∃ g, v = .pointer (some ⟨g, 0, none⟩) ∧ g < w.heap.size ∧ w.heap[g]? = some (.cells Z7 30 (0, 0))
theorem NoCh.later {w w' : World} {v : Value} (h : NoCh w v) (hb : Below w.heap.size w w') : NoCh w' v := by
  rcases h with h | ⟨g, h, hg, hh⟩
  · exact .inl h
  · exact .inr ⟨g, h, Nat.lt_of_lt_of_le hg hb.size, (hb.block g hg).trans hh⟩
set_option maxRecDepth 8000 in
set_option maxHeartbeats 4000000 in
theorem parts_no (v : Value) (w : World) (hv : NoCh w v) : Calls Tryz.prog 33 #[v] w fun e w' => e = .returned (.agg Z7) ∧ Below w.heap.size w w' := by
  have hres : Tryz.f33.results = #[.cell 2 30] := by kernel_rfl
  have HRES := hid hres
  have B := hid (below_new w (.cells Z7 30))
  have hn := heap_alloc_new w (.cells Z7 30)
  obtain ⟨y0, y1, y2, y3, y4, y5, y6⟩ : _ ∧ _ ∧ _ ∧ _ ∧ _ ∧ _ ∧ _ := ⟨cell_of0 (i := 0) hn rfl, cell_of0 (i := 1) hn rfl, cell_of0 (i := 2) hn rfl, cell_of0 (i := 3) hn rfl, cell_of0 (i := 4) hn rfl, cell_of0 (i := 5) hn rfl, cell_of0 (i := 6) hn rfl⟩
  have Y0 := hid y0
  have Y1 := hid y1
  have Y2 := hid y2
  have Y3 := hid y3
  have Y4 := hid y4
  have Y5 := hid y5
  have Y6 := hid y6
  clear y0 y1 y2 y3 y4 y5 y6 hn hres
  rcases hv with rfl | ⟨g, rfl, hg, hh⟩
  · unfold Z7 at *
    go_enter Tryz.func33, Tryz.ntmps33
    go_wp2_with fail
    have y0 := Y0.out
    have y1 := Y1.out
    have y2 := Y2.out
    have y3 := Y3.out
    have y4 := Y4.out
    have y5 := Y5.out
    have y6 := Y6.out
    generalize World.alloc _ _ = w9 at *
    refine bodyPost_ret (v := _) ?_ rfl ⟨rfl, B.out⟩
    simp only [results, HRES.out]
    go_simp
  · have c0 := cell_of0 (i := 0) hh rfl
    have c1 := cell_of0 (i := 1) hh rfl
    have c2 := cell_of0 (i := 2) hh rfl
    have c3 := cell_of0 (i := 3) hh rfl
    have c4 := cell_of0 (i := 4) hh rfl
    have c5 := cell_of0 (i := 5) hh rfl
    have c6 := cell_of0 (i := 6) hh rfl
    obtain ⟨d0, d1, d2, d3, d4, d5, d6⟩ : _ ∧ _ ∧ _ ∧ _ ∧ _ ∧ _ ∧ _ := ⟨(B.out.cell (p := ⟨g, 0, none⟩) hg).trans c0, (B.out.cell (p := ⟨g, 1, none⟩) hg).trans c1, (B.out.cell (p := ⟨g, 2, none⟩) hg).trans c2, (B.out.cell (p := ⟨g, 3, none⟩) hg).trans c3, (B.out.cell (p := ⟨g, 4, none⟩) hg).trans c4, (B.out.cell (p := ⟨g, 5, none⟩) hg).trans c5, (B.out.cell (p := ⟨g, 6, none⟩) hg).trans c6⟩
    clear hh c0 c1 c2 c3 c4 c5 c6
    unfold Z7 at *
    go_enter Tryz.func33, Tryz.ntmps33
    go_wp2_with fail
    clear d0 d1 d2 d3 d4 d5 d6
    have y0 := Y0.out
    have y1 := Y1.out
    have y2 := Y2.out
    have y3 := Y3.out
    have y4 := Y4.out
    have y5 := Y5.out
    have y6 := Y6.out
    generalize World.alloc _ _ = w9 at *
    refine bodyPost_ret (v := _) ?_ rfl ⟨rfl, B.out⟩
    simp only [results, HRES.out]
    go_simp
theorem field_nulls (w : World) : Sem.run Tryz.prog (Instr.field 30 (Value.agg #[Value.string { data := #[] }, Value.int IntKind.i64 0, Value.bool false, Value.int IntKind.i64 0, Value.int IntKind.i64 0, Value.pointer none, Value.nilIface]) 2) w = Result.ok (Value.pointer none) w := by kernel_rfl
theorem field_column (w : World) : Sem.run Tryz.prog (Instr.field 30 (Value.agg #[Value.string { data := #[] }, Value.int IntKind.i64 0, Value.bool false, Value.int IntKind.i64 0, Value.int IntKind.i64 0, Value.pointer none, Value.nilIface]) 0) w = Result.ok (Value.agg #[.string ⟨#[]⟩, .int .i64 0, .bool false]) w := by kernel_rfl
theorem clone_nil (w : World) : Calls Tryz.prog 37 #[.pointer none] w fun e w' => e = .returned (.pointer none) ∧ w' = w := by
  go_enter Tryz.func37, Tryz.ntmps37
  go_wp2_with fail
  go_ret
  exact ⟨rfl, rfl⟩
set_option maxRecDepth 8000 in
set_option maxHeartbeats 4000000 in
theorem nulls_no (v : Value) (w : World) (hv : NoCh w v) : Calls Tryz.prog 16 #[v] w fun e w' => e = .returned (.pointer none) ∧ Below w.heap.size w w' := by
  have HP := hid (parts_no v w hv)
  have HC := hid fun w => clone_nil w
  unfold Z7 at HP
  go_enter Tryz.func16, Tryz.ntmps16
  go_wp2_with fail
  refine HP.out.mono ?_
  rintro e w1 ⟨rfl, hb⟩
  have B := hid hb
  clear hb
  go_wp2_with fail
  rw [field_nulls]
  go_wp2_with fail
  refine (HC.out _).mono ?_
  rintro e w2 ⟨rfl, hw⟩
  subst w2
  go_wp2_with fail
  go_ret
  exact ⟨rfl, B.out⟩
set_option maxRecDepth 8000 in
set_option maxHeartbeats 4000000 in
theorem column_no (v : Value) (w : World) (hv : NoCh w v) : Calls Tryz.prog 14 #[v] w fun e w' => e = .returned (.agg #[.string ⟨#[]⟩, .int .i64 0, .bool false]) ∧ Below w.heap.size w w' := by
  have hres : Tryz.f14.results = #[.cell 2 23] := by kernel_rfl
  have HRES := hid hres
  have b1 := below_new w (.cells #[.string ⟨#[]⟩, .int .i64 0, .bool false] 23)
  have hn := heap_alloc_new w (.cells #[.string ⟨#[]⟩, .int .i64 0, .bool false] 23)
  have HP := hid (parts_no v _ (hv.later b1))
  have B1 := hid b1
  have HN := hid hn
  unfold Z7 at HP
  clear hres b1 hn
  go_enter Tryz.func14, Tryz.ntmps14
  go_wp2_with fail
  refine HP.out.mono ?_
  rintro e w1 ⟨rfl, hb⟩
  have hh : w1.heap[w.heap.size]? = some (.cells #[.string ⟨#[]⟩, .int .i64 0, .bool false] 23) := (hb.block w.heap.size (by simp)).trans HN.out
  have c0 := cell_of0 (i := 0) hh rfl
  have c1 := cell_of0 (i := 1) hh rfl
  have c2 := cell_of0 (i := 2) hh rfl
  have fz : ∀ j, w1.frozen? ⟨w.heap.size, j, none⟩ = false := fun j => by simp [World.frozen?, hh]
  have B := hid (below_up B1.out hb)
  have YB := hid (((B.out.setCell (p := ⟨w.heap.size, 0, none⟩) (Nat.le_refl _) (.string ⟨#[]⟩)).setCell (p := ⟨w.heap.size, 1, none⟩) (Nat.le_refl _) (.int .i64 0)).setCell (p := ⟨w.heap.size, 2, none⟩) (Nat.le_refl _) (.bool false))
  have hh3 := bx_set0 (i := 2) (bx_set0 (i := 1) (bx_set0 (i := 0) hh (.string ⟨#[]⟩)) (.int .i64 0)) (.bool false)
  have Y0 := hid (cell_of0 (i := 0) hh3 rfl)
  have Y1 := hid (cell_of0 (i := 1) hh3 rfl)
  have Y2 := hid (cell_of0 (i := 2) hh3 rfl)
  clear hb hh hh3 HN HP
  go_wp2_with fail
  rw [field_column]
  go_wp2_with fail
  clear c0 c1 c2 fz
  have y0 := Y0.out
  have y1 := Y1.out
  have y2 := Y2.out
  generalize World.setCell _ _ _ = w9 at *
  refine bodyPost_ret (v := _) ?_ rfl ⟨rfl, YB.out⟩
  simp only [results, HRES.out]
  go_simp
def P9n : Array Value := #[.int .i64 4, .string ⟨#[110]⟩, .int .i64 0, .int .i64 0, .int .i64 0, .float .f64 0, .string ⟨#[]⟩, .slice none 0 0, .slice none 0 0]
end Go.Proofs.YtlidolocibfbgaaGreatDoor
