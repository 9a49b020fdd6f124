/-
  An image that is not there: Where; LogicNames.
-/
import Derived.Test.YtohchgpmodpaeaaGreatDoorUMem
import Derived.Test.YtohchgpmodpaeaaGreatDoorUArgs
namespace Go.Proofs.YtohchgpmodpaeaaGreatDoor
open Go.ChangeShapes Go.WideShapes Go.ChangeAt Go.RowKit

theorem run_store_float (P : Program) (w : World) (a : Addr) (m : Mode) (k : FloatKind) (b : Nat) : (store a (.float k b) m).run P w = stored P w a (.float k b) m := run_store P w a _ m rfl
attribute [local go_sem] run_store_float
theorem cell_of0 {w : World} {g i : Nat} {arr : Array Value} {t : TypeId} {fr : Nat × Nat} {v : Value} (h : w.heap[g]? = some (.cells arr t fr)) (hv : arr[i]? = some v) : w.cell? ⟨g, i, none⟩ = some v := by
  simp [World.cell?, h, hv]
theorem bx_set0 {w : World} {g i : Nat} {arr : Array Value} {t : TypeId} (h : w.heap[g]? = some (.cells arr t (0, 0))) (u : Value) : (w.setCell ⟨g, i, none⟩ u).heap[g]? = some (.cells (arr.setIfInBounds i u) t (0, 0)) := by
  have h' : w.heap[g]? = some (.cells arr t (0, 0)) := h
  show (w.setCell ⟨g, i, none⟩ u).heap[g]? = _
  simp only [World.setCell, Array.getElem?_modify]
  simp [h']
def Z2 : Array Value := #[.slice none 0 0, .slice none 0 0]
/-- A pointer to nothing, or to an image's zero value. -/
def NoIm (w : World) (v : Value) : Prop := v = .pointer none ∨ ∃ g, v = .pointer (some ⟨g, 0, none⟩) ∧ g < w.heap.size ∧ w.heap[g]? = some (.cells Z2 25 (0, 0))
theorem NoIm.later {w w' : World} {v : Value} (h : NoIm w v) (hb : Below w.heap.size w w') : NoIm w' v := by
  rcases h with h | ⟨g, h, hg, hh⟩
  · exact .inl h
  · exact .inr ⟨g, h, Nat.lt_of_lt_of_le hg hb.size, (hb.block g hg).trans hh⟩
set_option maxRecDepth 8000 in
set_option maxHeartbeats 4000000 in
theorem kept_no (v : Value) (w : World) (hv : NoIm w v) : Calls Tryz.prog 15 #[v] w fun e w' => e = .returned (.agg Z2) ∧ Below w.heap.size w w' := by
  have hres : Tryz.f15.results = #[.cell 2 25] := by kernel_rfl
  have HRES := hid hres
  have b1 := below_new w (.cells Z2 25)
  have hn := heap_alloc_new w (.cells Z2 25)
  obtain ⟨w1, hw1⟩ : ∃ w1, w.alloc (.cells Z2 25) = w1 := ⟨_, rfl⟩
  rw [hw1] at b1 hn
  have c0 := cell_of0 (i := 0) hn rfl
  have c1 := cell_of0 (i := 1) hn rfl
  have fz : ∀ j, w1.frozen? ⟨w.heap.size, j, none⟩ = false := fun j => by simp [World.frozen?, hn]
  have B := hid ((b1.setCell (p := ⟨w.heap.size, 0, none⟩) (Nat.le_refl _) (.slice none 0 0)).setCell (p := ⟨w.heap.size, 1, none⟩) (Nat.le_refl _) (.slice none 0 0))
  have hh3 := bx_set0 (i := 1) (bx_set0 (i := 0) hn (.slice none 0 0)) (.slice none 0 0)
  have Y0 := hid (cell_of0 (i := 0) hh3 rfl)
  have Y1 := hid (cell_of0 (i := 1) hh3 rfl)
  clear hres hh3
  rcases hv with rfl | ⟨g, rfl, hg, hh⟩
  · clear b1 hn
    unfold Z2 at *
    go_enter Tryz.func15, Tryz.ntmps15
    go_wp2_with fail
    clear c0 c1 fz
    have y0 := Y0.out
    have y1 := Y1.out
    generalize World.setCell _ _ _ = w9 at *
    refine bodyPost_ret (v := _) ?_ rfl ⟨rfl, B.out⟩
    simp only [results, HRES.out]
    go_simp
  · have d0 : w1.cell? ⟨g, 0, none⟩ = some (.slice none 0 0) := (b1.cell (p := ⟨g, 0, none⟩) hg).trans (cell_of0 (i := 0) hh rfl)
    have d1 : w1.cell? ⟨g, 1, none⟩ = some (.slice none 0 0) := (b1.cell (p := ⟨g, 1, none⟩) hg).trans (cell_of0 (i := 1) hh rfl)
    clear b1 hn hh
    unfold Z2 at *
    go_enter Tryz.func15, Tryz.ntmps15
    go_wp2_with fail
    clear c0 c1 fz d0 d1
    have y0 := Y0.out
    have y1 := Y1.out
    generalize World.setCell _ _ _ = w9 at *
    refine bodyPost_ret (v := _) ?_ rfl ⟨rfl, B.out⟩
    simp only [results, HRES.out]
    go_simp
theorem field_cols (w : World) : Sem.run Tryz.prog (Instr.field 25 (Value.agg #[.slice none 0 0, .slice none 0 0]) 0) w = Result.ok (.slice none 0 0) w := by kernel_rfl
theorem nil_nilL (w : World) : (binOp .eql 22 (.slice none 0 0) (.slice none 0 0)).run Tryz.prog w = .ok (.bool true) w := by kernel_rfl
attribute [local go_sem] nil_nilL
set_option maxRecDepth 8000 in
set_option maxHeartbeats 4000000 in
theorem clone_no (w : World) : Calls Tryz.prog 14 #[.slice none 0 0] w fun e w' => e = .returned (.slice none 0 0) ∧ w' = w := by
  go_enter Tryz.func14, Tryz.ntmps14
  go_wp2_with fail
  go_ret
  exact ⟨rfl, rfl⟩
set_option maxRecDepth 8000 in
set_option maxHeartbeats 4000000 in
theorem columns_no (v : Value) (w : World) (hv : NoIm w v) : Calls Tryz.prog 5 #[v] w fun e w' => e = .returned (.slice none 0 0) ∧ Below w.heap.size w w' := by
  have HP := hid (kept_no v w hv)
  have HC := hid fun w => clone_no w
  unfold Z2 at HP
  go_enter Tryz.func5, Tryz.ntmps5
  go_wp2_with fail
  refine HP.out.mono ?_
  rintro e w1 ⟨rfl, hb⟩
  have B := hid hb
  clear hb
  go_wp2_with fail
  rw [field_cols]
  go_wp2_with fail
  refine (HC.out _).mono ?_
  rintro e w2 ⟨rfl, hw⟩
  subst w2
  go_wp2_with fail
  go_ret
  exact ⟨rfl, B.out⟩
theorem results_tmp4 {fn : Func} {t u x y : Tmp} (h : fn.results = #[.tmp t, .tmp u, .tmp x, .tmp y]) (tmps : Array Value) (P : Program) (w : World) :
    (results fn tmps).run P w = .ok (.tuple #[tmps.getD t undef, tmps.getD u undef, tmps.getD x undef, tmps.getD y undef]) w := by
  simp [results, h]
def P9 (K : Int) : Array Value := #[.int .i64 K, .string ⟨#[]⟩, .int .i64 0, .int .i64 0, .int .i64 0, .float .f64 0, .string ⟨#[]⟩, .slice none 0 0, .slice none 0 0]
set_option maxRecDepth 8000 in
set_option maxHeartbeats 4000000 in
theorem where_no (v : Value) (K : Int) (w : World) (hv : NoIm w v) : Calls Tryz.prog 4 #[v, .int .i64 0, .agg (P9 K)] w fun e w' => e = .returned (.tuple #[.pointer none, .pointer none, .slice none 0 0, .int .i64 1]) ∧ Below w.heap.size w w' := by
  have hres : Tryz.f4.results = #[.tmp 6, .tmp 7, .tmp 8, .tmp 9] := by kernel_rfl
  have HRES := hid hres
  clear hres
  have b1 := below_new w (.cells (P9 K) 37)
  have HN := hid (columns_no v _ (hv.later b1))
  have B := hid b1
  unfold P9 at *
  clear b1
  go_enter Tryz.func4, Tryz.ntmps4
  go_wp2_with fail
  refine HN.out.mono ?_
  rintro e w1 ⟨rfl, hb⟩
  replace B := hid (below_up B.out hb)
  clear hb HN
  go_wp2_with fail
  (try simp only [Exit.inBlock, Exit.then])
  refine bodyPost_ret (results_tmp4 HRES.out _ _ _) rfl ?_
  exact ⟨rfl, B.out⟩
set_option maxRecDepth 8000 in
set_option maxHeartbeats 4000000 in
theorem names_walk (w : World) : Calls Tryz.prog 3 #[] w fun e w' => e = .returned (.bool true) ∧ Below w.heap.size w w' := by
  have b1 := below_new w (.cells Z2 25)
  have h1 := heap_alloc_new w (.cells Z2 25)
  obtain ⟨w1, hw1⟩ : ∃ w1, w.alloc (.cells Z2 25) = w1 := ⟨_, rfl⟩
  rw [hw1] at b1 h1
  have HW := hid (where_no (.pointer none) 0 w1 (.inl rfl))
  have hs : w.heap.size < w1.heap.size := by rw [← hw1]; simp
  have HW2 := hid fun (W : World) (h : Below w1.heap.size w1 W) => where_no (.pointer (some ⟨w.heap.size, 0, none⟩)) 99 W (NoIm.later (.inr ⟨_, rfl, hs, h1⟩) h)
  have B := hid b1
  unfold P9 at HW HW2
  unfold Z2 at hw1
  clear b1 h1 hs
  go_enter Tryz.func3, Tryz.ntmps3
  go_wp2_with fail
  refine HW.out.mono ?_
  rintro e w2 ⟨rfl, hb⟩
  have HW3 := hid (HW2.out w2 hb)
  have B2 := hid (below_up B.out hb)
  clear HW HW2 B hb
  go_wp2_with fail
  refine HW3.out.mono ?_
  rintro e w3 ⟨rfl, hb⟩
  have B3 := hid (below_up B2.out hb)
  clear HW3 B2 hb
  go_wp2_with fail
  go_ret
  exact ⟨rfl, B3.out⟩
end Go.Proofs.YtohchgpmodpaeaaGreatDoor
