/-
  ask of a reader that is not there, by kinds; none.
-/
import Derived.Test.YtefjhiodeaohcaaPAsk
namespace Go.Proofs.Ytefjhiodeaohcaa
open Go.RowKit Cu

theorem row2 (w : World) (o : Obj) (arr : Array Value) : ((w.alloc o).alloc (.cells arr tTold)).heap[w.heap.size + 1]? = some (.cells arr tTold (0, 0)) := by
  have := heap_alloc_new (w.alloc o) (.cells arr tTold)
  rwa [show (w.alloc o).heap.size = w.heap.size + 1 by simp] at this
theorem below2 (w : World) (o o' : Obj) : Below w.heap.size w ((w.alloc o).alloc o') := ((Below.refl _ w).alloc (Nat.le_refl _) _).alloc (by simp) _
def nilM (k : Nat) : Nat := if k ≤ 10 then 0 else 1
theorem nil_fin {w W2 w3 : World} (hb : Below w.heap.size w W2) (h3 : Below W2.heap.size W2 w3) (u b t : Value) : Below w.heap.size w (((w3.setCell ⟨w.heap.size + 1, 0, none⟩ u).setCell ⟨w.heap.size + 1, 1, none⟩ b).setCell ⟨w.heap.size + 1, 2, none⟩ t) := by
  have h := below_up hb h3
  exact ((h.setCell (p := ⟨w.heap.size + 1, 0, none⟩) (Nat.le_succ _) u).setCell (p := ⟨w.heap.size + 1, 1, none⟩) (Nat.le_succ _) b).setCell (p := ⟨w.heap.size + 1, 2, none⟩) (Nat.le_succ _) t
set_option maxRecDepth 4000 in
set_option maxHeartbeats 2000000 in
theorem askN0 (w : World) (a b c d : Int) (hk : pickN b 13 = 0) : Calls Try.prog 14 #[.pointer none, stepV a b c d] w fun x w' => x = .returned (.agg #[.int .u64 0, .slice none 0 0, .slice none 0 0]) ∧ Below w.heap.size w w' := by
  have hP := fun W => pick_any b 13 W (by omega) (by omega)
  rw [hk] at hP
  have HP := hid hP
  have hb1 := below_new w (.cells #[.int .i64 a, .int .i64 b, .int .i64 c, .int .i64 d] tStep)
  have hb2 : Below w.heap.size w ((w.alloc (.cells #[.int .i64 a, .int .i64 b, .int .i64 c, .int .i64 d] tStep)).alloc (.cells #[.int .u64 0, .slice none 0 0, .slice none 0 0] tTold)) := hb1.alloc hb1.size _
  have HB := hid hb2
  have HR := hid (ask_row w (.cells #[.int .i64 a, .int .i64 b, .int .i64 c, .int .i64 d] tStep))
  have HZ : Hid (((w.alloc (.cells #[.int .i64 a, .int .i64 b, .int .i64 c, .int .i64 d] tStep)).alloc (.cells #[.int .u64 0, .slice none 0 0, .slice none 0 0] tTold)).heap.size = w.heap.size + 2) := by show _ = _; simp
  clear hP hb1 hb2
  go_enter Try.func14, Try.ntmps14
  go_wp2_with (go_at_call 12; refine (HP.out _).mono ?_; rintro e w2 ⟨rfl, hw2⟩; subst w2)
  refine (pTake_nil_uint8 _).mono ?_
  rintro e w3 ⟨rfl, h3⟩
  have hr3 := (h3.block (w.heap.size + 1) (by rw [HZ.out]; omega)).trans HR.out
  obtain ⟨k0, k1, k2, f0, f1, f2⟩ := told_cells hr3
  have H3 := hid h3
  have HR3 := hid hr3
  clear HR h3 hr3
  go_wp2_with fail
  refine bodyPost_ret (results_cell_row rfl _ _ (w.heap.size + 1) tTold _ (0, 0) _ rfl (told_row HR3.out _ _ _) Try.underlying39 rfl (by kernel_rfl)) rfl ?_
  exact ⟨rfl, nil_fin HB.out H3.out _ _ _⟩
set_option maxRecDepth 4000 in
set_option maxHeartbeats 2000000 in
theorem askN1 (w : World) (a b c d : Int) (hk : pickN b 13 = 1) : Calls Try.prog 14 #[.pointer none, stepV a b c d] w fun x w' => x = .returned (.agg #[.int .u64 0, .slice none 0 0, .slice none 0 0]) ∧ Below w.heap.size w w' := by
  have hP := fun W => pick_any b 13 W (by omega) (by omega)
  rw [hk] at hP
  have HP := hid hP
  have hb1 := below_new w (.cells #[.int .i64 a, .int .i64 b, .int .i64 c, .int .i64 d] tStep)
  have hb2 : Below w.heap.size w ((w.alloc (.cells #[.int .i64 a, .int .i64 b, .int .i64 c, .int .i64 d] tStep)).alloc (.cells #[.int .u64 0, .slice none 0 0, .slice none 0 0] tTold)) := hb1.alloc hb1.size _
  have HB := hid hb2
  have HR := hid (ask_row w (.cells #[.int .i64 a, .int .i64 b, .int .i64 c, .int .i64 d] tStep))
  have HZ : Hid (((w.alloc (.cells #[.int .i64 a, .int .i64 b, .int .i64 c, .int .i64 d] tStep)).alloc (.cells #[.int .u64 0, .slice none 0 0, .slice none 0 0] tTold)).heap.size = w.heap.size + 2) := by show _ = _; simp
  clear hP hb1 hb2
  go_enter Try.func14, Try.ntmps14
  go_wp2_with (go_at_call 12; refine (HP.out _).mono ?_; rintro e w2 ⟨rfl, hw2⟩; subst w2)
  refine (pTake_nil_uint16 _).mono ?_
  rintro e w3 ⟨rfl, h3⟩
  have hr3 := (h3.block (w.heap.size + 1) (by rw [HZ.out]; omega)).trans HR.out
  obtain ⟨k0, k1, k2, f0, f1, f2⟩ := told_cells hr3
  have H3 := hid h3
  have HR3 := hid hr3
  clear HR h3 hr3
  go_wp2_with fail
  refine bodyPost_ret (results_cell_row rfl _ _ (w.heap.size + 1) tTold _ (0, 0) _ rfl (told_row HR3.out _ _ _) Try.underlying39 rfl (by kernel_rfl)) rfl ?_
  exact ⟨rfl, nil_fin HB.out H3.out _ _ _⟩
set_option maxRecDepth 4000 in
set_option maxHeartbeats 2000000 in
theorem askN2 (w : World) (a b c d : Int) (hk : pickN b 13 = 2) : Calls Try.prog 14 #[.pointer none, stepV a b c d] w fun x w' => x = .returned (.agg #[.int .u64 0, .slice none 0 0, .slice none 0 0]) ∧ Below w.heap.size w w' := by
  have hP := fun W => pick_any b 13 W (by omega) (by omega)
  rw [hk] at hP
  have HP := hid hP
  have hb1 := below_new w (.cells #[.int .i64 a, .int .i64 b, .int .i64 c, .int .i64 d] tStep)
  have hb2 : Below w.heap.size w ((w.alloc (.cells #[.int .i64 a, .int .i64 b, .int .i64 c, .int .i64 d] tStep)).alloc (.cells #[.int .u64 0, .slice none 0 0, .slice none 0 0] tTold)) := hb1.alloc hb1.size _
  have HB := hid hb2
  have HR := hid (ask_row w (.cells #[.int .i64 a, .int .i64 b, .int .i64 c, .int .i64 d] tStep))
  have HZ : Hid (((w.alloc (.cells #[.int .i64 a, .int .i64 b, .int .i64 c, .int .i64 d] tStep)).alloc (.cells #[.int .u64 0, .slice none 0 0, .slice none 0 0] tTold)).heap.size = w.heap.size + 2) := by show _ = _; simp
  clear hP hb1 hb2
  go_enter Try.func14, Try.ntmps14
  go_wp2_with (go_at_call 12; refine (HP.out _).mono ?_; rintro e w2 ⟨rfl, hw2⟩; subst w2)
  refine (pTake_nil_uint32 _).mono ?_
  rintro e w3 ⟨rfl, h3⟩
  have hr3 := (h3.block (w.heap.size + 1) (by rw [HZ.out]; omega)).trans HR.out
  obtain ⟨k0, k1, k2, f0, f1, f2⟩ := told_cells hr3
  have H3 := hid h3
  have HR3 := hid hr3
  clear HR h3 hr3
  go_wp2_with fail
  refine bodyPost_ret (results_cell_row rfl _ _ (w.heap.size + 1) tTold _ (0, 0) _ rfl (told_row HR3.out _ _ _) Try.underlying39 rfl (by kernel_rfl)) rfl ?_
  exact ⟨rfl, nil_fin HB.out H3.out _ _ _⟩
set_option maxRecDepth 4000 in
set_option maxHeartbeats 2000000 in
theorem askN3 (w : World) (a b c d : Int) (hk : pickN b 13 = 3) : Calls Try.prog 14 #[.pointer none, stepV a b c d] w fun x w' => x = .returned (.agg #[.int .u64 0, .slice none 0 0, .slice none 0 0]) ∧ Below w.heap.size w w' := by
  have hP := fun W => pick_any b 13 W (by omega) (by omega)
  rw [hk] at hP
  have HP := hid hP
  have hb1 := below_new w (.cells #[.int .i64 a, .int .i64 b, .int .i64 c, .int .i64 d] tStep)
  have hb2 : Below w.heap.size w ((w.alloc (.cells #[.int .i64 a, .int .i64 b, .int .i64 c, .int .i64 d] tStep)).alloc (.cells #[.int .u64 0, .slice none 0 0, .slice none 0 0] tTold)) := hb1.alloc hb1.size _
  have HB := hid hb2
  have HR := hid (ask_row w (.cells #[.int .i64 a, .int .i64 b, .int .i64 c, .int .i64 d] tStep))
  have HZ : Hid (((w.alloc (.cells #[.int .i64 a, .int .i64 b, .int .i64 c, .int .i64 d] tStep)).alloc (.cells #[.int .u64 0, .slice none 0 0, .slice none 0 0] tTold)).heap.size = w.heap.size + 2) := by show _ = _; simp
  clear hP hb1 hb2
  go_enter Try.func14, Try.ntmps14
  go_wp2_with (go_at_call 12; refine (HP.out _).mono ?_; rintro e w2 ⟨rfl, hw2⟩; subst w2)
  refine (pTake_nil_uint64 _).mono ?_
  rintro e w3 ⟨rfl, h3⟩
  have hr3 := (h3.block (w.heap.size + 1) (by rw [HZ.out]; omega)).trans HR.out
  obtain ⟨k0, k1, k2, f0, f1, f2⟩ := told_cells hr3
  have H3 := hid h3
  have HR3 := hid hr3
  clear HR h3 hr3
  go_wp2_with fail
  refine bodyPost_ret (results_cell_row rfl _ _ (w.heap.size + 1) tTold _ (0, 0) _ rfl (told_row HR3.out _ _ _) Try.underlying39 rfl (by kernel_rfl)) rfl ?_
  exact ⟨rfl, nil_fin HB.out H3.out _ _ _⟩
set_option maxRecDepth 4000 in
set_option maxHeartbeats 2000000 in
theorem askN4 (w : World) (a b c d : Int) (hk : pickN b 13 = 4) : Calls Try.prog 14 #[.pointer none, stepV a b c d] w fun x w' => x = .returned (.agg #[.int .u64 0, .slice none 0 0, .slice none 0 0]) ∧ Below w.heap.size w w' := by
  have hP := fun W => pick_any b 13 W (by omega) (by omega)
  rw [hk] at hP
  have HP := hid hP
  have hb1 := below_new w (.cells #[.int .i64 a, .int .i64 b, .int .i64 c, .int .i64 d] tStep)
  have hb2 : Below w.heap.size w ((w.alloc (.cells #[.int .i64 a, .int .i64 b, .int .i64 c, .int .i64 d] tStep)).alloc (.cells #[.int .u64 0, .slice none 0 0, .slice none 0 0] tTold)) := hb1.alloc hb1.size _
  have HB := hid hb2
  have HR := hid (ask_row w (.cells #[.int .i64 a, .int .i64 b, .int .i64 c, .int .i64 d] tStep))
  have HZ : Hid (((w.alloc (.cells #[.int .i64 a, .int .i64 b, .int .i64 c, .int .i64 d] tStep)).alloc (.cells #[.int .u64 0, .slice none 0 0, .slice none 0 0] tTold)).heap.size = w.heap.size + 2) := by show _ = _; simp
  clear hP hb1 hb2
  go_enter Try.func14, Try.ntmps14
  go_wp2_with (go_at_call 12; refine (HP.out _).mono ?_; rintro e w2 ⟨rfl, hw2⟩; subst w2)
  refine (pTake_nil_tall _).mono ?_
  rintro e w3 ⟨rfl, h3⟩
  have hr3 := (h3.block (w.heap.size + 1) (by rw [HZ.out]; omega)).trans HR.out
  obtain ⟨k0, k1, k2, f0, f1, f2⟩ := told_cells hr3
  have H3 := hid h3
  have HR3 := hid hr3
  clear HR h3 hr3
  go_wp2_with fail
  refine bodyPost_ret (results_cell_row rfl _ _ (w.heap.size + 1) tTold _ (0, 0) _ rfl (told_row HR3.out _ _ _) Try.underlying39 rfl (by kernel_rfl)) rfl ?_
  exact ⟨rfl, nil_fin HB.out H3.out _ _ _⟩
set_option maxRecDepth 4000 in
set_option maxHeartbeats 2000000 in
theorem askN5 (w : World) (a b c d : Int) (hk : pickN b 13 = 5) : Calls Try.prog 14 #[.pointer none, stepV a b c d] w fun x w' => x = .returned (.agg #[.int .u64 0, .slice none 0 0, .slice none 0 0]) ∧ Below w.heap.size w w' := by
  have hP := fun W => pick_any b 13 W (by omega) (by omega)
  rw [hk] at hP
  have HP := hid hP
  have hb1 := below_new w (.cells #[.int .i64 a, .int .i64 b, .int .i64 c, .int .i64 d] tStep)
  have hb2 : Below w.heap.size w ((w.alloc (.cells #[.int .i64 a, .int .i64 b, .int .i64 c, .int .i64 d] tStep)).alloc (.cells #[.int .u64 0, .slice none 0 0, .slice none 0 0] tTold)) := hb1.alloc hb1.size _
  have HB := hid hb2
  have HR := hid (ask_row w (.cells #[.int .i64 a, .int .i64 b, .int .i64 c, .int .i64 d] tStep))
  have HZ : Hid (((w.alloc (.cells #[.int .i64 a, .int .i64 b, .int .i64 c, .int .i64 d] tStep)).alloc (.cells #[.int .u64 0, .slice none 0 0, .slice none 0 0] tTold)).heap.size = w.heap.size + 2) := by show _ = _; simp
  clear hP hb1 hb2
  go_enter Try.func14, Try.ntmps14
  go_wp2_with (go_at_call 12; refine (HP.out _).mono ?_; rintro e w2 ⟨rfl, hw2⟩; subst w2)
  refine (pUv_nil _).mono ?_
  rintro e w3 ⟨rfl, h3⟩
  have hr3 := (h3.block (w.heap.size + 1) (by rw [HZ.out]; omega)).trans HR.out
  obtain ⟨k0, k1, k2, f0, f1, f2⟩ := told_cells hr3
  have H3 := hid h3
  have HR3 := hid hr3
  clear HR h3 hr3
  go_wp2_with fail
  refine bodyPost_ret (results_cell_row rfl _ _ (w.heap.size + 1) tTold _ (0, 0) _ rfl (told_row HR3.out _ _ _) Try.underlying39 rfl (by kernel_rfl)) rfl ?_
  exact ⟨rfl, nil_fin HB.out H3.out _ _ _⟩
set_option maxRecDepth 4000 in
set_option maxHeartbeats 2000000 in
theorem askN6 (w : World) (a b c d : Int) (hk : pickN b 13 = 6) : Calls Try.prog 14 #[.pointer none, stepV a b c d] w fun x w' => x = .returned (.agg #[.int .u64 0, .slice none 0 0, .slice none 0 0]) ∧ Below w.heap.size w w' := by
  have hP := fun W => pick_any b 13 W (by omega) (by omega)
  rw [hk] at hP
  have HP := hid hP
  have hb1 := below_new w (.cells #[.int .i64 a, .int .i64 b, .int .i64 c, .int .i64 d] tStep)
  have hb2 : Below w.heap.size w ((w.alloc (.cells #[.int .i64 a, .int .i64 b, .int .i64 c, .int .i64 d] tStep)).alloc (.cells #[.int .u64 0, .slice none 0 0, .slice none 0 0] tTold)) := hb1.alloc hb1.size _
  have HB := hid hb2
  have HR := hid (ask_row w (.cells #[.int .i64 a, .int .i64 b, .int .i64 c, .int .i64 d] tStep))
  have HZ : Hid (((w.alloc (.cells #[.int .i64 a, .int .i64 b, .int .i64 c, .int .i64 d] tStep)).alloc (.cells #[.int .u64 0, .slice none 0 0, .slice none 0 0] tTold)).heap.size = w.heap.size + 2) := by show _ = _; simp
  clear hP hb1 hb2
  go_enter Try.func14, Try.ntmps14
  go_wp2_with (go_at_call 12; refine (HP.out _).mono ?_; rintro e w2 ⟨rfl, hw2⟩; subst w2)
  refine (pVarint_nil _).mono ?_
  rintro e w3 ⟨rfl, h3⟩
  have hr3 := (h3.block (w.heap.size + 1) (by rw [HZ.out]; omega)).trans HR.out
  obtain ⟨k0, k1, k2, f0, f1, f2⟩ := told_cells hr3
  have H3 := hid h3
  have HR3 := hid hr3
  clear HR h3 hr3
  go_wp2_with fail
  refine bodyPost_ret (results_cell_row rfl _ _ (w.heap.size + 1) tTold _ (0, 0) _ rfl (told_row HR3.out _ _ _) Try.underlying39 rfl (by kernel_rfl)) rfl ?_
  exact ⟨rfl, nil_fin HB.out H3.out _ _ _⟩
set_option maxRecDepth 4000 in
set_option maxHeartbeats 2000000 in
theorem askN7 (w : World) (a b c d : Int) (hk : pickN b 13 = 7) : Calls Try.prog 14 #[.pointer none, stepV a b c d] w fun x w' => x = .returned (.agg #[.int .u64 0, .slice none 0 0, .slice none 0 0]) ∧ Below w.heap.size w w' := by
  have hP := fun W => pick_any b 13 W (by omega) (by omega)
  rw [hk] at hP
  have HP := hid hP
  have hb1 := below_new w (.cells #[.int .i64 a, .int .i64 b, .int .i64 c, .int .i64 d] tStep)
  have hb2 : Below w.heap.size w ((w.alloc (.cells #[.int .i64 a, .int .i64 b, .int .i64 c, .int .i64 d] tStep)).alloc (.cells #[.int .u64 0, .slice none 0 0, .slice none 0 0] tTold)) := hb1.alloc hb1.size _
  have HB := hid hb2
  have HR := hid (ask_row w (.cells #[.int .i64 a, .int .i64 b, .int .i64 c, .int .i64 d] tStep))
  have HZ : Hid (((w.alloc (.cells #[.int .i64 a, .int .i64 b, .int .i64 c, .int .i64 d] tStep)).alloc (.cells #[.int .u64 0, .slice none 0 0, .slice none 0 0] tTold)).heap.size = w.heap.size + 2) := by show _ = _; simp
  clear hP hb1 hb2
  go_enter Try.func14, Try.ntmps14
  go_wp2_with (go_at_call 12; refine (HP.out _).mono ?_; rintro e w2 ⟨rfl, hw2⟩; subst w2)
  refine (pBytes_nil _ c).mono ?_
  rintro e w3 ⟨rfl, h3⟩
  have hr3 := (h3.block (w.heap.size + 1) (by rw [HZ.out]; omega)).trans HR.out
  obtain ⟨k0, k1, k2, f0, f1, f2⟩ := told_cells hr3
  have H3 := hid h3
  have HR3 := hid hr3
  clear HR h3 hr3
  go_wp2_with fail
  refine bodyPost_ret (results_cell_row rfl _ _ (w.heap.size + 1) tTold _ (0, 0) _ rfl (told_row HR3.out _ _ _) Try.underlying39 rfl (by kernel_rfl)) rfl ?_
  exact ⟨rfl, nil_fin HB.out H3.out _ _ _⟩
set_option maxRecDepth 4000 in
set_option maxHeartbeats 2000000 in
theorem askN8 (w : World) (a b c d : Int) (hk : pickN b 13 = 8) : Calls Try.prog 14 #[.pointer none, stepV a b c d] w fun x w' => x = .returned (.agg #[.int .u64 0, .slice none 0 0, .slice none 0 0]) ∧ Below w.heap.size w w' := by
  have hP := fun W => pick_any b 13 W (by omega) (by omega)
  rw [hk] at hP
  have HP := hid hP
  have hb1 := below_new w (.cells #[.int .i64 a, .int .i64 b, .int .i64 c, .int .i64 d] tStep)
  have hb2 : Below w.heap.size w ((w.alloc (.cells #[.int .i64 a, .int .i64 b, .int .i64 c, .int .i64 d] tStep)).alloc (.cells #[.int .u64 0, .slice none 0 0, .slice none 0 0] tTold)) := hb1.alloc hb1.size _
  have HB := hid hb2
  have HR := hid (ask_row w (.cells #[.int .i64 a, .int .i64 b, .int .i64 c, .int .i64 d] tStep))
  have HZ : Hid (((w.alloc (.cells #[.int .i64 a, .int .i64 b, .int .i64 c, .int .i64 d] tStep)).alloc (.cells #[.int .u64 0, .slice none 0 0, .slice none 0 0] tTold)).heap.size = w.heap.size + 2) := by show _ = _; simp
  clear hP hb1 hb2
  go_enter Try.func14, Try.ntmps14
  go_wp2_with (go_at_call 12; refine (HP.out _).mono ?_; rintro e w2 ⟨rfl, hw2⟩; subst w2)
  refine (pBlock_nil _ c).mono ?_
  rintro e w3 ⟨rfl, h3⟩
  have hr3 := (h3.block (w.heap.size + 1) (by rw [HZ.out]; omega)).trans HR.out
  obtain ⟨k0, k1, k2, f0, f1, f2⟩ := told_cells hr3
  have H3 := hid h3
  have HR3 := hid hr3
  clear HR h3 hr3
  go_wp2_with fail
  refine bodyPost_ret (results_cell_row rfl _ _ (w.heap.size + 1) tTold _ (0, 0) _ rfl (told_row HR3.out _ _ _) Try.underlying39 rfl (by kernel_rfl)) rfl ?_
  exact ⟨rfl, nil_fin HB.out H3.out _ _ _⟩
set_option maxRecDepth 4000 in
set_option maxHeartbeats 2000000 in
theorem askN9 (w : World) (a b c d : Int) (hk : pickN b 13 = 9) : Calls Try.prog 14 #[.pointer none, stepV a b c d] w fun x w' => x = .returned (.agg #[.int .u64 0, .slice none 0 0, .slice none 0 0]) ∧ Below w.heap.size w w' := by
  have hP := fun W => pick_any b 13 W (by omega) (by omega)
  rw [hk] at hP
  have HP := hid hP
  have hb1 := below_new w (.cells #[.int .i64 a, .int .i64 b, .int .i64 c, .int .i64 d] tStep)
  have hb2 : Below w.heap.size w ((w.alloc (.cells #[.int .i64 a, .int .i64 b, .int .i64 c, .int .i64 d] tStep)).alloc (.cells #[.int .u64 0, .slice none 0 0, .slice none 0 0] tTold)) := hb1.alloc hb1.size _
  have HB := hid hb2
  have HR := hid (ask_row w (.cells #[.int .i64 a, .int .i64 b, .int .i64 c, .int .i64 d] tStep))
  have HZ : Hid (((w.alloc (.cells #[.int .i64 a, .int .i64 b, .int .i64 c, .int .i64 d] tStep)).alloc (.cells #[.int .u64 0, .slice none 0 0, .slice none 0 0] tTold)).heap.size = w.heap.size + 2) := by show _ = _; simp
  clear hP hb1 hb2
  go_enter Try.func14, Try.ntmps14
  go_wp2_with (go_at_call 12; refine (HP.out _).mono ?_; rintro e w2 ⟨rfl, hw2⟩; subst w2)
  refine (pTexts_nil _ c d).mono ?_
  rintro e w3 ⟨rfl, h3⟩
  have hr3 := (h3.block (w.heap.size + 1) (by rw [HZ.out]; omega)).trans HR.out
  obtain ⟨k0, k1, k2, f0, f1, f2⟩ := told_cells hr3
  have H3 := hid h3
  have HR3 := hid hr3
  clear HR h3 hr3
  go_wp2_with fail
  refine bodyPost_ret (results_cell_row rfl _ _ (w.heap.size + 1) tTold _ (0, 0) _ rfl (told_row HR3.out _ _ _) Try.underlying39 rfl (by kernel_rfl)) rfl ?_
  exact ⟨rfl, nil_fin HB.out H3.out _ _ _⟩
set_option maxRecDepth 4000 in
set_option maxHeartbeats 2000000 in
theorem askN10 (w : World) (a b c d : Int) (hk : pickN b 13 = 10) : Calls Try.prog 14 #[.pointer none, stepV a b c d] w fun x w' => x = .returned (.agg #[.int .u64 0, .slice none 0 0, .slice none 0 0]) ∧ Below w.heap.size w w' := by
  have hP := fun W => pick_any b 13 W (by omega) (by omega)
  rw [hk] at hP
  have HP := hid hP
  have hb1 := below_new w (.cells #[.int .i64 a, .int .i64 b, .int .i64 c, .int .i64 d] tStep)
  have hb2 : Below w.heap.size w ((w.alloc (.cells #[.int .i64 a, .int .i64 b, .int .i64 c, .int .i64 d] tStep)).alloc (.cells #[.int .u64 0, .slice none 0 0, .slice none 0 0] tTold)) := hb1.alloc hb1.size _
  have HB := hid hb2
  have HR := hid (ask_row w (.cells #[.int .i64 a, .int .i64 b, .int .i64 c, .int .i64 d] tStep))
  have HZ : Hid (((w.alloc (.cells #[.int .i64 a, .int .i64 b, .int .i64 c, .int .i64 d] tStep)).alloc (.cells #[.int .u64 0, .slice none 0 0, .slice none 0 0] tTold)).heap.size = w.heap.size + 2) := by show _ = _; simp
  clear hP hb1 hb2
  go_enter Try.func14, Try.ntmps14
  go_wp2_with (go_at_call 12; refine (HP.out _).mono ?_; rintro e w2 ⟨rfl, hw2⟩; subst w2)
  refine (pLeft_nil _).mono ?_
  rintro e w3 ⟨rfl, hw3⟩
  have h3 : Below ((w.alloc (.cells #[.int .i64 a, .int .i64 b, .int .i64 c, .int .i64 d] tStep)).alloc (.cells #[.int .u64 0, .slice none 0 0, .slice none 0 0] tTold)).heap.size ((w.alloc (.cells #[.int .i64 a, .int .i64 b, .int .i64 c, .int .i64 d] tStep)).alloc (.cells #[.int .u64 0, .slice none 0 0, .slice none 0 0] tTold)) w3 := by rw [hw3]; exact Below.refl _ _
  clear hw3
  have hr3 := (h3.block (w.heap.size + 1) (by rw [HZ.out]; omega)).trans HR.out
  obtain ⟨k0, k1, k2, f0, f1, f2⟩ := told_cells hr3
  have H3 := hid h3
  have HR3 := hid hr3
  clear HR h3 hr3
  go_wp2_with fail
  refine bodyPost_ret (results_cell_row rfl _ _ (w.heap.size + 1) tTold _ (0, 0) _ rfl (told_row HR3.out _ _ _) Try.underlying39 rfl (by kernel_rfl)) rfl ?_
  exact ⟨rfl, nil_fin HB.out H3.out _ _ _⟩
set_option maxRecDepth 4000 in
set_option maxHeartbeats 2000000 in
theorem askN11 (w : World) (a b c d : Int) (hk : pickN b 13 = 11) : Calls Try.prog 14 #[.pointer none, stepV a b c d] w fun x w' => x = .returned (.agg #[.int .u64 1, .slice none 0 0, .slice none 0 0]) ∧ Below w.heap.size w w' := by
  have hP := fun W => pick_any b 13 W (by omega) (by omega)
  rw [hk] at hP
  have HP := hid hP
  have hb1 := below_new w (.cells #[.int .i64 a, .int .i64 b, .int .i64 c, .int .i64 d] tStep)
  have hb2 : Below w.heap.size w ((w.alloc (.cells #[.int .i64 a, .int .i64 b, .int .i64 c, .int .i64 d] tStep)).alloc (.cells #[.int .u64 0, .slice none 0 0, .slice none 0 0] tTold)) := hb1.alloc hb1.size _
  have HB := hid hb2
  have HR := hid (ask_row w (.cells #[.int .i64 a, .int .i64 b, .int .i64 c, .int .i64 d] tStep))
  have HZ : Hid (((w.alloc (.cells #[.int .i64 a, .int .i64 b, .int .i64 c, .int .i64 d] tStep)).alloc (.cells #[.int .u64 0, .slice none 0 0, .slice none 0 0] tTold)).heap.size = w.heap.size + 2) := by show _ = _; simp
  clear hP hb1 hb2
  go_enter Try.func14, Try.ntmps14
  go_wp2_with (go_at_call 12; refine (HP.out _).mono ?_; rintro e w2 ⟨rfl, hw2⟩; subst w2)
  refine (pFault_nil _).mono ?_
  rintro e w3 ⟨rfl, hw3⟩
  have h3 : Below ((w.alloc (.cells #[.int .i64 a, .int .i64 b, .int .i64 c, .int .i64 d] tStep)).alloc (.cells #[.int .u64 0, .slice none 0 0, .slice none 0 0] tTold)).heap.size ((w.alloc (.cells #[.int .i64 a, .int .i64 b, .int .i64 c, .int .i64 d] tStep)).alloc (.cells #[.int .u64 0, .slice none 0 0, .slice none 0 0] tTold)) w3 := by rw [hw3]; exact Below.refl _ _
  clear hw3
  have hr3 := (h3.block (w.heap.size + 1) (by rw [HZ.out]; omega)).trans HR.out
  obtain ⟨k0, k1, k2, f0, f1, f2⟩ := told_cells hr3
  have H3 := hid h3
  have HR3 := hid hr3
  clear HR h3 hr3
  go_wp2_with fail
  refine bodyPost_ret (results_cell_row rfl _ _ (w.heap.size + 1) tTold _ (0, 0) _ rfl (told_row HR3.out _ _ _) Try.underlying39 rfl (by kernel_rfl)) rfl ?_
  exact ⟨rfl, nil_fin HB.out H3.out _ _ _⟩
set_option maxRecDepth 4000 in
set_option maxHeartbeats 2000000 in
theorem askN12 (w : World) (a b c d : Int) (hk : pickN b 13 = 12) : Calls Try.prog 14 #[.pointer none, stepV a b c d] w fun x w' => x = .returned (.agg #[.int .u64 1, .slice none 0 0, .slice none 0 0]) ∧ Below w.heap.size w w' := by
  have hP := fun W => pick_any b 13 W (by omega) (by omega)
  rw [hk] at hP
  have HP := hid hP
  have hb1 := below_new w (.cells #[.int .i64 a, .int .i64 b, .int .i64 c, .int .i64 d] tStep)
  have hb2 : Below w.heap.size w ((w.alloc (.cells #[.int .i64 a, .int .i64 b, .int .i64 c, .int .i64 d] tStep)).alloc (.cells #[.int .u64 0, .slice none 0 0, .slice none 0 0] tTold)) := hb1.alloc hb1.size _
  have HB := hid hb2
  have HR := hid (ask_row w (.cells #[.int .i64 a, .int .i64 b, .int .i64 c, .int .i64 d] tStep))
  have HZ : Hid (((w.alloc (.cells #[.int .i64 a, .int .i64 b, .int .i64 c, .int .i64 d] tStep)).alloc (.cells #[.int .u64 0, .slice none 0 0, .slice none 0 0] tTold)).heap.size = w.heap.size + 2) := by show _ = _; simp
  clear hP hb1 hb2
  go_enter Try.func14, Try.ntmps14
  go_wp2_with (go_at_call 12; refine (HP.out _).mono ?_; rintro e w2 ⟨rfl, hw2⟩; subst w2)
  refine (pEnd_nil _).mono ?_
  rintro e w3 ⟨rfl, hw3⟩
  have h3 : Below ((w.alloc (.cells #[.int .i64 a, .int .i64 b, .int .i64 c, .int .i64 d] tStep)).alloc (.cells #[.int .u64 0, .slice none 0 0, .slice none 0 0] tTold)).heap.size ((w.alloc (.cells #[.int .i64 a, .int .i64 b, .int .i64 c, .int .i64 d] tStep)).alloc (.cells #[.int .u64 0, .slice none 0 0, .slice none 0 0] tTold)) w3 := by rw [hw3]; exact Below.refl _ _
  clear hw3
  have hr3 := (h3.block (w.heap.size + 1) (by rw [HZ.out]; omega)).trans HR.out
  obtain ⟨k0, k1, k2, f0, f1, f2⟩ := told_cells hr3
  have H3 := hid h3
  have HR3 := hid hr3
  clear HR h3 hr3
  go_wp2_with fail
  refine bodyPost_ret (results_cell_row rfl _ _ (w.heap.size + 1) tTold _ (0, 0) _ rfl (told_row HR3.out _ _ _) Try.underlying39 rfl (by kernel_rfl)) rfl ?_
  exact ⟨rfl, nil_fin HB.out H3.out _ _ _⟩
theorem askN_any (w : World) (a b c d : Int) : Calls Try.prog 14 #[.pointer none, stepV a b c d] w fun x w' => x = .returned (.agg #[.int .u64 (nilM (pickN b 13) : Nat), .slice none 0 0, .slice none 0 0]) ∧ Below w.heap.size w w' := by
  have hk := pickN_lt b (n := 13) (by omega)
  generalize hp : pickN b 13 = k at hk ⊢
  match k, hk with
  | 0, _ => exact askN0 w a b c d hp
  | 1, _ => exact askN1 w a b c d hp
  | 2, _ => exact askN2 w a b c d hp
  | 3, _ => exact askN3 w a b c d hp
  | 4, _ => exact askN4 w a b c d hp
  | 5, _ => exact askN5 w a b c d hp
  | 6, _ => exact askN6 w a b c d hp
  | 7, _ => exact askN7 w a b c d hp
  | 8, _ => exact askN8 w a b c d hp
  | 9, _ => exact askN9 w a b c d hp
  | 10, _ => exact askN10 w a b c d hp
  | 11, _ => exact askN11 w a b c d hp
  | 12, _ => exact askN12 w a b c d hp
set_option maxRecDepth 4000 in
set_option maxHeartbeats 2000000 in
theorem none_any (w : World) (a b c d : Int) : Calls Try.prog 15 #[stepV a b c d] w fun x w' => x = .returned (.agg #[.int .u64 (nilM (pickN b 13) : Nat), .slice none 0 0, .slice none 0 0]) ∧ Below w.heap.size w w' := by
  have hP := fun W => pick_any b 13 W (by omega) (by omega)
  have hk := pickN_lt b (n := 13) (by omega)
  generalize pickN b 13 = k at *
  have HP := hid hP
  have hb1 := below_new w (.cells #[.int .i64 a, .int .i64 b, .int .i64 c, .int .i64 d] tStep)
  have hb2 : Below w.heap.size w ((w.alloc (.cells #[.int .i64 a, .int .i64 b, .int .i64 c, .int .i64 d] tStep)).alloc (.cells #[.int .u64 0, .slice none 0 0, .slice none 0 0] tTold)) := hb1.alloc hb1.size _
  have HB := hid hb2
  have hr3 := ask_row w (.cells #[.int .i64 a, .int .i64 b, .int .i64 c, .int .i64 d] tStep)
  obtain ⟨k0, k1, k2, f0, f1, f2⟩ := told_cells hr3
  have HR3 := hid hr3
  clear hP hb1 hb2 hr3
  by_cases hc : k ≤ 10
  · have hc' : ¬ (10 : Int) < (k : Int) := by omega
    rw [show nilM k = 0 from if_pos hc]
    go_enter Try.func15, Try.ntmps15
    go_wp2_with (go_at_call 12; refine (HP.out _).mono ?_; rintro e w2 ⟨rfl, hw2⟩; subst w2)
    refine bodyPost_ret (results_cell_row rfl _ _ (w.heap.size + 1) tTold _ (0, 0) _ rfl (by first | exact row2 _ _ _ | exact told_row HR3.out _ _ _) Try.underlying39 rfl (by kernel_rfl)) rfl ?_
    first | exact ⟨rfl, below2 _ _ _⟩ | exact ⟨rfl, nil_fin HB.out (Below.refl _ _) _ _ _⟩
  · have hc' : (10 : Int) < (k : Int) := by omega
    rw [show nilM k = 1 from if_neg hc]
    go_enter Try.func15, Try.ntmps15
    go_wp2_with (go_at_call 12; refine (HP.out _).mono ?_; rintro e w2 ⟨rfl, hw2⟩; subst w2)
    refine bodyPost_ret (results_cell_row rfl _ _ (w.heap.size + 1) tTold _ (0, 0) _ rfl (by first | exact row2 _ _ _ | exact told_row HR3.out _ _ _) Try.underlying39 rfl (by kernel_rfl)) rfl ?_
    first | exact ⟨rfl, below2 _ _ _⟩ | exact ⟨rfl, nil_fin HB.out (Below.refl _ _) _ _ _⟩
end Go.Proofs.Ytefjhiodeaohcaa
