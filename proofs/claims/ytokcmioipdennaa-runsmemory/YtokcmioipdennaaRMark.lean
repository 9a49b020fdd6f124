/-
  The law's marks.
-/
import Derived.Test.YtokcmioipdennaaRApart
namespace Go.Proofs.Ytokcmioipdennaa
open Go.ChangeShapes Go.WideShapes Go.ChangeAt Go.RowKit

theorem markByte_any (i : Nat) (hi : i < 20) (w : World) : Calls Try.prog 26 #[.int .i64 (i : Int)] w fun e w' => e = .returned (.int .u8 (10 + (i : Int))) ∧ Below w.heap.size w w' := by
  go_enter Try.func26, Try.ntmps26
  go_wp2_with fail
  go_ret
  exact ⟨by first | rfl | (congr 3; omega), by first | exact Below.refl _ _ | exact below_drewN (Below.refl _ w) 1 | (trace_state; sorry)⟩
theorem moreByte_any (i : Nat) (hi : i < 20) (w : World) : Calls Try.prog 27 #[.int .i64 (i : Int)] w fun e w' => e = .returned (.int .u8 (100 + (i : Int))) ∧ Below w.heap.size w w' := by
  go_enter Try.func27, Try.ntmps27
  go_wp2_with fail
  go_ret
  exact ⟨by first | rfl | (congr 3; omega), by first | exact Below.refl _ _ | exact below_drewN (Below.refl _ w) 1 | (trace_state; sorry)⟩
theorem markInt_any (i : Nat) (hi : i < 20) (w : World) : Calls Try.prog 29 #[.int .i64 (i : Int)] w fun e w' => e = .returned (.int .i64 (-1000 - (i : Int))) ∧ Below w.heap.size w w' := by
  go_enter Try.func29, Try.ntmps29
  go_wp2_with fail
  go_ret
  exact ⟨by first | rfl | (congr 3; omega), by first | exact Below.refl _ _ | exact below_drewN (Below.refl _ w) 1 | (trace_state; sorry)⟩
theorem moreInt_any (i : Nat) (hi : i < 20) (w : World) : Calls Try.prog 30 #[.int .i64 (i : Int)] w fun e w' => e = .returned (.int .i64 (-5000 - (i : Int))) ∧ Below w.heap.size w w' := by
  go_enter Try.func30, Try.ntmps30
  go_wp2_with fail
  go_ret
  exact ⟨by first | rfl | (congr 3; omega), by first | exact Below.refl _ _ | exact below_drewN (Below.refl _ w) 1 | (trace_state; sorry)⟩
theorem markRun_any (i : Nat) (hi : i < 20) (w : World) : Calls Try.prog 32 #[.int .i64 (i : Int)] w fun e w' => e = .returned (.agg #[.int .i64 (-1000 - (i : Int)), .int .i64 (-(i : Int))]) ∧ Below w.heap.size w w' := by
  go_enter Try.func32, Try.ntmps32
  go_wp2_with fail
  refine bodyPost_ret (v := .agg #[.int .i64 (-1000 - (i : Int)), .int .i64 (-(i : Int))]) (by simp [results, Try.results32, go_sem]) rfl ⟨rfl, (Below.refl _ w).alloc (Nat.le_refl _) _⟩
theorem moreRun_any (i : Nat) (hi : i < 20) (w : World) : Calls Try.prog 33 #[.int .i64 (i : Int)] w fun e w' => e = .returned (.agg #[.int .i64 (-5000 - (i : Int)), .int .i64 (-(i : Int))]) ∧ Below w.heap.size w w' := by
  go_enter Try.func33, Try.ntmps33
  go_wp2_with fail
  refine bodyPost_ret (v := .agg #[.int .i64 (-5000 - (i : Int)), .int .i64 (-(i : Int))]) (by simp [results, Try.results33, go_sem]) rfl ⟨rfl, (Below.refl _ w).alloc (Nat.le_refl _) _⟩
theorem markText_any (i : Nat) (hi : i < 20) (w : World) : Calls Try.prog 22 #[.int .i64 (i : Int)] w fun e w' => e = .returned (.agg #[.string { data := #[109, 97, 114, 107] }, .int .i64 (-1000 - (i : Int))]) ∧ Below w.heap.size w w' := by
  go_enter Try.func22, Try.ntmps22
  go_wp2_with fail
  refine bodyPost_ret (v := .agg #[.string { data := #[109, 97, 114, 107] }, .int .i64 (-1000 - (i : Int))]) (by simp [results, Try.results22, go_sem]) rfl ⟨rfl, (Below.refl _ w).alloc (Nat.le_refl _) _⟩
theorem moreText_any (i : Nat) (hi : i < 20) (w : World) : Calls Try.prog 23 #[.int .i64 (i : Int)] w fun e w' => e = .returned (.agg #[.string { data := #[109, 111, 114, 101] }, .int .i64 (-5000 - (i : Int))]) ∧ Below w.heap.size w w' := by
  go_enter Try.func23, Try.ntmps23
  go_wp2_with fail
  refine bodyPost_ret (v := .agg #[.string { data := #[109, 111, 114, 101] }, .int .i64 (-5000 - (i : Int))]) (by simp [results, Try.results23, go_sem]) rfl ⟨rfl, (Below.refl _ w).alloc (Nat.le_refl _) _⟩
end Go.Proofs.Ytokcmioipdennaa
