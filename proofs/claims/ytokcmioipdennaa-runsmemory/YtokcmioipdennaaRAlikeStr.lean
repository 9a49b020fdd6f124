/-
  alike: == of two values, behind a recover that finds nothing.
-/
import Derived.Test.YtokcmioipdennaaRMem
import Derived.Defers
import Derived.Recover
namespace Go.Proofs.Ytokcmioipdennaa
open Go.RowKit

set_option maxRecDepth 4000 in
theorem alike_idleStr (w : World) :
    CallsD Try.prog 70 #[] .returning w fun e u' w' => e = .returned (.tuple #[]) ∧ u' = .returning ∧ w' = w := by
  refine callsD_of_wpS Try.func70 rfl fun c₀ cs hu => ?_
  apply wpS_region
  simp [wpOpsS, go_sem, recoverD, hu, Try.ntmps70]
  cases c₀
  simp_all [bodyPostS, results, Try.results70]
set_option maxRecDepth 4000 in
set_option maxHeartbeats 1000000 in
theorem alikeStr (x y : ByteArray) (w : World) :
    Calls Try.prog 50 #[Value.string x, Value.string y] w fun e w' => e = .returned (.bool (decide (x = y))) ∧ w' = w := by
  go_enter_defers Try.func50, Try.ntmps50
  go_wp2_with fail
  refine leaves_cons (f := 70) (args := #[]) (by simp) (by simp [go_sem]) ?_
  refine (alike_idleStr w).mono ?_
  rintro e u' w4 ⟨rfl, rfl, rfl⟩
  refine ⟨_, results_tmp rfl _ _ _, ?_, rfl⟩
  rw [← str_beqR x y]
  rfl
end Go.Proofs.Ytokcmioipdennaa
