/-
  alike: == of two values, behind a recover that finds nothing.
-/
import Derived.Test.YtokcmioipdennaaRMem
import Derived.Defers
import Derived.Recover
namespace Go.Proofs.Ytokcmioipdennaa
open Go.RowKit

set_option maxRecDepth 4000 in
theorem alike_idleInt (w : World) :
    CallsD Try.prog 72 #[] .returning w fun e u' w' => e = .returned (.tuple #[]) ∧ u' = .returning ∧ w' = w := by
  refine callsD_of_wpS Try.func72 rfl fun c₀ cs hu => ?_
  apply wpS_region
  simp [wpOpsS, go_sem, recoverD, hu, Try.ntmps72]
  cases c₀
  simp_all [bodyPostS, results, Try.results72]
set_option maxRecDepth 4000 in
set_option maxHeartbeats 1000000 in
theorem alikeInt (x y : Int) (w : World) :
    Calls Try.prog 59 #[(Value.int .i64) x, (Value.int .i64) y] w fun e w' => e = .returned (.bool (decide (x = y))) ∧ w' = w := by
  go_enter_defers Try.func59, Try.ntmps59
  go_wp2_with fail
  refine leaves_cons (f := 72) (args := #[]) (by simp) (by simp [go_sem]) ?_
  refine (alike_idleInt w).mono ?_
  rintro e u' w4 ⟨rfl, rfl, rfl⟩
  exact ⟨_, results_tmp rfl _ _ _, rfl, rfl⟩
end Go.Proofs.Ytokcmioipdennaa
