/-
  alike: == of two values, behind a recover that finds nothing.
-/
import Derived.Test.YtmpogcneilaeaaaRMem
import Derived.Defers
import Derived.Recover
namespace Go.Proofs.Ytmpogcneilaeaaa
open Go.RowKit

set_option maxRecDepth 4000 in
theorem alike_idleStr (w : World) :
    CallsD Try.prog 93 #[] .returning w fun e u' w' => e = .returned (.tuple #[]) ∧ u' = .returning ∧ w' = w := by
  refine callsD_of_wpS Try.func93 rfl fun c₀ cs hu => ?_
  apply wpS_region
  simp [wpOpsS, go_sem, recoverD, hu, Try.ntmps93]
  cases c₀
  simp_all [bodyPostS, results, Try.results93]
set_option maxRecDepth 4000 in
set_option maxHeartbeats 1000000 in
theorem alikeStr (x y : ByteArray) (w : World) :
    Calls Try.prog 70 #[Value.string x, Value.string y] w fun e w' => e = .returned (.bool (decide (x = y))) ∧ w' = w := by
  go_enter_defers Try.func70, Try.ntmps70
  go_wp2_with fail
  refine leaves_cons (f := 93) (args := #[]) (by simp) (by simp [go_sem]) ?_
  refine (alike_idleStr w).mono ?_
  rintro e u' w4 ⟨rfl, rfl, rfl⟩
  refine ⟨_, results_tmp rfl _ _ _, ?_, rfl⟩
  rw [← str_beqR x y]
  rfl
end Go.Proofs.Ytmpogcneilaeaaa
