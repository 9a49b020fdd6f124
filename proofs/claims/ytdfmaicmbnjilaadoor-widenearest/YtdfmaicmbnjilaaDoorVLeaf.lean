/-
  THE LEAVES: floats looked at.
-/
import Derived.Test.YtdfmaicmbnjilaaDoorRows
import Derived.Test.YtdfmaicmbnjilaaDoorVFlt
import Derived.WalkKit
import Derived.WalkSpells
import Derived.WalkLawsBesides
import Derived.Deep.QuietTactic
import Derived.Deep.RegionHeld3
import Derived.BigQuiet
import Derived.Below
import Derived.WalkSmall
import Derived.Laws.BitsAllLaws
namespace Go.Proofs.YtdfmaicmbnjilaaDoor.Vl
open Go.RowKit

theorem ret_bool {a b : Bool} (h : a = b) : Ending.returned (.bool a) = .returned (.bool b) := by rw [h]
theorem fmt64 : FloatKind.f64.format = Ieee.double := rfl

/-- A float's bits. -/
theorem run_bits (b : Nat) (w : World) : (callFunc 12 #[.float .f64 b]).run Tryd.prog w = .ok (.value (.int .u64 (b : Int))) w := by
  rw [run_callFunc_extern Tryd.func12 (by kernel_rfl) (by kernel_rfl) (by kernel_rfl) (show _ = some Extern.MathFloatBits.float64bits by kernel_rfl)]
  rfl
theorem run_from (n : Nat) (w : World) : (callFunc 14 #[.int .u64 (n : Int)]).run Tryd.prog w = .ok (.value (.float .f64 n)) w := by
  rw [run_callFunc_extern Tryd.func14 (by kernel_rfl) (by kernel_rfl) (by kernel_rfl) (show _ = some Extern.MathFloatBits.float64frombits by kernel_rfl)]
  rfl

theorem clear_sign (b : Nat) (hb : b < 18446744073709551616) : bits .andNot .u64 (b : Int) 9223372036854775808 = ((b % 9223372036854775808 : Nat) : Int) := by
  have h := u64_andNot_nat b 9223372036854775808 hb (by omega)
  have h2 := Nat.and_two_pow_sub_one_eq_mod b 63
  rw [show (2 : Nat) ^ 63 = 9223372036854775808 from rfl] at h2
  rw [show (18446744073709551615 - 9223372036854775808 : Nat) = 9223372036854775808 - 1 from rfl, h2] at h
  exact h

set_option maxHeartbeats 400000 in
theorem abs_any (b : Nat) (w : World) (hb : b < 18446744073709551616) : Calls Tryd.prog 11 #[.float .f64 b] w fun e w' => e = .returned (.float .f64 (b % 9223372036854775808)) ∧ w' = w := by
  have h1 := run_bits b
  have h3 := clear_sign b hb
  generalize b % 9223372036854775808 = r at *
  have h2 := run_from r
  go_enter Tryd.func11, Tryd.ntmps11
  go_wp2_with fail
  go_ret
  exact ⟨rfl, rfl⟩
set_option maxHeartbeats 400000 in
theorem nan_any (b : Nat) (w : World) : Calls Tryd.prog 70 #[.float .f64 b] w fun e w' => e = .returned (.bool (decide (9218868437227405312 < b % 9223372036854775808))) ∧ w' = w := by
  rw [← ne_self b]
  go_enter Tryd.func70, Tryd.ntmps70
  go_wp2_with fail
  go_ret
  exact ⟨rfl, rfl⟩
set_option maxHeartbeats 400000 in
theorem inf_any (b : Nat) (w : World) (hb : b < 18446744073709551616) : Calls Tryd.prog 69 #[.float .f64 b, .int .i64 0] w fun e w' => e = .returned (.bool (decide (b % 9223372036854775808 = 9218868437227405312))) ∧ w' = w := by
  rw [← gt_max (b % 9223372036854775808) (by omega)]
  go_enter Tryd.func69, Tryd.ntmps69
  go_wp2_with (go_at_call 11; refine (abs_any b _ hb).mono ?_; rintro e w' ⟨rfl, rfl⟩)
  go_ret
  exact ⟨rfl, rfl⟩
theorem wrap_sign (b : Nat) (hb : b < 18446744073709551616) : decide (wrap64 (b : Int) < 0) = decide (9223372036854775808 ≤ b) := by
  unfold wrap64
  by_cases h : 9223372036854775808 ≤ b
  · rw [decide_eq_true h, decide_eq_true (by omega)]
  · rw [decide_eq_false h, decide_eq_false (by omega)]
/-- A float that a Real may have. -/
def realB (b : Nat) : Bool := decide (b % 9223372036854775808 < 9218868437227405312 ∧ (b % 9223372036854775808 ≠ 0 ∨ b = 0))
end Go.Proofs.YtdfmaicmbnjilaaDoor.Vl
