/-
  The small ones: Lift, Drop, the ends of numbers, the widths.
-/
import Derived.Test.YtlhaahpgkkfhhaaFMath
import Derived.Test.YtlhaahpgkkfhhaaRMem
import Derived.Test.YtlhaahpgkkfhhaaKLen
import Derived.Lib.MinMax
namespace Go.Proofs.Ytlhaahpgkkfhhaa
open Go.ChangeShapes Go.WideShapes Go.ChangeAt Go.RowKit Fr

/-- Whole numbers in memory. -/
abbrev Ints (w : World) (a : Option Addr) (l : List Int) : Prop := Lst (one (Value.int .i64)) 1 w a l
def lift (b : Int) (c : Nat) : Int := if b + c ≤ 9223372036854775807 then b + c else b + c - 18446744073709551616

set_option maxHeartbeats 400000 in
theorem lift_any (b : Int) (c : Nat) (w : World) (hb : In b) (hc : c < 18446744073709551616) : Calls Try.prog 6 #[.int .i64 b, .int .u64 (c : Int)] w fun e w' => e = .returned (.int .i64 (lift b c)) ∧ w' = w := by
  have HB := hid hb
  clear hb
  go_enter Try.func6, Try.ntmps6
  go_wp2
  go_ret
  refine ⟨ret_int ?_, rfl⟩
  have hb := HB.out
  unfold lift In at *
  simp only [wrap64, IntKind.wrap_u64]
  split <;> omega
theorem drop_wrap {b v : Int} (hb : In b) (hv : In v) (h : b ≤ v) : IntKind.u64.wrap (IntKind.u64.wrap v - IntKind.u64.wrap b) = (cd b v : Int) := by
  unfold cd In at *
  simp only [IntKind.wrap_u64]
  omega
set_option maxHeartbeats 400000 in
theorem drop_yes (b v : Int) (w : World) (hb : In b) (hv : In v) (h : b ≤ v) : Calls Try.prog 5 #[.int .i64 b, .int .i64 v] w fun e w' => e = .returned (.tuple #[.int .u64 (cd b v : Int), .bool true]) ∧ w' = w := by
  have hd : decide (v < b) = false := by simp; omega
  rw [← drop_wrap hb hv h]
  have HB := hid hb
  have HV := hid hv
  clear hb hv h
  go_enter Try.func5, Try.ntmps5
  go_wp2
  go_ret2
  exact ⟨rfl, rfl⟩
set_option maxHeartbeats 400000 in
theorem drop_no (b v : Int) (w : World) (h : v < b) : Calls Try.prog 5 #[.int .i64 b, .int .i64 v] w fun e w' => e = .returned (.tuple #[.int .u64 0, .bool false]) ∧ w' = w := by
  have hd : decide (v < b) = true := by simp; omega
  clear h
  go_enter Try.func5, Try.ntmps5
  go_wp2
  go_ret2
  exact ⟨rfl, rfl⟩
/-- The greatest code over a base that still has a number. -/
def most (b : Int) : Nat := cd b 9223372036854775807

end Go.Proofs.Ytlhaahpgkkfhhaa
