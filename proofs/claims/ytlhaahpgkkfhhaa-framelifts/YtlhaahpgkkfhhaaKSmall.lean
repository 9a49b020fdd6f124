/-
  THE SMALL ONES: num, Bytes, widths, what fits.
-/
import Derived.Test.YtlhaahpgkkfhhaaRows
import Derived.Test.YtlhaahpgkkfhhaaKMath
import Derived.Lib.Walk
import Derived.WalkKit
import Derived.WalkSpells
import Derived.WalkLawsBesides
import Derived.Deep.QuietTactic
import Derived.BigQuiet
import Derived.BigRegion
namespace Go.Proofs.Ytlhaahpgkkfhhaa.Pk
open Go.RowKit

theorem ret_int {k : IntKind} {a b : Int} (h : a = b) : Ending.returned (.int k a) = .returned (.int k b) := by rw [h]
theorem ret_bool {a b : Bool} (h : a = b) : Ending.returned (.bool a) = .returned (.bool b) := by rw [h]
theorem u64_left (n : Int) (h0 : 0 ≤ n) (h1 : n < 18446744073709551616) : IntKind.u64.wrap n = n := by rw [IntKind.wrap_u64]; omega
theorem i64_left (n : Int) (h0 : -9223372036854775808 ≤ n) (h1 : n ≤ 9223372036854775807) : IntKind.i64.wrap n = n := by rw [IntKind.wrap_i64]; omega

def isWidth (n : Int) : Bool := decide (0 ≤ n) && decide (n ≤ 64)
theorem isWidth_yes {n : Int} (h : isWidth n = true) : ∃ k : Nat, n = (k : Int) ∧ k ≤ 64 := by
  simp [isWidth] at h; exact ⟨n.toNat, by omega, by omega⟩
theorem isWidth_nat (k : Nat) (h : k ≤ 64) : isWidth (k : Int) = true := by simp [isWidth]; omega

/-- What Bytes answers: the number, and the error's. -/
def byteN (n width : Int) : Int := if 0 ≤ n ∧ n ≤ 16777216 ∧ isWidth width = true then (n * width + 7) / 8 else 0
def byteE (n width : Int) : Int := if n < 0 then 2 else if 16777216 < n then 3 else if isWidth width = true then 0 else 20
theorem mul_small {n k : Nat} (h1 : n ≤ 16777216) (h2 : k ≤ 64) : n * k ≤ 1073741824 := by
  have := Nat.mul_le_mul h1 h2; omega

/-! ### Fits, Len64, Width -/
theorem pow_cast (k : Nat) : (2 : Int) ^ k = ((2 ^ k : Nat) : Int) := by simp
theorem shr_zero {x k : Nat} : (((x : Int) / (2 : Int) ^ k) == 0) = decide (x < 2 ^ k) := by
  have h := Nat.two_pow_pos k
  have e : (x : Int) / (2 : Int) ^ k = ((x / 2 ^ k : Nat) : Int) := by rw [pow_cast]; rfl
  rw [e, Bool.eq_iff_iff]
  simp only [beq_iff_eq, decide_eq_true_eq]
  rw [show ((x / 2 ^ k : Nat) : Int) = 0 ↔ x / 2 ^ k = 0 by omega, Nat.div_eq_zero_iff]
  omega
end Go.Proofs.Ytlhaahpgkkfhhaa.Pk
