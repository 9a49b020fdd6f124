/-
  At, and the document's.
-/
import Derived.Test.YtlhaahpgkkfhhaaKRefWord
namespace Go.Proofs.Ytlhaahpgkkfhhaa.Pk
open Go.RowKit

/-- Does lane i lie wholly within n bytes? -/
def atIs (n : Nat) (width i : Int) : Bool := isWidth width && decide (0 ≤ i) && (decide (width = 0) || decide (i < 8 * (n : Int) / width))
def atV (B : Nat → Nat) (n : Nat) (width i : Int) : Nat := if atIs n width i = true then laneOf (bitB B) width.toNat i.toNat else 0

theorem atIs_no1 {n : Nat} {width i : Int} (h : isWidth width = false) : atIs n width i = false := by unfold atIs; simp [h]
theorem atIs_no2 {n : Nat} {width i : Int} (h : i < 0) : atIs n width i = false := by unfold atIs; simp [show ¬ 0 ≤ i by omega]
theorem atIs_zero {n : Nat} {i : Int} (h : 0 ≤ i) : atIs n 0 i = true := by unfold atIs; simp [h, isWidth]
theorem atIs_in {n k i : Nat} (hk : k ≤ 64) : atIs n (k : Int) (i : Int) = (decide (k = 0) || decide (i < 8 * n / k)) := by
  unfold atIs
  rw [isWidth_nat k hk]
  have e : (8 * (n : Int) / (k : Int)) = ((8 * n / k : Nat) : Int) := by simp
  rw [e]
  simp
  by_cases h : k = 0 <;> simp [h]
  omega
theorem in_mul {n k i : Nat} (h : i < 8 * n / k) : i * k < 8 * n := by
  have hk : 0 < k := by
    rcases Nat.eq_zero_or_pos k with rfl | h0
    · simp at h
    · exact h0
  have := (Nat.lt_div_iff_mul_lt hk).1 h
  omega

end Go.Proofs.Ytlhaahpgkkfhhaa.Pk
