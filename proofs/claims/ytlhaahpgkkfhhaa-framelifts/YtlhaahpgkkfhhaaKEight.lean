/-
  eight: the first eight bytes as a word.
-/
import Derived.Test.YtlhaahpgkkfhhaaKArgs
import Derived.Below
import Derived.Deep.DrawnRows
namespace Go.Proofs.Ytlhaahpgkkfhhaa.Pk
open Go.RowKit

theorem acc_step {B : Nat → Nat} (hB : ∀ j, B j < 256) (k : Nat) : wordOf (bitB B) (8 * k) ||| B k * 2 ^ (8 * k) = wordOf (bitB B) (8 * (k + 1)) := by
  have hb : B k * 2 ^ (8 * k) < 2 ^ (8 * (k + 1)) := by
    rw [show 8 * (k + 1) = 8 + 8 * k by omega, Nat.pow_add]
    exact Nat.mul_lt_mul_of_pos_right (hB k) (Nat.two_pow_pos _)
  refine wordOf_ext (Nat.or_lt_two_pow (Nat.lt_trans (wordOf_lt _ _) (Nat.pow_lt_pow_right (by omega) (by omega))) hb) fun i hi => ?_
  rw [Nat.testBit_or, wordOf_bit, shl_bit]
  by_cases h : i < 8 * k
  · simp [h, show ¬ 8 * k ≤ i by omega]
  · have e1 : i / 8 = k := by omega
    have e2 : i % 8 = i - 8 * k := by omega
    simp [h, show 8 * k ≤ i by omega, bitB, e1, e2]
theorem acc_int {B : Nat → Nat} (hB : ∀ j, B j < 256) (k : Nat) (hk : k < 8) (z : Int) (hz : z = ((2 ^ (8 * k) : Nat) : Int)) :
    bits BinOp.or IntKind.u64 (wordOf (bitB B) (8 * k) : Int) ((B k : Int) * z) = (wordOf (bitB B) (8 * (k + 1)) : Int) := by
  have h1 : wordOf (bitB B) (8 * k) < 18446744073709551616 := Nat.lt_of_lt_of_le (wordOf_lt _ _) (Nat.pow_le_pow_right (n := 2) (by omega) (show 8 * k ≤ 64 by omega))
  have h2 : B k * 2 ^ (8 * k) < 18446744073709551616 := by
    have hb : B k * 2 ^ (8 * k) < 2 ^ (8 * (k + 1)) := by
      rw [show 8 * (k + 1) = 8 + 8 * k by omega, Nat.pow_add]
      exact Nat.mul_lt_mul_of_pos_right (hB k) (Nat.two_pow_pos _)
    exact Nat.lt_of_lt_of_le hb (Nat.pow_le_pow_right (n := 2) (by omega) (show 8 * (k + 1) ≤ 64 by omega))
  rw [hz, ← Int.natCast_mul, u64_or_nat _ _ h1 h2, acc_step hB]
theorem acc_one {B : Nat → Nat} (hB : ∀ j, B j < 256) : (B 0 : Int) = (wordOf (bitB B) (8 * 1) : Int) := by
  have h := acc_step hB 0
  have e : wordOf (bitB B) (8 * 0) ||| B 0 * 2 ^ (8 * 0) = B 0 := by rw [show wordOf (bitB B) (8 * 0) = 0 from rfl]; simp
  rw [e] at h
  exact congrArg (fun x : Nat => (x : Int)) h
theorem acc_wrap {B : Nat → Nat} (hB : ∀ j, B j < 256) (k : Nat) (hk : k < 8) :
    bits BinOp.or IntKind.u64 (wordOf (bitB B) (8 * k) : Int) (IntKind.u64.wrap ((B k : Int) * 2 ^ (8 * k))) = (wordOf (bitB B) (8 * (k + 1)) : Int) := by
  have hb : B k * 2 ^ (8 * k) < 18446744073709551616 := by
    have hb : B k * 2 ^ (8 * k) < 2 ^ (8 * (k + 1)) := by
      rw [show 8 * (k + 1) = 8 + 8 * k by omega, Nat.pow_add]
      exact Nat.mul_lt_mul_of_pos_right (hB k) (Nat.two_pow_pos _)
    exact Nat.lt_of_lt_of_le hb (Nat.pow_le_pow_right (n := 2) (by omega) (show 8 * (k + 1) ≤ 64 by omega))
  have e : IntKind.u64.wrap ((B k : Int) * 2 ^ (8 * k)) = (B k : Int) * ((2 ^ (8 * k) : Nat) : Int) := by
    rw [pow_cast, u64_left _ (by rw [← Int.natCast_mul]; omega) (by rw [← Int.natCast_mul]; omega)]
  rw [e, acc_int hB k hk _ rfl]
theorem acc_all {B : Nat → Nat} {n : Nat} (hz : ∀ j, n ≤ j → B j = 0) (hn : n ≤ 8) : wordOf (bitB B) (8 * n) = wordOf (bitB B) 64 := by
  refine wordOf_ext (Nat.lt_of_lt_of_le (wordOf_lt _ _) (Nat.pow_le_pow_right (by omega) (by omega))) fun k _ => ?_
  rw [wordOf_bit]
  by_cases h : k < 8 * n
  · simp [h]
  · simp [h, bitB, hz (k / 8) (by omega)]

end Go.Proofs.Ytlhaahpgkkfhhaa.Pk
