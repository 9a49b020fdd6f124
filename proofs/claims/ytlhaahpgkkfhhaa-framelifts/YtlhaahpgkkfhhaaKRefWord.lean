/-
  The document's own reading: Bit, Lane, Word.
-/
import Derived.Test.YtlhaahpgkkfhhaaKWord
namespace Go.Proofs.Ytlhaahpgkkfhhaa.Pk
open Go.RowKit

def bitV (f : Nat → Bool) (i : Int) : Nat := if bitZ f i = true then 1 else 0
theorem bitV_le (f : Nat → Bool) (i : Int) : bitV f i ≤ 1 := by unfold bitV; split <;> omega
theorem bitZ_nat (f : Nat → Bool) (m : Nat) : bitZ f (m : Int) = f m := by unfold bitZ; simp
theorem bit_and (x r : Nat) (hx : x < 256) : bits BinOp.and IntKind.u64 (IntKind.u64.wrap ((x : Int) / 2 ^ r)) 1 = ((if x.testBit r = true then 1 else 0 : Nat) : Int) := by
  have e1 : (x : Int) / 2 ^ r = ((x / 2 ^ r : Nat) : Int) := by rw [pow_cast]; rfl
  have hl : x / 2 ^ r ≤ x := Nat.div_le_self _ _
  rw [e1, u64_left _ (Int.natCast_nonneg _) (by omega), show (1 : Int) = ((1 : Nat) : Int) from rfl, u64_and_nat _ _ (by omega) (by omega), Nat.and_one_is_mod, Nat.testBit_eq_decide_div_mod_eq]
  have : x / 2 ^ r % 2 = 0 ∨ x / 2 ^ r % 2 = 1 := by omega
  rcases this with h | h <;> simp [h]

theorem bit_step (g : Nat → Bool) (k v : Nat) (hk : k < 64) (hv : v = if g k = true then 1 else 0) :
    bits BinOp.or IntKind.u64 (wordOf g k : Int) (IntKind.u64.wrap ((v : Int) * 2 ^ k)) = (wordOf g (k + 1) : Int) := by
  have h1 : wordOf g k < 18446744073709551616 := Nat.lt_of_lt_of_le (wordOf_lt _ _) (Nat.pow_le_pow_right (n := 2) (by omega) (show k ≤ 64 by omega))
  have h2 : 2 ^ k ≤ 9223372036854775808 := Nat.pow_le_pow_right (n := 2) (by omega) (show k ≤ 63 by omega)
  have h3 : v * 2 ^ k = if g k = true then 2 ^ k else 0 := by rw [hv]; split <;> simp
  have h4 : v * 2 ^ k < 18446744073709551616 := by rw [h3]; split <;> omega
  have e : IntKind.u64.wrap ((v : Int) * 2 ^ k) = ((v * 2 ^ k : Nat) : Int) := by
    rw [pow_cast, ← Int.natCast_mul, u64_left _ (by omega) (by omega)]
  rw [e, u64_or_nat _ _ h1 h4, wordOf, h3]

end Go.Proofs.Ytlhaahpgkkfhhaa.Pk
