/-
  THE DOCUMENT's OWN ANSWERS, on: Bit, Lane, word, Held, Marks.
-/
import Derived.Test.YtoephmcmmbhnaacLRef
import Derived.Test.YtoephmcmmbhnaacLKeeps
namespace Go.Proofs.Ytoephmcmmbhnaac.Ln
open Go.RowKit Go.Sort

def bitV (f : Nat → Bool) (i : Nat) : Nat := if f i = true then 1 else 0
theorem bitV_le (f : Nat → Bool) (i : Nat) : bitV f i ≤ 1 := by unfold bitV; split <;> omega
theorem bit_and (x r : Nat) (hx : x < 256) : bits BinOp.and IntKind.u64 ((x : Int) / 2 ^ r) 1 = ((if x.testBit r = true then 1 else 0 : Nat) : Int) := by
  have e1 : (x : Int) / 2 ^ r = ((x / 2 ^ r : Nat) : Int) := by rw [pow_cast]; rfl
  have hl : x / 2 ^ r ≤ x := Nat.div_le_self _ _
  rw [e1, show (1 : Int) = ((1 : Nat) : Int) from rfl, u64_and_nat _ _ (by omega) (by omega), Nat.and_one_is_mod, Nat.testBit_eq_decide_div_mod_eq]
  have : x / 2 ^ r % 2 = 0 ∨ x / 2 ^ r % 2 = 1 := by omega
  rcases this with h | h <;> simp [h]

theorem bit_step (g : Nat → Bool) (k v : Nat) (hk : k < 64) (hv : v = if g k = true then 1 else 0) :
    bits BinOp.or IntKind.u64 (wordOf g k : Int) (IntKind.u64.wrap ((v : Int) * 2 ^ k)) = (wordOf g (k + 1) : Int) := by
  have h1 : wordOf g k < 18446744073709551616 := Nat.lt_of_lt_of_le (wordOf_lt _ _) (Nat.pow_le_pow_right (n := 2) (by omega) (show k ≤ 64 by omega))
  have h2 : 2 ^ k ≤ 9223372036854775808 := Nat.pow_le_pow_right (n := 2) (by omega) (show k ≤ 63 by omega)
  have h3 : v * 2 ^ k = if g k = true then 2 ^ k else 0 := by rw [hv]; split <;> simp
  have h4 : v * 2 ^ k < 18446744073709551616 := by rw [h3]; split <;> omega
  have e : IntKind.u64.wrap ((v : Int) * 2 ^ k) = ((v * 2 ^ k : Nat) : Int) := by
    rw [pow_cast, ← Int.natCast_mul, u64_left _ (by omega) (by omega)]
  rw [e, u64_or_nat _ _ h1 h4, wordOf, h3]

/-- The bytes of a word. -/
def wB (x : Nat) : Nat → Nat := fun j => x / 2 ^ (8 * j) % 256
theorem wB_lt (x j : Nat) : wB x j < 256 := Nat.mod_lt _ (by omega)
theorem wB_out {x : Nat} (hx : x < 18446744073709551616) {j : Nat} (hj : 8 ≤ j) : wB x j = 0 := by
  unfold wB
  rw [Nat.div_eq_of_lt (Nat.lt_of_lt_of_le hx (Nat.pow_le_pow_right (n := 2) (by omega) (show 64 ≤ 8 * j by omega)))]
theorem wB_bit (x p : Nat) : bitB (wB x) p = x.testBit p := by
  unfold bitB wB
  rw [show (256 : Nat) = 2 ^ 8 from rfl, Nat.testBit_mod_two_pow, Nat.testBit_div_two_pow]
  simp only [show p % 8 < 8 by omega, decide_true, Bool.true_and]
  congr 1
  omega
theorem lane_wB (x k i : Nat) : laneOf (bitB (wB x)) k i = laneW x k i := by
  refine (wordOf_ext (laneW_lt x k i) fun r hr => ?_).symm
  rw [laneW_bit, wB_bit]
  simp [hr]

end Go.Proofs.Ytoephmcmmbhnaac.Ln
