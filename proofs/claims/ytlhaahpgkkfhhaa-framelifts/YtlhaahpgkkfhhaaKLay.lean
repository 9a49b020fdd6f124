/-
  lay: a number's bits put into bytes.
-/
import Derived.Test.YtlhaahpgkkfhhaaKWord
import Derived.Test.YtlhaahpgkkfhhaaKLentB
namespace Go.Proofs.Ytlhaahpgkkfhhaa.Pk
open Go.RowKit

/-- Bytes a, a + 1 .. of V laid over B, the first t of them. -/
def laidT (B : Nat → Nat) (a V t : Nat) : Nat → Nat := fun j => if a ≤ j ∧ j < a + t then B j ||| V / 2 ^ (8 * (j - a)) % 256 else B j
def laid (B : Nat → Nat) (a V : Nat) : Nat → Nat := fun j => if a ≤ j then B j ||| V / 2 ^ (8 * (j - a)) % 256 else B j
theorem laidT_zero (B : Nat → Nat) (a V : Nat) : laidT B a V 0 = B := by
  funext j; unfold laidT; rw [if_neg (by omega)]
theorem laidT_step (B : Nat → Nat) (a V t z : Nat) (hz : z = B (a + t) ||| V / 2 ^ (8 * t) % 256) : upd (laidT B a V t) (a + t) z = laidT B a V (t + 1) := by
  funext j
  unfold upd laidT
  by_cases hj : j = a + t
  · subst hj
    rw [if_pos rfl, if_pos (by omega), hz, show a + t - a = t by omega]
  · rw [if_neg hj]
    by_cases h : a ≤ j ∧ j < a + t
    · rw [if_pos h, if_pos (by omega)]
    · rw [if_neg h, if_neg (by omega)]
theorem div_up {V t s : Nat} (h : V / 2 ^ (8 * t) = 0) (hs : t ≤ s) : V / 2 ^ (8 * s) = 0 := by
  have h1 := Nat.two_pow_pos (8 * t)
  have h3 : V < 2 ^ (8 * t) := by
    rcases Nat.div_eq_zero_iff.1 h with h | h <;> omega
  exact Nat.div_eq_of_lt (Nat.lt_of_lt_of_le h3 (Nat.pow_le_pow_right (by omega) (by omega)))
theorem laidT_end (B : Nat → Nat) (a V t : Nat) (h : V / 2 ^ (8 * t) = 0) : laidT B a V t = laid B a V := by
  funext j
  unfold laidT laid
  by_cases h1 : a ≤ j
  · by_cases h2 : j < a + t
    · rw [if_pos ⟨h1, h2⟩, if_pos h1]
    · rw [if_neg (by omega), if_pos h1, div_up h (s := j - a) (by omega)]; simp
  · rw [if_neg (by omega), if_neg h1]
theorem laid_lt {B : Nat → Nat} {a V : Nat} (h : ∀ j, B j < 256) (j : Nat) : laid B a V j < 256 := by
  unfold laid
  split
  · exact Nat.or_lt_two_pow (n := 8) (h j) (Nat.mod_lt _ (by omega))
  · exact h j
theorem laid_bits {B : Nat → Nat} {a s v i : Nat} : bitB (laid B a (v * 2 ^ s)) i = (bitB B i || (decide (8 * a + s ≤ i) && v.testBit (i - (8 * a + s)))) := by
  unfold bitB laid
  by_cases h : a ≤ i / 8
  · rw [if_pos h, Nat.testBit_or, show (256 : Nat) = 2 ^ 8 from rfl, mod_bit, shr_bit, shl_bit]
    have e : i % 8 + 8 * (i / 8 - a) = i - 8 * a := by omega
    rw [e]
    by_cases h2 : 8 * a + s ≤ i
    · simp [h2, show s ≤ i - 8 * a by omega, show i % 8 < 8 by omega, show i - 8 * a - s = i - (8 * a + s) by omega]
    · simp [h2, show ¬ s ≤ i - 8 * a by omega]
  · rw [if_neg h]; simp [show ¬ 8 * a + s ≤ i by omega]
theorem lay_byte {x s V : Nat} (h : x * 2 ^ s = V) : IntKind.u8.wrap (IntKind.u64.wrap ((x : Int) * 2 ^ s)) = ((V % 256 : Nat) : Int) := by
  rw [pow_cast, ← Int.natCast_mul, h, IntKind.wrap_u64, IntKind.wrap_u8]; omega
theorem lay_next {x s V : Nat} (h : x * 2 ^ s = V) (hs : s < 8) : x / 2 ^ (8 - s) = V / 256 := by
  rw [← h, show (256 : Nat) = 2 ^ s * 2 ^ (8 - s) by rw [← Nat.pow_add, show s + (8 - s) = 8 by omega], ← Nat.div_div_eq_div_mul, Nat.mul_div_cancel _ (Nat.two_pow_pos s)]
theorem pow8_succ (V t : Nat) : V / 2 ^ (8 * t) / 256 = V / 2 ^ (8 * (t + 1)) := by
  rw [Nat.div_div_eq_div_mul, show 8 * (t + 1) = 8 * t + 8 by omega, Nat.pow_add]

end Go.Proofs.Ytlhaahpgkkfhhaa.Pk
