/-
  Word.
-/
import Derived.Test.YtlhaahpgkkfhhaaKEight
namespace Go.Proofs.Ytlhaahpgkkfhhaa.Pk
open Go.RowKit

theorem word_low {f : Nat → Bool} {s : Nat} (h1 : s ≤ 64) : wordOf f 64 * 2 ^ s % 18446744073709551616 = wordZ f (-(s : Int)) := by
  refine wordOf_ext (Nat.mod_lt _ (by omega)) fun k hk => ?_
  rw [show (18446744073709551616 : Nat) = 2 ^ 64 from rfl, mod_bit, shl_bit, wordOf_bit]
  unfold bitZ
  by_cases h : s ≤ k
  · rw [show (-(s : Int) + (k : Int)).toNat = k - s by omega]
    simp [hk, h, show k - s < 64 by omega]
    intro; omega
  · simp [h]
    intro; omega
theorem word_high {B : Nat → Nat} {a s : Nat} (hs : s < 8) :
    wordOf (bitB fun j => B (a + j)) 64 / 2 ^ s ||| B (a + 8) * 2 ^ (64 - s) % 18446744073709551616 = wordZ (bitB B) ((8 * a + s : Nat) : Int) := by
  rw [wordZ_nat]
  refine wordOf_ext (Nat.or_lt_two_pow (Nat.lt_of_le_of_lt (Nat.div_le_self _ _) (wordOf_lt _ _)) (Nat.mod_lt _ (by omega))) fun k hk => ?_
  rw [Nat.testBit_or, shr_bit, wordOf_bit, show (18446744073709551616 : Nat) = 2 ^ 64 from rfl, mod_bit, shl_bit]
  unfold bitB
  by_cases h : k + s < 64
  · have e1 : a + (k + s) / 8 = (8 * a + s + k) / 8 := by omega
    have e2 : (k + s) % 8 = (8 * a + s + k) % 8 := by omega
    simp [e1, e2, h, show ¬ 64 - s ≤ k by omega]
  · have e1 : (8 * a + s + k) / 8 = a + 8 := by omega
    have e2 : (8 * a + s + k) % 8 = k - (64 - s) := by omega
    simp [e1, e2, h, hk, show 64 - s ≤ k by omega]
theorem word_end {B : Nat → Nat} {n a s : Nat} (hz : ∀ j, n ≤ j → B j = 0) (hs : s < 8) (h8 : n ≤ a + 8) :
    wordOf (bitB fun j => B (a + j)) 64 / 2 ^ s = wordZ (bitB B) ((8 * a + s : Nat) : Int) := by
  have := word_high (B := B) (a := a) hs
  rw [hz (a + 8) h8] at this
  simpa using this
theorem word_out {B : Nat → Nat} {n : Nat} {bit : Int} (hz : ∀ j, n ≤ j → B j = 0) (h : bit ≤ -64 ∨ 8 * (n : Int) ≤ bit) : wordZ (bitB B) bit = 0 := by
  refine wordZ_none fun k hk => ?_
  unfold bitZ bitB
  rcases h with h | h
  · simp [show ¬ 0 ≤ bit + (k : Int) by omega]
  · rw [hz _ (by omega)]; simp

theorem shl_or (x y s t : Nat) (hx : x < 2 ^ 64) : bits BinOp.or IntKind.u64 ((x : Int) / 2 ^ s) (IntKind.u64.wrap ((y : Int) * 2 ^ t)) = ((x / 2 ^ s ||| y * 2 ^ t % 18446744073709551616 : Nat) : Int) := by
  have e1 : (x : Int) / 2 ^ s = ((x / 2 ^ s : Nat) : Int) := by rw [pow_cast]; rfl
  have e2 : IntKind.u64.wrap ((y : Int) * 2 ^ t) = ((y * 2 ^ t % 18446744073709551616 : Nat) : Int) := by rw [IntKind.wrap_u64, pow_cast]; rfl
  rw [e1, e2, u64_or_nat _ _ (Nat.lt_of_le_of_lt (Nat.div_le_self _ _) hx) (Nat.mod_lt _ (by omega))]

/-! ### lowest, and a lane by a word -/
theorem mask_wrap (k : Nat) (hk : k ≤ 64) : IntKind.u64.wrap (IntKind.u64.wrap ((2 : Int) ^ k) - 1) = ((2 ^ k - 1 : Nat) : Int) := by
  have h3 := Nat.two_pow_pos k
  have h2 : 2 ^ k ≤ 18446744073709551616 := Nat.pow_le_pow_right (n := 2) (by omega) (show k ≤ 64 from hk)
  rw [pow_cast]
  generalize 2 ^ k = p at *
  rw [IntKind.wrap_u64, IntKind.wrap_u64]
  omega
theorem lane_word {f : Nat → Bool} {w i : Nat} (hw : w ≤ 64) : wordZ f ((i * w : Nat) : Int) &&& (2 ^ w - 1) = laneOf f w i := by
  rw [wordZ_nat]
  refine wordOf_ext ?_ fun k hk => ?_
  · exact Nat.lt_of_le_of_lt Nat.and_le_right (by have := Nat.two_pow_pos w; omega)
  · rw [Nat.testBit_and, wordOf_bit, Nat.testBit_two_pow_sub_one]
    simp [hk, show k < 64 by omega]
theorem pow_sub_lt (k : Nat) (hk : k ≤ 64) : 2 ^ k - 1 < 18446744073709551616 := by
  have h2 : 2 ^ k ≤ 18446744073709551616 := Nat.pow_le_pow_right (n := 2) (by omega) (show k ≤ 64 from hk)
  have h3 := Nat.two_pow_pos k
  omega
theorem lane_int {f : Nat → Bool} {w i : Nat} (hw : w ≤ 64) : bits BinOp.and IntKind.u64 (wordZ f ((i * w : Nat) : Int) : Int) ((2 ^ w - 1 : Nat) : Int) = (laneOf f w i : Int) := by
  rw [u64_and_nat _ _ (wordZ_lt _ _) (pow_sub_lt w hw), lane_word hw]
end Go.Proofs.Ytlhaahpgkkfhhaa.Pk
