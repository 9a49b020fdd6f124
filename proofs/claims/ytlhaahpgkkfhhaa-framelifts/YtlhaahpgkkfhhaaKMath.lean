/-
  PLAIN MATHEMATICS: numbers out of bits, bytes out of bits, lanes. Nothing of the program.
-/
import Derived.Lib.BitFns
namespace Go.Proofs.Ytlhaahpgkkfhhaa.Pk

/-- The number whose bit k is f k, for k below n. -/
def wordOf (f : Nat → Bool) : Nat → Nat
  | 0 => 0
  | n + 1 => wordOf f n ||| (if f n then 2 ^ n else 0)

theorem wordOf_bit (f : Nat → Bool) : ∀ n k, (wordOf f n).testBit k = (decide (k < n) && f k)
  | 0, k => by simp [wordOf]
  | n + 1, k => by
    rw [wordOf, Nat.testBit_or, wordOf_bit f n k]
    by_cases hk : k = n
    · subst hk
      by_cases hf : f k <;> simp [hf]
    · have h2 : (if f n = true then 2 ^ n else 0).testBit k = false := by
        split
        · rw [Nat.testBit_two_pow]; simp; omega
        · simp
      rw [h2]
      by_cases h : k < n
      · simp [h, show k < n + 1 by omega]
      · simp [h, show ¬ k < n + 1 by omega]

theorem wordOf_lt (f : Nat → Bool) : ∀ n, wordOf f n < 2 ^ n
  | 0 => by simp [wordOf]
  | n + 1 => by
    rw [wordOf]
    refine Nat.or_lt_two_pow ?_ ?_
    · exact Nat.lt_trans (wordOf_lt f n) (Nat.pow_lt_pow_right (by omega) (by omega))
    · split
      · exact Nat.pow_lt_pow_right (by omega) (by omega)
      · exact Nat.two_pow_pos _

theorem bit_high {x k n : Nat} (h : x < 2 ^ n) (hk : n ≤ k) : x.testBit k = false :=
  Nat.testBit_lt_two_pow (Nat.lt_of_lt_of_le h (Nat.pow_le_pow_right (by omega) hk))

theorem wordOf_ext {x n : Nat} {f : Nat → Bool} (h : x < 2 ^ n) (hb : ∀ k, k < n → x.testBit k = f k) : x = wordOf f n := by
  apply Nat.eq_of_testBit_eq
  intro k
  rw [wordOf_bit]
  by_cases hk : k < n
  · simp [hk, hb k hk]
  · rw [bit_high h (by omega)]; simp [hk]

theorem wordOf_congr {f g : Nat → Bool} : ∀ n, (∀ k, k < n → f k = g k) → wordOf f n = wordOf g n
  | 0, _ => rfl
  | n + 1, h => by rw [wordOf, wordOf, wordOf_congr n (fun k hk => h k (by omega)), h n (by omega)]
theorem wordOf_none {f : Nat → Bool} (n : Nat) (h : ∀ k, k < n → f k = false) : wordOf f n = 0 :=
  (wordOf_ext (Nat.two_pow_pos n) fun k hk => by simp [h k hk]).symm
theorem lt_of_bits {x n : Nat} (h : ∀ k, n ≤ k → x.testBit k = false) : x < 2 ^ n := Nat.lt_pow_two_of_testBit x h
theorem fit_bits {x w : Nat} : x < 2 ^ w ↔ ∀ k, w ≤ k → x.testBit k = false :=
  ⟨fun h _ hk => bit_high h hk, lt_of_bits⟩

/-- The bits of a list of bytes. -/
def bitB (B : Nat → Nat) (i : Nat) : Bool := (B (i / 8)).testBit (i % 8)
/-- Byte j of bits. -/
def byt (f : Nat → Bool) (j : Nat) : Nat := wordOf (fun k => f (8 * j + k)) 8
theorem byt_lt (f : Nat → Bool) (j : Nat) : byt f j < 256 := wordOf_lt _ 8
theorem byt_bit (f : Nat → Bool) (j k : Nat) : (byt f j).testBit k = (decide (k < 8) && f (8 * j + k)) := wordOf_bit _ _ _
theorem bitB_byt (f : Nat → Bool) : bitB (byt f) = f := by
  funext i
  rw [bitB, byt_bit]
  simp [show i % 8 < 8 by omega, show 8 * (i / 8) + i % 8 = i by omega]
theorem byt_bitB {B : Nat → Nat} (h : ∀ j, B j < 256) : byt (bitB B) = B := by
  funext j
  refine (wordOf_ext (h j) fun k hk => ?_).symm
  rw [bitB, show (8 * j + k) / 8 = j by omega, show (8 * j + k) % 8 = k by omega]
theorem byt_congr {f g : Nat → Bool} {j : Nat} (h : ∀ k, k < 8 → f (8 * j + k) = g (8 * j + k)) : byt f j = byt g j := wordOf_congr 8 h

/-- Bits at any place, those ahead of the first one 0. -/
def bitZ (f : Nat → Bool) (i : Int) : Bool := decide (0 ≤ i) && f i.toNat
/-- The word from a bit on. -/
def wordZ (f : Nat → Bool) (bit : Int) : Nat := wordOf (fun j => bitZ f (bit + (j : Int))) 64
theorem wordZ_lt (f : Nat → Bool) (bit : Int) : wordZ f bit < 18446744073709551616 := wordOf_lt _ 64
theorem wordZ_nat (f : Nat → Bool) (s : Nat) : wordZ f (s : Int) = wordOf (fun j => f (s + j)) 64 :=
  wordOf_congr 64 fun k _ => by
    unfold bitZ
    rw [show ((s : Int) + (k : Int)).toNat = s + k by omega]
    simp; omega
theorem wordZ_none {f : Nat → Bool} {bit : Int} (h : ∀ k : Nat, k < 64 → bitZ f (bit + (k : Int)) = false) : wordZ f bit = 0 := wordOf_none 64 h

/-! ### Bits of what is built by shifts -/
theorem shl_bit (x s k : Nat) : (x * 2 ^ s).testBit k = (decide (s ≤ k) && x.testBit (k - s)) := by
  rw [← Nat.shiftLeft_eq, Nat.testBit_shiftLeft]
theorem shr_bit (x s k : Nat) : (x / 2 ^ s).testBit k = x.testBit (k + s) := by
  rw [← Nat.shiftRight_eq_div_pow, Nat.testBit_shiftRight, Nat.add_comm]
theorem mod_bit (x s k : Nat) : (x % 2 ^ s).testBit k = (decide (k < s) && x.testBit k) := Nat.testBit_mod_two_pow x s k

/-- The lanes of n numbers L, of w bits each. -/
def laneB (n w : Nat) (L : Nat → Nat) (i : Nat) : Bool := decide (i < n * w) && (L (i / w)).testBit (i % w)
/-- The number in lane i. -/
def laneOf (f : Nat → Bool) (w i : Nat) : Nat := wordOf (fun j => f (i * w + j)) w
theorem laneOf_lt (f : Nat → Bool) (w i : Nat) : laneOf f w i < 2 ^ w := wordOf_lt _ w
theorem lane_in {n w i j : Nat} (hi : i < n) (hj : j < w) : i * w + j < n * w := by
  have : (i + 1) * w ≤ n * w := Nat.mul_le_mul_right w hi
  rw [Nat.succ_mul] at this; omega
theorem lane_div {w i j : Nat} (hj : j < w) : (i * w + j) / w = i := by
  rw [Nat.add_comm, Nat.mul_comm, Nat.add_mul_div_left _ _ (by omega), Nat.div_eq_of_lt hj]; omega
theorem lane_mod {w i j : Nat} (hj : j < w) : (i * w + j) % w = j := by
  rw [Nat.add_comm, Nat.mul_comm, Nat.add_mul_mod_self_left, Nat.mod_eq_of_lt hj]
/-- A lane of lanes is its number. -/
theorem laneOf_laneB {n w : Nat} {L : Nat → Nat} {i : Nat} (hi : i < n) (hL : L i < 2 ^ w) : laneOf (laneB n w L) w i = L i := by
  refine (wordOf_ext hL fun k hk => ?_).symm
  rw [laneB, lane_div hk, lane_mod hk]
  simp [lane_in hi hk]
/-- Lanes of the lanes' numbers are the bits. -/
theorem laneB_laneOf {n w : Nat} {f : Nat → Bool} (h : ∀ i, n * w ≤ i → f i = false) : laneB n w (laneOf f w) = f := by
  funext i
  rw [laneB]
  by_cases hi : i < n * w
  · have hw : 0 < w := by
      rcases Nat.eq_zero_or_pos w with rfl | h
      · simp at hi
      · exact h
    have e : i / w * w + i % w = i := by rw [Nat.mul_comm]; exact Nat.div_add_mod i w
    rw [laneOf, wordOf_bit]
    simp [hi, Nat.mod_lt i hw, e]
  · simp [hi, h i (by omega)]
theorem laneB_congr {n w : Nat} {L M : Nat → Nat} (h : ∀ i, i < n → L i = M i) : laneB n w L = laneB n w M := by
  funext i
  rw [laneB, laneB]
  by_cases hi : i < n * w
  · rw [h (i / w) (Nat.div_lt_of_lt_mul (by rw [Nat.mul_comm]; exact hi))]
  · simp [hi]
theorem laneB_out {n w : Nat} {L : Nat → Nat} {i : Nat} (h : n * w ≤ i) : laneB n w L i = false := by
  rw [laneB]; simp; omega

/-! ### bitLen -/
theorem bitLenAux_fits : ∀ (f x k : Nat), x < 2 ^ f → Lib.bitLenAux f x ≤ k → x < 2 ^ k
  | 0, x, k, h, _ => by have := Nat.two_pow_pos k; simp at h; omega
  | f + 1, x, k, h, hk => by
    rw [Lib.bitLenAux] at hk
    by_cases h0 : x = 0
    · subst h0; exact Nat.two_pow_pos k
    · rw [if_neg h0] at hk
      obtain ⟨j, rfl⟩ : ∃ j, k = j + 1 := ⟨k - 1, by omega⟩
      have := bitLenAux_fits f (x / 2) j (by rw [Nat.pow_succ] at h; omega) (by omega)
      rw [Nat.pow_succ]; omega
theorem bitLen_fits {x k : Nat} (h : x < 18446744073709551616) (hk : k ≤ 64) : Lib.bitLen x ≤ k ↔ x < 2 ^ k :=
  ⟨fun h2 => bitLenAux_fits 64 x k h h2, fun h2 => Lib.bitLen_le x k hk h2⟩
theorem bitLen_le64 {x : Nat} (h : x < 18446744073709551616) : Lib.bitLen x ≤ 64 := Lib.bitLen_le x 64 (Nat.le_refl _) h
theorem bitLen_parts {x k y : Nat} (hx : x < 18446744073709551616) (h : 2 ^ k ≤ x) (hy : x / 2 ^ k = y) : Lib.bitLen x = k + Lib.bitLen y := by
  subst hy; exact Lib.bitLen_shift k x h hx
end Go.Proofs.Ytlhaahpgkkfhhaa.Pk
