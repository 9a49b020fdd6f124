/-
  PLAIN MATHEMATICS: words of 64 bits, counting, the lowest bit. Nothing of the program.
-/
import Derived.Lib.TrailingZeros
namespace Go.Proofs.YtcjpnlcjphdlgaaDoor.Bt

/-- The number whose bit k is f k, for k below n. -/
def wordOf (f : Nat → Bool) : Nat → Nat
  | 0 => 0
  | n + 1 => wordOf f n ||| (if f n then 2 ^ n else 0)

theorem wordOf_bit (f : Nat → Bool) : ∀ n k, (wordOf f n).testBit k = (decide (k < n) && f k)
  | 0, k => by simp [wordOf]
  | n + 1, k => by
    rw [wordOf, Nat.testBit_or, wordOf_bit f n k]
    by_cases hk : k = n
    · subst hk
      by_cases hf : f k <;> simp [hf]
    · have h2 : (if f n = true then 2 ^ n else 0).testBit k = false := by
        split
        · rw [Nat.testBit_two_pow]; simp; omega
        · simp
      rw [h2]
      by_cases h : k < n
      · simp [h, show k < n + 1 by omega]
      · simp [h, show ¬ k < n + 1 by omega]

theorem wordOf_lt (f : Nat → Bool) : ∀ n, wordOf f n < 2 ^ n
  | 0 => by simp [wordOf]
  | n + 1 => by
    rw [wordOf]
    refine Nat.or_lt_two_pow ?_ ?_
    · exact Nat.lt_trans (wordOf_lt f n) (Nat.pow_lt_pow_right (by omega) (by omega))
    · split
      · exact Nat.pow_lt_pow_right (by omega) (by omega)
      · exact Nat.two_pow_pos _

theorem bit_high {x k n : Nat} (h : x < 2 ^ n) (hk : n ≤ k) : x.testBit k = false :=
  Nat.testBit_lt_two_pow (Nat.lt_of_lt_of_le h (Nat.pow_le_pow_right (by omega) hk))

theorem word_ext {x : Nat} {f : Nat → Bool} (h : x < 2 ^ 64) (hb : ∀ k, k < 64 → x.testBit k = f k) : x = wordOf f 64 := by
  apply Nat.eq_of_testBit_eq
  intro k
  rw [wordOf_bit]
  by_cases hk : k < 64
  · simp [hk, hb k hk]
  · rw [bit_high h (by omega)]; simp [hk]

theorem wordOf_congr {f g : Nat → Bool} : ∀ n, (∀ k, k < n → f k = g k) → wordOf f n = wordOf g n
  | 0, _ => rfl
  | n + 1, h => by rw [wordOf, wordOf, wordOf_congr n (fun k hk => h k (by omega)), h n (by omega)]

/-- How many of the numbers below n are in f. -/
def cnt (f : Nat → Bool) : Nat → Nat
  | 0 => 0
  | n + 1 => cnt f n + (if f n then 1 else 0)

theorem cnt_add (f : Nat → Bool) (a : Nat) : ∀ b, cnt f (a + b) = cnt f a + cnt (fun k => f (a + k)) b
  | 0 => by simp [cnt]
  | b + 1 => by rw [← Nat.add_assoc, cnt, cnt, cnt_add f a b]; omega
theorem cnt_le (f : Nat → Bool) : ∀ n, cnt f n ≤ n
  | 0 => by simp [cnt]
  | n + 1 => by rw [cnt]; have := cnt_le f n; split <;> omega
theorem cnt_mono (f : Nat → Bool) {a b : Nat} (h : a ≤ b) : cnt f a ≤ cnt f b := by
  obtain ⟨c, rfl⟩ := Nat.le.dest h
  rw [cnt_add]; omega
theorem cnt_congr {f g : Nat → Bool} : ∀ n, (∀ k, k < n → f k = g k) → cnt f n = cnt g n
  | 0, _ => rfl
  | n + 1, h => by rw [cnt, cnt, cnt_congr n (fun k hk => h k (by omega)), h n (by omega)]
theorem cnt_none {f : Nat → Bool} : ∀ n, (∀ k, k < n → f k = false) → cnt f n = 0
  | 0, _ => rfl
  | n + 1, h => by rw [cnt, cnt_none n (fun k hk => h k (by omega)), h n (by omega)]; simp
theorem cnt_lt {f : Nat → Bool} {a b : Nat} (h : a < b) (hf : f a = true) : cnt f a < cnt f b := by
  have h1 := cnt_mono f (show a + 1 ≤ b by omega)
  rw [cnt, hf] at h1; simp at h1; omega

/-- The ones of a word. -/
def pop (x : Nat) : Nat := cnt x.testBit 64

/-! ### a &&& b, cut at a power of two -/
theorem and_split (k a b : Nat) : a &&& b = 2 ^ k * ((a / 2 ^ k) &&& (b / 2 ^ k)) + ((a % 2 ^ k) &&& (b % 2 ^ k)) := by
  rw [← Nat.and_mod_two_pow, ← Nat.and_div_two_pow, Nat.div_add_mod]

end Go.Proofs.YtcjpnlcjphdlgaaDoor.Bt
