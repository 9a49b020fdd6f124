/-
  PLAIN MATHEMATICS: the lowest bit, and a word without it; which number has just k below it.
-/
import Derived.Test.YtcjpnlcjphdlgaaDoorBPack
namespace Go.Proofs.YtcjpnlcjphdlgaaDoor.Bt

/-- The place of the lowest one. -/
def low (x : Nat) : Nat := Lib.ctz 64 x

theorem low_form (x : Nat) (h0 : x ≠ 0) (hx : x < 18446744073709551616) : ∃ m, x = 2 ^ low x * (2 * m + 1) ∧ low x < 64 := by
  obtain ⟨m, hm, hk⟩ := Lib.ctzFrom_spec 64 x (by omega) hx
  have e : low x = Lib.ctzFrom 64 x := by simp [low, Lib.ctz, h0]
  exact ⟨m, by rw [e]; exact hm, by rw [e]; exact hk⟩
theorem bit_mul (c y i : Nat) : (2 ^ c * y).testBit i = (decide (c ≤ i) && y.testBit (i - c)) := by
  rw [Nat.testBit_two_pow_mul]
theorem low_bits (x : Nat) (h0 : x ≠ 0) (hx : x < 18446744073709551616) : low x < 64 ∧ x.testBit (low x) = true ∧ ∀ i, i < low x → x.testBit i = false := by
  obtain ⟨m, hm, hk⟩ := low_form x h0 hx
  generalize low x = c at *
  subst hm
  refine ⟨hk, ?_, ?_⟩
  · rw [bit_mul]; simp
  · intro i hi
    rw [bit_mul]; simp; omega
theorem low_clear (x : Nat) (h0 : x ≠ 0) (hx : x < 18446744073709551616) (i : Nat) : (x &&& (x - 1)).testBit i = (x.testBit i && !decide (i = low x)) := by
  obtain ⟨m, hm, hk⟩ := low_form x h0 hx
  generalize low x = c at *
  subst hm
  rw [Nat.testBit_and]
  have hp := Nat.two_pow_pos c
  have e1 : 2 ^ c * (2 * m + 1) - 1 = 2 ^ c * (2 * m) + (2 ^ c - 1) := by
    rw [Nat.mul_add, Nat.mul_one]; omega
  by_cases h : c ≤ i
  · have e2 : (2 ^ c * (2 * m) + (2 ^ c - 1)).testBit i = (2 * m).testBit (i - c) := by
      rw [Nat.testBit_two_pow_mul_add _ (by omega)]
      simp [show ¬ i < c by omega]
    rw [e1, e2, bit_mul]
    by_cases hi : i = c
    · subst hi; simp
    · obtain ⟨d, hd⟩ : ∃ d, i - c = d + 1 := ⟨i - c - 1, by omega⟩
      have e3 : (2 * m + 1).testBit (d + 1) = (2 * m).testBit (d + 1) := by
        rw [Nat.testBit_succ, Nat.testBit_succ]; congr 1; omega
      rw [hd, e3]
      simp [h, hi]
  · rw [bit_mul]; simp [h]
theorem clear_lt (x : Nat) (h0 : x ≠ 0) : x &&& (x - 1) < x := by
  have := Nat.and_le_right (n := x) (m := x - 1)
  omega

theorem cnt_hit (f : Nat → Bool) (k : Nat) : ∀ n, k < cnt f n → ∃ i, i < n ∧ f i = true ∧ cnt f i = k
  | 0, h => by simp [cnt] at h
  | n + 1, h => by
    by_cases h1 : k < cnt f n
    · obtain ⟨i, hi, hf, hc⟩ := cnt_hit f k n h1
      exact ⟨i, by omega, hf, hc⟩
    · rw [cnt] at h
      cases hf : f n with
      | true => rw [hf] at h; simp at h; exact ⟨n, by omega, hf, by omega⟩
      | false => rw [hf] at h; simp at h; omega
theorem cnt_uniq {f : Nat → Bool} {i j : Nat} (hi : f i = true) (hj : f j = true) (h : cnt f i = cnt f j) : i = j := by
  rcases Nat.lt_trichotomy i j with h1 | h1 | h1
  · have := cnt_lt h1 hi; omega
  · exact h1
  · have := cnt_lt h1 hj; omega

/-- y: the ones of x that have j others below them. -/
def From (x j y : Nat) : Prop := y < 18446744073709551616 ∧ ∀ i, y.testBit i = (x.testBit i && decide (j ≤ cnt x.testBit i))
theorem From.start {x : Nat} (hx : x < 18446744073709551616) : From x 0 x := ⟨hx, fun i => by simp⟩
theorem From.low {x j y : Nat} (h : From x j y) (hj : j < pop x) : y ≠ 0 ∧ x.testBit (low y) = true ∧ cnt x.testBit (low y) = j ∧ low y < 64 := by
  obtain ⟨p, hp, hf, hc⟩ := cnt_hit x.testBit j 64 hj
  have hy : y.testBit p = true := by rw [h.2, hf, hc]; simp
  have h0 : y ≠ 0 := by intro e; subst e; simp at hy
  obtain ⟨l1, l2, l3⟩ := low_bits y h0 h.1
  have h2 := h.2 (Bt.low y)
  rw [l2] at h2
  have h3 : x.testBit (Bt.low y) = true ∧ j ≤ cnt x.testBit (Bt.low y) := by simpa using h2.symm
  have h4 : ¬ p < Bt.low y := fun hlt => by rw [l3 p hlt] at hy; cases hy
  have h5 : ¬ Bt.low y < p := fun hlt => by have := cnt_lt hlt h3.1; omega
  have h6 : Bt.low y = p := by omega
  exact ⟨h0, h3.1, by rw [h6]; exact hc, l1⟩
theorem From.next {x j y : Nat} (h : From x j y) (hj : j < pop x) : From x (j + 1) (y &&& (y - 1)) := by
  obtain ⟨h0, h1, h2, _⟩ := h.low hj
  refine ⟨Nat.lt_trans (clear_lt y h0) h.1, fun i => ?_⟩
  rw [low_clear y h0 h.1, h.2]
  cases hf : x.testBit i with
  | false => simp
  | true =>
    by_cases hi : i = Bt.low y
    · subst hi; simp [h2]
    · have : cnt x.testBit i ≠ j := fun e => hi (cnt_uniq hf h1 (e.trans h2.symm))
      by_cases hle : j ≤ cnt x.testBit i
      · simp [hi, hle, show j + 1 ≤ cnt x.testBit i by omega]
      · simp [hle, show ¬ j + 1 ≤ cnt x.testBit i by omega]

theorem pop_mask (x r : Nat) (hr : r ≤ 64) : pop (x &&& (2 ^ r - 1)) = cnt x.testBit r := by
  unfold pop
  rw [show 64 = r + (64 - r) by omega, cnt_add, cnt_none (64 - r), Nat.add_zero]
  · apply cnt_congr
    intro k hk
    rw [Nat.testBit_and, Nat.testBit_two_pow_sub_one]; simp [hk]
  · intro k _
    show (x &&& (2 ^ r - 1)).testBit (r + k) = false
    rw [Nat.testBit_and, Nat.testBit_two_pow_sub_one]; simp

/-- The numbers below m that are in f, rising. -/
def pos (f : Nat → Bool) (m : Nat) : List Nat := (List.range m).filter f
theorem pos_skip {f : Nat → Bool} {a : Nat} : ∀ b, a ≤ b → (∀ i, a ≤ i → i < b → f i = false) → pos f b = pos f a
  | 0, h, _ => by obtain rfl : a = 0 := by omega
                  rfl
  | b + 1, h, hf => by
    by_cases e : a = b + 1
    · subst e; rfl
    · rw [← pos_skip b (by omega) (fun i h1 h2 => hf i h1 (by omega))]
      simp [pos, List.range_succ, hf b (by omega) (by omega)]
theorem pos_hit {f : Nat → Bool} {a : Nat} (h : f a = true) : pos f (a + 1) = pos f a ++ [a] := by
  simp [pos, List.range_succ, h]
theorem pos_len (f : Nat → Bool) : ∀ m, (pos f m).length = cnt f m
  | 0 => rfl
  | m + 1 => by
    have := pos_len f m
    cases h : f m with
    | true => rw [pos_hit h]; simp [this, cnt, h]
    | false =>
      have e := pos_skip (f := f) (a := m) (m + 1) (by omega) (fun i h1 h2 => by rw [show i = m by omega]; exact h)
      rw [e]; simp [this, cnt, h]
end Go.Proofs.YtcjpnlcjphdlgaaDoor.Bt
