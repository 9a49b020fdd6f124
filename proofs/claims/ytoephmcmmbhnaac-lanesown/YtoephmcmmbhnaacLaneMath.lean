/-
  A word's lanes (no names of a seat but the namespace): a lane as a number, its bits; spread numbers; masks; sums and differences lane by lane.
-/
namespace Go.Proofs.Ytoephmcmmbhnaac

/-- Lane i of x, of width w. -/
def laneW (x w i : Nat) : Nat := x / 2 ^ (i * w) % 2 ^ w
theorem laneW_lt (x w i : Nat) : laneW x w i < 2 ^ w := Nat.mod_lt _ (Nat.two_pow_pos w)
theorem laneW_bit (x w i r : Nat) : (laneW x w i).testBit r = (decide (r < w) && x.testBit (i * w + r)) := by
  unfold laneW
  rw [Nat.testBit_mod_two_pow, Nat.testBit_div_two_pow, Nat.add_comm r]
theorem low_step (x w i : Nat) : x % 2 ^ ((i + 1) * w) = x % 2 ^ (i * w) + 2 ^ (i * w) * laneW x w i := by
  unfold laneW
  rw [Nat.succ_mul, Nat.pow_add, Nat.mod_mul]
theorem pow_step (w i : Nat) : 2 ^ ((i + 1) * w) = 2 ^ (i * w) * 2 ^ w := by
  rw [Nat.succ_mul, Nat.pow_add]

/-! ### Sums and differences that stay in their lanes -/
theorem add_low (a b w k : Nat) (h : ∀ i, i < k → laneW a w i + laneW b w i < 2 ^ w) : a % 2 ^ (k * w) + b % 2 ^ (k * w) < 2 ^ (k * w) := by
  induction k with
  | zero => simp [Nat.mod_one]
  | succ k ih =>
    have h1 := ih (fun i hi => h i (by omega))
    have h2 := h k (by omega)
    rw [low_step, low_step, pow_step]
    generalize 2 ^ (k * w) = P at *
    generalize laneW a w k = x at *
    generalize laneW b w k = y at *
    generalize 2 ^ w = W at *
    have h3 : P * x + P * y + P ≤ P * W := by
      rw [← Nat.mul_add, ← Nat.mul_succ]; exact Nat.mul_le_mul_left _ h2
    omega
theorem add_div {a b P : Nat} (hP : 0 < P) (h : a % P + b % P < P) : (a + b) / P = a / P + b / P := by
  rw [Nat.add_div hP, if_neg (by omega), Nat.add_zero]
theorem add_lane (a b w k : Nat) (h : ∀ i, i < k → laneW a w i + laneW b w i < 2 ^ w) {i : Nat} (hi : i < k) : laneW (a + b) w i = laneW a w i + laneW b w i := by
  have h1 := add_low a b w i (fun j hj => h j (by omega))
  have h2 := h i hi
  unfold laneW at h2 ⊢
  rw [add_div (Nat.two_pow_pos _) h1, Nat.add_mod, Nat.mod_eq_of_lt h2]
theorem sub_low (a b w k : Nat) (h : ∀ i, i < k → laneW b w i ≤ laneW a w i) : b % 2 ^ (k * w) ≤ a % 2 ^ (k * w) := by
  induction k with
  | zero => simp [Nat.mod_one]
  | succ k ih =>
    have h1 := ih (fun i hi => h i (by omega))
    have h2 := Nat.mul_le_mul_left (2 ^ (k * w)) (h k (by omega))
    rw [low_step, low_step]
    omega
theorem sub_div {a b P : Nat} (hP : 0 < P) (hle : b ≤ a) (h : b % P ≤ a % P) : (a - b) / P = a / P - b / P ∧ b / P ≤ a / P := by
  have ea := Nat.div_add_mod a P
  have eb := Nat.div_add_mod b P
  have hq : b / P ≤ a / P := Nat.div_le_div_right hle
  refine ⟨?_, hq⟩
  have hr := Nat.mod_lt a hP
  have e : a - b = P * (a / P - b / P) + (a % P - b % P) := by
    rw [Nat.mul_sub]
    have := Nat.mul_le_mul_left P hq
    omega
  have hz : (a % P - b % P) / P = 0 := Nat.div_eq_of_lt (by omega)
  rw [e, Nat.mul_add_div hP, hz, Nat.add_zero]
theorem sub_lane (a b w k : Nat) (hle : b ≤ a) (h : ∀ i, i < k → laneW b w i ≤ laneW a w i) {i : Nat} (hi : i < k) : laneW (a - b) w i = laneW a w i - laneW b w i := by
  have h1 := sub_low a b w i (fun j hj => h j (by omega))
  have h2 := h i hi
  obtain ⟨e, hq⟩ := sub_div (Nat.two_pow_pos _) hle h1
  unfold laneW at h2 ⊢
  rw [e]
  generalize a / 2 ^ (i * w) = A at *
  generalize b / 2 ^ (i * w) = B at *
  exact (sub_mod_of_le (Nat.two_pow_pos w) hq h2)
where
  sub_mod_of_le {A B P : Nat} (hP : 0 < P) (hle : B ≤ A) (h : B % P ≤ A % P) : (A - B) % P = A % P - B % P := by
    have ea := Nat.div_add_mod A P
    have eb := Nat.div_add_mod B P
    have hq : B / P ≤ A / P := Nat.div_le_div_right hle
    have hr := Nat.mod_lt A hP
    have e : A - B = (A % P - B % P) + P * (A / P - B / P) := by
      rw [Nat.mul_sub]
      have := Nat.mul_le_mul_left P hq
      omega
    rw [e, Nat.add_mul_mod_self_left, Nat.mod_eq_of_lt (by omega)]

/-! ### Lanes of bitwise answers -/
theorem and_lane (a b w i : Nat) : laneW (a &&& b) w i = laneW a w i &&& laneW b w i := by
  apply Nat.eq_of_testBit_eq; intro r
  simp only [Nat.testBit_and, laneW_bit]
  cases decide (r < w) <;> simp
theorem or_lane (a b w i : Nat) : laneW (a ||| b) w i = laneW a w i ||| laneW b w i := by
  apply Nat.eq_of_testBit_eq; intro r
  simp only [Nat.testBit_or, laneW_bit]
  cases decide (r < w) <;> simp
theorem xor_lane (a b w i : Nat) : laneW (a ^^^ b) w i = laneW a w i ^^^ laneW b w i := by
  apply Nat.eq_of_testBit_eq; intro r
  simp only [Nat.testBit_xor, laneW_bit]
  cases decide (r < w) <;> simp
/-- Two words of 64 bits that agree bit by bit. -/
theorem word_ext {x y : Nat} (hx : x < 18446744073709551616) (hy : y < 18446744073709551616) (h : ∀ p, p < 64 → x.testBit p = y.testBit p) : x = y := by
  apply Nat.eq_of_testBit_eq; intro p
  rcases Nat.lt_or_ge p 64 with hp | hp
  · exact h p hp
  · have e : (18446744073709551616 : Nat) ≤ 2 ^ p := by
      rw [show (18446744073709551616 : Nat) = 2 ^ 64 from rfl]; exact Nat.pow_le_pow_right (by omega) hp
    rw [Nat.testBit_lt_two_pow (by omega), Nat.testBit_lt_two_pow (by omega)]

/-! ### A number spread -/
def spreadN (v w : Nat) : Nat → Nat
  | 0 => 0
  | k + 1 => spreadN v w k + v * 2 ^ (k * w)
theorem spread_lt (v w k : Nat) (h : v < 2 ^ w) : spreadN v w k < 2 ^ (k * w) := by
  induction k with
  | zero => simp [spreadN]
  | succ k ih =>
    simp only [spreadN]
    rw [pow_step]
    have h3 : v * 2 ^ (k * w) + 2 ^ (k * w) ≤ 2 ^ (k * w) * 2 ^ w := by
      rw [← Nat.succ_mul, Nat.mul_comm]; exact Nat.mul_le_mul_left _ h
    omega
theorem spread_or (v w k : Nat) (h : v < 2 ^ w) : spreadN v w k ||| v * 2 ^ (k * w) = spreadN v w (k + 1) := by
  have := Nat.two_pow_add_eq_or_of_lt (spread_lt v w k h) v
  simp only [spreadN]
  rw [Nat.or_comm, Nat.mul_comm v, ← this, Nat.add_comm]
theorem spread_lane (v w k i : Nat) (h : v < 2 ^ w) (hi : i < k) : laneW (spreadN v w k) w i = v := by
  induction k with
  | zero => omega
  | succ k ih =>
    have hl := spread_lt v w k h
    simp only [spreadN]
    rcases Nat.lt_or_ge i k with h' | h'
    · have e : v * 2 ^ (k * w) = 2 ^ (i * w) * (2 ^ w * (2 ^ ((k - i - 1) * w) * v)) := by
        rw [← Nat.mul_assoc, ← Nat.mul_assoc, ← Nat.pow_add, ← Nat.pow_add, Nat.mul_comm]
        congr 2
        rw [← Nat.succ_mul, ← Nat.add_mul]; congr 1; omega
      have := ih h'
      unfold laneW at this ⊢
      rw [e, Nat.add_mul_div_left _ _ (Nat.two_pow_pos _), Nat.add_mul_mod_self_left, this]
    · obtain rfl : i = k := by omega
      unfold laneW
      rw [Nat.mul_comm v, Nat.add_mul_div_left _ _ (Nat.two_pow_pos _), Nat.div_eq_of_lt hl, Nat.zero_add, Nat.mod_eq_of_lt h]

/-! ### A mask: the highest bit of each lane that f holds of -/
def markN (f : Nat → Bool) (w : Nat) : Nat → Nat
  | 0 => 0
  | k + 1 => if f k then markN f w k ||| 2 ^ (k * w + w - 1) else markN f w k
theorem mark_bit (f : Nat → Bool) (w k p : Nat) (hw : 0 < w) : (markN f w k).testBit p = (decide (p % w = w - 1 ∧ p / w < k) && f (p / w)) := by
  induction k with
  | zero => simp [markN]
  | succ k ih =>
    have key : (k * w + w - 1 = p) ↔ (p % w = w - 1 ∧ p / w = k) := by
      constructor
      · intro e
        have e' : p = w - 1 + w * k := by rw [Nat.mul_comm w]; omega
        rw [e', Nat.add_mul_mod_self_left, Nat.add_mul_div_left _ _ hw, Nat.div_eq_of_lt (by omega), Nat.mod_eq_of_lt (by omega)]; omega
      · rintro ⟨h1, h2⟩
        have := Nat.div_add_mod p w
        rw [h1, h2, Nat.mul_comm] at this
        omega
    simp only [markN]
    by_cases hk : p / w = k
    · by_cases hm : p % w = w - 1
      · have e := key.2 ⟨hm, hk⟩
        cases hf : f k <;> simp [hf, hk, hm, ih, Nat.testBit_or, e]
      · have e : ¬ (k * w + w - 1 = p) := fun e => hm (key.1 e).1
        cases hf : f k <;> simp [hm, ih, Nat.testBit_or, e]
    · have e : ¬ (k * w + w - 1 = p) := fun e => hk (key.1 e).2
      have e2 : p / w < k + 1 ↔ p / w < k := by omega
      cases hf : f k <;> simp [ih, Nat.testBit_or, e, e2]
theorem mark_at (f : Nat → Bool) (w k i : Nat) (hw : 0 < w) (hi : i < k) : (markN f w k).testBit (i * w + w - 1) = f i := by
  have e : i * w + w - 1 = w - 1 + w * i := by rw [Nat.mul_comm w]; omega
  rw [mark_bit _ _ _ _ hw, e, Nat.add_mul_mod_self_left, Nat.add_mul_div_left _ _ hw, Nat.div_eq_of_lt (by omega), Nat.mod_eq_of_lt (by omega)]
  simp [hi]
end Go.Proofs.Ytoephmcmmbhnaac
