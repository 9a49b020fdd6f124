import Ieee.Arith
namespace Go.Proofs.YtdfmaicmbnjilaaDoor.Vl

open Ieee

theorem d_sign : Ieee.double.signWeight = 9223372036854775808 := rfl
theorem d_bin : Ieee.double.binade = 4503599627370496 := rfl
theorem d_inf : Ieee.double.infRung = 9218868437227405312 := rfl
theorem d_least : Ieee.double.leastPlace = -1074 := rfl

/-- The three kinds of words, by the rung. -/
theorem read_small (x : Nat) (h : x % 9223372036854775808 < 4503599627370496) :
    Ieee.double.read x = .number (x / 9223372036854775808 % 2 == 1) (x % 9223372036854775808) (-1074) := by
  unfold Format.read
  simp only [d_sign, d_bin, d_least, h, if_true]
theorem read_mid (x : Nat) (h : ¬ x % 9223372036854775808 < 4503599627370496) (h2 : x % 9223372036854775808 < 9218868437227405312) :
    Ieee.double.read x = .number (x / 9223372036854775808 % 2 == 1) (4503599627370496 + x % 9223372036854775808 % 4503599627370496) (-1074 + ((x % 9223372036854775808 / 4503599627370496 - 1 : Nat) : Int)) := by
  unfold Format.read
  simp only [d_sign, d_bin, d_inf, d_least, h, h2, if_true, if_false]
theorem read_inf (x : Nat) (h : x % 9223372036854775808 = 9218868437227405312) :
    Ieee.double.read x = .infinity (x / 9223372036854775808 % 2 == 1) := by
  unfold Format.read
  simp only [d_sign, d_bin, d_inf, h, if_true]
  rfl
theorem read_nan (x : Nat) (h : 9218868437227405312 < x % 9223372036854775808) :
    ∃ b t, Ieee.double.read x = .nan b t := by
  refine ⟨x / 9223372036854775808 % 2 == 1, x % 9223372036854775808 - 9218868437227405312, ?_⟩
  unfold Format.read
  have h1 : ¬ x % 9223372036854775808 < 4503599627370496 := by omega
  have h2 : ¬ x % 9223372036854775808 < 9218868437227405312 := by omega
  have h3 : ¬ x % 9223372036854775808 = 9218868437227405312 := by omega
  simp only [d_sign, d_bin, d_inf, h1, h2, h3, if_false]

/-- A word below infinity is a number. -/
theorem read_num (x : Nat) (h : x % 9223372036854775808 < 9218868437227405312) :
    ∃ m : Nat, ∃ k : Nat, Ieee.double.read x = .number (x / 9223372036854775808 % 2 == 1) m (-1074 + (k : Int)) ∧ m < 9007199254740992 ∧ k ≤ 2045 ∧ (m = 0 ↔ x % 9223372036854775808 = 0) := by
  by_cases hs : x % 9223372036854775808 < 4503599627370496
  · refine ⟨x % 9223372036854775808, 0, ?_, by omega, by omega, Iff.rfl⟩
    rw [read_small x hs]
    rfl
  · refine ⟨_, _, read_mid x hs h, by omega, by omega, ?_⟩
    constructor <;> intro hh <;> omega

theorem read_zero : Ieee.double.read 0 = .number false 0 (-1074) := rfl
theorem read_max : Ieee.double.read 9218868437227405311 = .number false 9007199254740991 971 := rfl
theorem read_one : Ieee.double.read 4607182418800017408 = .number false 4503599627370496 (-52) := rfl
theorem read_mone : Ieee.double.read 13830554455654793216 = .number true 4503599627370496 (-52) := rfl

theorem signed_zero (b : Bool) (u : Nat) : Ieee.signed b 0 u = 0 := by
  unfold signed
  cases b <;> simp
theorem signed_pos (m u : Nat) (h : 0 < m) : 0 < Ieee.signed false m u := by
  unfold signed
  rw [Nat.shiftLeft_eq]
  have := Nat.two_pow_pos u
  have : 0 < m * 2 ^ u := Nat.mul_pos h this
  simp only [Bool.false_eq_true, if_false]
  omega
theorem signed_neg (m u : Nat) (h : 0 < m) : Ieee.signed true m u < 0 := by
  unfold signed
  rw [Nat.shiftLeft_eq]
  have := Nat.two_pow_pos u
  have : 0 < m * 2 ^ u := Nat.mul_pos h this
  simp only [if_true]
  omega

theorem cmp_lt (a b : Int) : compare a b = .lt ↔ a < b := by
  rw [Int.compare_eq_lt]
theorem cmp_gt (a b : Int) : compare a b = .gt ↔ b < a := by
  rw [Int.compare_eq_gt]
theorem cmp_eq (a b : Int) : compare a b = .eq ↔ a = b := by
  rw [Int.compare_eq_eq]

/-- '== 0'. -/
theorem eq_zero (x : Nat) : (Ieee.double.order x 0 == some .eq) = decide (x % 9223372036854775808 = 0) := by
  unfold Format.order
  rw [read_zero]
  by_cases h : x % 9223372036854775808 < 9218868437227405312
  · obtain ⟨m, k, e, _, _, hm⟩ := read_num x h
    rw [e]
    simp only [Datum.order, signed_zero]
    by_cases h0 : x % 9223372036854775808 = 0
    · have : m = 0 := hm.2 h0
      subst this
      simp only [signed_zero, h0, decide_true]
      rfl
    · have h1 : 0 < m := Nat.pos_of_ne_zero (fun h => h0 (hm.1 h))
      simp only [h0, decide_false]
      cases hb : (x / 9223372036854775808 % 2 == 1) with
      | false =>
        have := signed_pos m ((-1074 + (k : Int)) - min (-1074 + (k : Int)) (-1074)).toNat h1
        rw [(cmp_gt _ _).2 this]
        rfl
      | true =>
        have := signed_neg m ((-1074 + (k : Int)) - min (-1074 + (k : Int)) (-1074)).toNat h1
        rw [(cmp_lt _ _).2 this]
        rfl
  · by_cases h2 : x % 9223372036854775808 = 9218868437227405312
    · rw [read_inf x h2, decide_eq_false (by omega)]
      simp only [Datum.order]
      cases (x / 9223372036854775808 % 2 == 1) <;> rfl
    · obtain ⟨b, t, e⟩ := read_nan x (by omega)
      rw [e, decide_eq_false (by omega)]
      rfl

/-- '!= itself'. -/
theorem ne_self (x : Nat) : (Ieee.double.order x x != some .eq) = decide (9218868437227405312 < x % 9223372036854775808) := by
  unfold Format.order
  by_cases h : x % 9223372036854775808 < 9218868437227405312
  · obtain ⟨m, k, e, _, _, hm⟩ := read_num x h
    rw [e, decide_eq_false (by omega)]
    simp only [Datum.order]
    rw [(cmp_eq _ _).2 rfl]
    rfl
  · by_cases h2 : x % 9223372036854775808 = 9218868437227405312
    · rw [read_inf x h2, decide_eq_false (by omega)]
      simp only [Datum.order]
      cases (x / 9223372036854775808 % 2 == 1) <;> rfl
    · obtain ⟨b, t, e⟩ := read_nan x (by omega)
      rw [e, decide_eq_true (by omega)]
      rfl

/-- '< 0'. -/
theorem lt_zero (x : Nat) : (Ieee.double.order x 0 == some .lt) = (decide (x % 9223372036854775808 ≠ 0) && decide (x % 9223372036854775808 ≤ 9218868437227405312) && (x / 9223372036854775808 % 2 == 1)) := by
  unfold Format.order
  rw [read_zero]
  by_cases h : x % 9223372036854775808 < 9218868437227405312
  · obtain ⟨m, k, e, _, _, hm⟩ := read_num x h
    rw [e]
    simp only [Datum.order, signed_zero]
    rw [decide_eq_true (show x % 9223372036854775808 ≤ 9218868437227405312 by omega)]
    by_cases h0 : x % 9223372036854775808 = 0
    · have : m = 0 := hm.2 h0
      subst this
      simp only [signed_zero, h0]
      rfl
    · have h1 : 0 < m := Nat.pos_of_ne_zero (fun h => h0 (hm.1 h))
      rw [decide_eq_true h0]
      cases hb : (x / 9223372036854775808 % 2 == 1) with
      | false =>
        have := signed_pos m ((-1074 + (k : Int)) - min (-1074 + (k : Int)) (-1074)).toNat h1
        rw [(cmp_gt _ _).2 this]
        rfl
      | true =>
        have := signed_neg m ((-1074 + (k : Int)) - min (-1074 + (k : Int)) (-1074)).toNat h1
        rw [(cmp_lt _ _).2 this]
        rfl
  · by_cases h2 : x % 9223372036854775808 = 9218868437227405312
    · rw [read_inf x h2, decide_eq_true (show x % 9223372036854775808 ≠ 0 by omega), decide_eq_true (show x % 9223372036854775808 ≤ 9218868437227405312 by omega)]
      simp only [Datum.order]
      cases (x / 9223372036854775808 % 2 == 1) <;> rfl
    · obtain ⟨b, t, e⟩ := read_nan x (by omega)
      rw [e, decide_eq_false (show ¬ x % 9223372036854775808 ≤ 9218868437227405312 by omega)]
      simp only [Bool.and_false, Bool.false_and]
      rfl

/-- '> MaxFloat64', of a word without a sign. -/
theorem gt_max (x : Nat) (hx : x < 9223372036854775808) : (Ieee.double.order x 9218868437227405311 == some .gt) = decide (x = 9218868437227405312) := by
  have hxm : x % 9223372036854775808 = x := Nat.mod_eq_of_lt hx
  have hb : (x / 9223372036854775808 % 2 == 1) = false := by
    rw [Nat.div_eq_of_lt hx]
    rfl
  unfold Format.order
  rw [read_max]
  by_cases h : x < 9218868437227405312
  · obtain ⟨m, k, e, hm, hk, _⟩ := read_num x (by omega)
    rw [e, hb, decide_eq_false (by omega)]
    simp only [Datum.order]
    have hmin : min (-1074 + (k : Int)) (971 : Int) = -1074 + (k : Int) := by omega
    rw [hmin]
    have h1 : (-1074 + (k : Int) - (-1074 + (k : Int))).toNat = 0 := by omega
    have h2 : ((971 : Int) - (-1074 + (k : Int))).toNat = 2045 - k := by omega
    rw [h1, h2]
    have h3 : m * 2 ^ 0 ≤ 9007199254740991 * 2 ^ (2045 - k) := by
      have := Nat.two_pow_pos (2045 - k)
      have : 9007199254740991 * 1 ≤ 9007199254740991 * 2 ^ (2045 - k) := Nat.mul_le_mul_left _ this
      omega
    have h4 : ¬ Ieee.signed false 9007199254740991 (2045 - k) < Ieee.signed false m 0 := by
      unfold signed
      rw [Nat.shiftLeft_eq, Nat.shiftLeft_eq]
      simp only [Bool.false_eq_true, if_false]
      omega
    cases hc : compare (Ieee.signed false m 0) (Ieee.signed false 9007199254740991 (2045 - k)) with
    | gt => exact absurd ((cmp_gt _ _).1 hc) h4
    | lt => rfl
    | eq => rfl
  · by_cases h2 : x = 9218868437227405312
    · subst h2
      rfl
    · obtain ⟨b, t, e⟩ := read_nan x (by omega)
      rw [e, decide_eq_false h2]
      rfl

theorem log_mul (m : Nat) (hm : 0 < m) : (m * 4503599627370496).log2 = m.log2 + 52 := by
  have h : m * 4503599627370496 ≠ 0 := by omega
  have h0 : m ≠ 0 := by omega
  have hp := (Nat.le_log2 h0).1 (Nat.le_refl m.log2)
  have hq : m < 2 ^ (m.log2 + 1) := Nat.lt_log2_self
  apply Nat.le_antisymm
  · have : (m * 4503599627370496).log2 < m.log2 + 52 + 1 := by
      rw [Nat.log2_lt h]
      have : 2 ^ (m.log2 + 52 + 1) = 2 ^ (m.log2 + 1) * 4503599627370496 := by
        rw [show m.log2 + 52 + 1 = m.log2 + 1 + 52 by omega, Nat.pow_add]
      omega
    omega
  · rw [Nat.le_log2 h, Nat.pow_add]
    omega

theorem log_small (m : Nat) (hm : m < 4503599627370496) (h0 : 0 < m) : m.log2 < 52 := by
  rw [Nat.log2_lt (by omega)]
  exact hm
theorem log_full (m : Nat) (hm : m < 9007199254740992) (h0 : 4503599627370496 ≤ m) : m.log2 = 52 := by
  apply Nat.le_antisymm
  · have : m.log2 < 53 := by
      rw [Nat.log2_lt (by omega)]
      exact hm
    omega
  · rw [Nat.le_log2 (by omega)]
    exact h0

/-- What is written of 'm * 2^52' at the place 52 below. -/
theorem cut_full (b : Bool) (m : Nat) (hm : 0 < m) : Toward.even.cut b (m * 4503599627370496) 52 = m := by
  unfold Toward.cut
  rw [log_mul m hm, Nat.min_eq_left (by omega)]
  simp only
  rw [show 1 <<< 52 = 4503599627370496 from rfl, Nat.mul_div_cancel _ (by decide), Nat.mul_mod_left]
  rfl

theorem near_back (b : Bool) (m k : Nat) (hm : 0 < m) (hlt : m < 9007199254740992) (hk : k ≤ 2045) (hfull : k ≠ 0 → 4503599627370496 ≤ m) :
    Ieee.double.nearest b (m * 4503599627370496) (-1074 + (k : Int) + -52) = Ieee.double.word b (min (k * 4503599627370496 + m) 9218868437227405312) := by
  unfold Format.nearest
  rw [if_neg (by omega), log_mul m hm, d_least, d_bin, d_inf, show (Ieee.double.fractionBits : Int) = 52 from rfl]
  have hlog : m.log2 ≤ 52 := by
    have : m.log2 < 53 := by
      rw [Nat.log2_lt (by omega)]
      exact hlt
    omega
  have hk2 : k ≠ 0 → m.log2 = 52 := fun h => log_full m hlt (hfull h)
  have e : max (-1074 + (k : Int) + -52 + ((m.log2 + 52 : Nat) : Int) - 52) (-1074) = -1074 + (k : Int) := by
    by_cases h : k = 0
    · subst h
      omega
    · rw [hk2 h]
      omega
  simp only [e]
  rw [show (-1074 + (k : Int) + -52 - (-1074 + (k : Int))).toNat = 0 by omega, show (-1074 + (k : Int) - (-1074 + (k : Int) + -52)).toNat = 52 by omega, show (-1074 + (k : Int) - -1074).toNat = k by omega, Nat.shiftLeft_zero, cut_full b m hm]

/-- A word without a sign, times one, times minus one. -/
theorem mul_unit (b : Bool) (y x : Nat) (hy : Ieee.double.read y = .number b 4503599627370496 (-52)) (hx : x < 9218868437227405312) (h0 : 0 < x) :
    Ieee.double.mul x y = some (Ieee.double.word b x) := by
  have hxm : x % 9223372036854775808 = x := Nat.mod_eq_of_lt (by omega)
  have hb : (x / 9223372036854775808 % 2 == 1) = false := by
    rw [Nat.div_eq_of_lt (by omega)]
    rfl
  unfold Format.mul
  by_cases h : x < 4503599627370496
  · rw [read_small x (by omega), hxm, hb, hy]
    simp only [Datum.product, Option.map_some, Format.write, Bool.false_xor]
    have := near_back b x 0 h0 (by omega) (by omega) (fun h => absurd rfl h)
    rw [show (-1074 + ((0 : Nat) : Int) + -52) = -1074 + -52 from rfl] at this
    rw [this]
    congr 2
    omega
  · rw [read_mid x (by omega) (by omega), hxm, hb, hy]
    simp only [Datum.product, Option.map_some, Format.write, Bool.false_xor]
    rw [near_back b _ _ (by omega) (by omega) (by omega) (fun _ => by omega)]
    congr 2
    omega
theorem mul_zero (b : Bool) (y : Nat) (hy : Ieee.double.read y = .number b 4503599627370496 (-52)) :
    Ieee.double.mul 0 y = some (Ieee.double.word b 0) := by
  unfold Format.mul
  rw [read_zero, hy]
  simp only [Datum.product, Option.map_some, Format.write, Bool.false_xor, Nat.zero_mul]
  unfold Format.nearest
  rw [if_pos rfl]
end Go.Proofs.YtdfmaicmbnjilaaDoor.Vl
