/-
  Numbers that a float64 has, made one; 0 less a float.
-/
import Derived.Test.YtdfmaicmbnjilaaDoorWFlt
namespace Go.Proofs.YtdfmaicmbnjilaaDoor
namespace Wd
open Ieee Vl

theorem cut_zero (b : Bool) (n : Nat) : Toward.even.cut b n 0 = n := by
  unfold Toward.cut
  rw [Nat.zero_min]
  simp [Nat.mod_one]
theorem near_val (b : Bool) (m k : Nat) (hm : 0 < m) (hlt : m < 9007199254740992) (hk : k ≤ 2045) :
    ∃ r, Ieee.double.nearest b m (-1074 + (k : Int)) = Ieee.double.word b r ∧ r < 9218868437227405312 ∧ uv r = m * 2 ^ k := by
  have h2 : 2 ^ m.log2 ≤ m := Nat.log2_self_le (by omega)
  have h3 : m < 2 ^ (m.log2 + 1) := Nat.lt_log2_self
  have hl : m.log2 ≤ 52 := by
    have : m.log2 < 53 := by rw [Nat.log2_lt (by omega)]; exact hlt
    omega
  unfold Format.nearest
  rw [if_neg (by omega), d_least, d_bin, d_inf, show (Ieee.double.fractionBits : Int) = 52 from rfl]
  generalize m.log2 = l at *
  by_cases h : 52 ≤ k + l
  · obtain ⟨j, hj⟩ : ∃ j, k + l = 52 + j := ⟨k + l - 52, by omega⟩
    have e : max (-1074 + (k : Int) + (l : Int) - 52) (-1074) = -1074 + (j : Int) := by omega
    simp only [e]
    rw [show (-1074 + (k : Int) - (-1074 + (j : Int))).toNat = 52 - l by omega, show (-1074 + (j : Int) - (-1074 + (k : Int))).toNat = 0 by omega, show (-1074 + (j : Int) - -1074).toNat = j by omega, cut_zero, Nat.shiftLeft_eq]
    have a1 : 2 ^ l * 2 ^ (52 - l) = 4503599627370496 := by rw [← Nat.pow_add, show l + (52 - l) = 52 by omega]
    have a2 : 4503599627370496 ≤ m * 2 ^ (52 - l) := by rw [← a1]; exact Nat.mul_le_mul_right _ h2
    have a3 : m * 2 ^ (52 - l) < 9007199254740992 := by
      have h5 : m * 2 ^ (52 - l) < 2 ^ (l + 1) * 2 ^ (52 - l) := Nat.mul_lt_mul_of_pos_right h3 (Nat.two_pow_pos _)
      rw [Nat.pow_succ, Nat.mul_right_comm, a1] at h5
      exact h5
    have a4 : m * 2 ^ (52 - l) * 2 ^ j = m * 2 ^ k := by rw [Nat.mul_assoc, ← Nat.pow_add, show 52 - l + j = k by omega]
    generalize m * 2 ^ (52 - l) = q at *
    refine ⟨j * 4503599627370496 + q, ?_, by omega, ?_⟩
    · congr 1; exact Nat.min_eq_left (by omega)
    · unfold uv
      rw [if_neg (by omega), show (j * 4503599627370496 + q) % 4503599627370496 = q - 4503599627370496 by omega, show (j * 4503599627370496 + q) / 4503599627370496 - 1 = j by omega, show 4503599627370496 + (q - 4503599627370496) = q by omega, a4]
  · have e : max (-1074 + (k : Int) + (l : Int) - 52) (-1074) = -1074 := by omega
    simp only [e]
    rw [show (-1074 + (k : Int) - -1074).toNat = k by omega, show (-1074 - (-1074 + (k : Int))).toNat = 0 by omega, show ((-1074 : Int) - -1074).toNat = 0 by omega, cut_zero, Nat.shiftLeft_eq]
    have a3 : m * 2 ^ k < 4503599627370496 := by
      have h5 : m * 2 ^ k < 2 ^ (l + 1) * 2 ^ k := Nat.mul_lt_mul_of_pos_right h3 (Nat.two_pow_pos _)
      have h6 : 2 ^ (l + 1) * 2 ^ k ≤ 2 ^ 52 := by rw [← Nat.pow_add]; exact Nat.pow_le_pow_right (by decide) (by omega)
      exact Nat.lt_of_lt_of_le h5 h6
    obtain ⟨q, hq⟩ : ∃ q, m * 2 ^ k = q := ⟨_, rfl⟩
    rw [hq] at a3 ⊢
    refine ⟨q, ?_, by omega, ?_⟩
    · congr 1; rw [Nat.zero_mul, Nat.zero_add]; exact Nat.min_eq_left (by omega)
    · unfold uv; rw [if_pos a3]
theorem sv_word (b : Bool) {r : Nat} (h : r < 9218868437227405312) : (Ieee.double.word b r) % 9223372036854775808 < 9218868437227405312 ∧ sv (Ieee.double.word b r) = if b = true then -(uv r : Int) else (uv r : Int) := by
  unfold Format.word
  rw [d_sign]
  cases b
  · simp only [Bool.false_eq_true, if_false]
    exact ⟨by omega, sv_pos (by omega)⟩
  · simp only [if_true]
    exact ⟨by omega, by rw [Nat.add_comm]; exact sv_neg (by omega)⟩
/-- A number of at most 53 bits, made a float. -/
theorem float_int {i : Int} (h1 : -9007199254740992 < i) (h2 : i < 9007199254740992) {k : Nat} (hk : k = 1074) : floatOfInt .f64 i % 9223372036854775808 < 9218868437227405312 ∧ sv (floatOfInt .f64 i) = i * ((2 ^ k : Nat) : Int) := by
  by_cases h0 : i = 0
  · subst h0
    have e0 : floatOfInt .f64 0 = 0 := by rfl
    rw [Int.zero_mul, e0, sv_pos (by omega)]
    exact ⟨by omega, by rfl⟩
  · have e : floatOfInt .f64 i = Ieee.double.nearest (decide (i < 0)) i.natAbs (-1074 + (k : Int)) := by
      rw [show -1074 + (k : Int) = 0 by omega]; rfl
    rw [e]
    obtain ⟨r, h3, h4, h5⟩ := near_val (decide (i < 0)) i.natAbs k (by omega) (by omega) (by omega)
    rw [h3]
    obtain ⟨h6, h7⟩ := sv_word (decide (i < 0)) h4
    refine ⟨h6, ?_⟩
    rw [h7, h5, Int.natCast_mul]
    by_cases hn : i < 0
    · rw [if_pos (decide_eq_true hn), ← Int.neg_mul, show -(i.natAbs : Int) = i by omega]
    · rw [if_neg (by simpa using hn), show (i.natAbs : Int) = i by omega]
theorem cut_shift (b : Bool) (m k : Nat) (hm : 0 < m) : Toward.even.cut b (m * 2 ^ k) k = m := by
  have hp := Nat.two_pow_pos k
  have hl : k ≤ (m * 2 ^ k).log2 := by
    rw [Nat.le_log2 (by have := Nat.mul_pos hm hp; omega)]
    exact Nat.le_mul_of_pos_left _ hm
  unfold Toward.cut
  rw [Nat.min_eq_left (by omega), Nat.one_shiftLeft]
  simp only [Nat.mul_div_cancel _ hp, Nat.mul_mod_left]
  have h1 : ¬ 2 ^ k < 2 * 0 := by omega
  have h2 : (2 ^ k == 2 * 0) = false := by rw [Nat.mul_zero]; exact beq_false_of_ne (by omega)
  simp only [h1, h2, decide_false, Bool.false_and, Bool.or_false, Bool.toNat_false, Nat.add_zero]
/-- 0 less a float of full size is the float with the other sign. -/
theorem near_shift (b : Bool) (m k : Nat) (h1 : 4503599627370496 ≤ m) (h2 : m < 9007199254740992) (hk : k ≤ 2045) :
    Ieee.double.nearest b (m * 2 ^ k) (-1074) = Ieee.double.word b (min (k * 4503599627370496 + m) 9218868437227405312) := by
  have hp := Nat.two_pow_pos k
  have hmp := Nat.mul_pos (show 0 < m by omega) hp
  have hlog : (m * 2 ^ k).log2 = 52 + k := by
    rw [Nat.log2_eq_iff (by omega), Nat.pow_succ, Nat.pow_add]
    refine ⟨Nat.mul_le_mul_right _ h1, ?_⟩
    rw [Nat.mul_right_comm]
    exact Nat.mul_lt_mul_of_pos_right h2 hp
  unfold Format.nearest
  rw [if_neg (by omega), hlog, d_least, d_bin, d_inf, show (Ieee.double.fractionBits : Int) = 52 from rfl]
  have e : max (-1074 + ((52 + k : Nat) : Int) - 52) (-1074) = -1074 + (k : Int) := by omega
  simp only [e]
  rw [show (-1074 - (-1074 + (k : Int))).toNat = 0 by omega, show (-1074 + (k : Int) - -1074).toNat = k by omega, Nat.shiftLeft_zero, cut_shift b m k (by omega)]
theorem sub_word {x : Nat} (h1 : 4503599627370496 ≤ x) (h2 : x < 9218868437227405312) (s : Bool) : Ieee.double.sub 0 (Ieee.double.word s x) = some (Ieee.double.word (!s) x) := by
  have hr : Ieee.double.read (Ieee.double.word s x) = .number s (4503599627370496 + x % 4503599627370496) (-1074 + ((x / 4503599627370496 - 1 : Nat) : Int)) := by
    unfold Format.word
    rw [d_sign]
    cases s
    · simp only [Bool.false_eq_true, if_false]
      rw [read_mid x (by omega) (by omega), show (x / 9223372036854775808 % 2 == 1) = false by rw [Nat.div_eq_of_lt (by omega)]; rfl, Nat.mod_eq_of_lt (show x < 9223372036854775808 by omega)]
    · simp only [if_true]
      rw [read_mid _ (by omega) (by omega), show ((9223372036854775808 + x) / 9223372036854775808 % 2 == 1) = true by rw [show (9223372036854775808 + x) / 9223372036854775808 % 2 = 1 by omega]; rfl, show (9223372036854775808 + x) % 9223372036854775808 = x by omega]
  unfold Format.sub
  rw [read_zero, hr]
  obtain ⟨m, hm⟩ : ∃ m, 4503599627370496 + x % 4503599627370496 = m := ⟨_, rfl⟩
  obtain ⟨k, hk⟩ : ∃ k, x / 4503599627370496 - 1 = k := ⟨_, rfl⟩
  rw [hm, hk]
  have hx : k * 4503599627370496 + m = x := by omega
  simp only [Datum.opposite, Datum.sum]
  rw [show min (-1074 : Int) (-1074 + (k : Int)) = -1074 by omega, show (-1074 + (k : Int) - -1074).toNat = k by omega, signed_zero, Int.zero_add, signed_val]
  have hp : 0 < m * 2 ^ k := Nat.mul_pos (by omega) (Nat.two_pow_pos _)
  have key : ∀ b : Bool, (if b = true then -((m * 2 ^ k : Nat) : Int) else ((m * 2 ^ k : Nat) : Int)) ≠ 0 ∧ decide ((if b = true then -((m * 2 ^ k : Nat) : Int) else ((m * 2 ^ k : Nat) : Int)) < 0) = b ∧ (if b = true then -((m * 2 ^ k : Nat) : Int) else ((m * 2 ^ k : Nat) : Int)).natAbs = m * 2 ^ k := by
    intro b
    generalize m * 2 ^ k = q at *
    cases b
    · simp only [Bool.false_eq_true, if_false]
      exact ⟨by omega, decide_eq_false (by omega), by omega⟩
    · simp only [if_true]
      exact ⟨by omega, decide_eq_true (by omega), by omega⟩
  obtain ⟨k1, k2, k3⟩ := key (!s)
  rw [if_neg k1, k2, k3]
  show some (Ieee.double.nearest (!s) (m * 2 ^ k) (-1074)) = _
  rw [near_shift (!s) m k (by omega) (by omega) (by omega), hx, Nat.min_eq_left (by omega)]
theorem order_self {x : Nat} (h : x % 9223372036854775808 < 9218868437227405312) : (Ieee.double.order x x == some .eq) = true := by
  rw [ord_fin h h, (cmp_eq _ _).2 rfl]; rfl
theorem order_sv {x y : Nat} (hx : x % 9223372036854775808 < 9218868437227405312) (hy : y % 9223372036854775808 < 9218868437227405312) (h : sv x = sv y) : (Ieee.double.order x y == some .eq) = true := by
  rw [ord_fin hx hy, (cmp_eq _ _).2 h]; rfl
end Wd
end Go.Proofs.YtdfmaicmbnjilaaDoor
