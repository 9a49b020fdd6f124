import Ieee.Arith
import Derived.Test.YtlidolocibfbgaaGreatDoorRows
import Derived.WalkKit
import Derived.WalkSpells
import Derived.WalkLawsBesides
import Derived.Deep.QuietTactic
import Derived.Deep.RegionHeld3
import Derived.BigQuiet
import Derived.Below
import Derived.WalkSmall
import Derived.Laws.BitsAllLaws
import Derived.RangeFuncBox
namespace Go.Proofs.YtlidolocibfbgaaGreatDoor.Vl

open Ieee

theorem d_sign : Ieee.double.signWeight = 9223372036854775808 := rfl
theorem d_bin : Ieee.double.binade = 4503599627370496 := rfl
theorem d_inf : Ieee.double.infRung = 9218868437227405312 := rfl
theorem d_least : Ieee.double.leastPlace = -1074 := rfl

/-- The three kinds of words, by the rung. -/
theorem read_small (x : Nat) (h : x % 9223372036854775808 < 4503599627370496) :
    Ieee.double.read x = .number (x / 9223372036854775808 % 2 == 1) (x % 9223372036854775808) (-1074) := by
  unfold Format.read
  simp only [d_sign, d_bin, d_least, h, if_true]
theorem read_mid (x : Nat) (h : ¬ x % 9223372036854775808 < 4503599627370496) (h2 : x % 9223372036854775808 < 9218868437227405312) :
    Ieee.double.read x = .number (x / 9223372036854775808 % 2 == 1) (4503599627370496 + x % 9223372036854775808 % 4503599627370496) (-1074 + ((x % 9223372036854775808 / 4503599627370496 - 1 : Nat) : Int)) := by
  unfold Format.read
  simp only [d_sign, d_bin, d_inf, d_least, h, h2, if_true, if_false]
theorem read_inf (x : Nat) (h : x % 9223372036854775808 = 9218868437227405312) :
    Ieee.double.read x = .infinity (x / 9223372036854775808 % 2 == 1) := by
  unfold Format.read
  simp only [d_sign, d_bin, d_inf, h, if_true]
  rfl
theorem read_nan (x : Nat) (h : 9218868437227405312 < x % 9223372036854775808) :
    ∃ b t, Ieee.double.read x = .nan b t := by
  refine ⟨x / 9223372036854775808 % 2 == 1, x % 9223372036854775808 - 9218868437227405312, ?_⟩
  unfold Format.read
  have h1 : ¬ x % 9223372036854775808 < 4503599627370496 := by omega
  have h2 : ¬ x % 9223372036854775808 < 9218868437227405312 := by omega
  have h3 : ¬ x % 9223372036854775808 = 9218868437227405312 := by omega
  simp only [d_sign, d_bin, d_inf, h1, h2, h3, if_false]

/-- A word below infinity is a number. -/
theorem read_num (x : Nat) (h : x % 9223372036854775808 < 9218868437227405312) :
    ∃ m : Nat, ∃ k : Nat, Ieee.double.read x = .number (x / 9223372036854775808 % 2 == 1) m (-1074 + (k : Int)) ∧ m < 9007199254740992 ∧ k ≤ 2045 ∧ (m = 0 ↔ x % 9223372036854775808 = 0) := by
  by_cases hs : x % 9223372036854775808 < 4503599627370496
  · refine ⟨x % 9223372036854775808, 0, ?_, by omega, by omega, Iff.rfl⟩
    rw [read_small x hs]
    rfl
  · refine ⟨_, _, read_mid x hs h, by omega, by omega, ?_⟩
    constructor <;> intro hh <;> omega

theorem read_zero : Ieee.double.read 0 = .number false 0 (-1074) := rfl
theorem read_max : Ieee.double.read 9218868437227405311 = .number false 9007199254740991 971 := rfl
theorem read_one : Ieee.double.read 4607182418800017408 = .number false 4503599627370496 (-52) := rfl
theorem read_mone : Ieee.double.read 13830554455654793216 = .number true 4503599627370496 (-52) := rfl

theorem signed_zero (b : Bool) (u : Nat) : Ieee.signed b 0 u = 0 := by
  unfold signed
  cases b <;> simp
theorem signed_pos (m u : Nat) (h : 0 < m) : 0 < Ieee.signed false m u := by
  unfold signed
  rw [Nat.shiftLeft_eq]
  have := Nat.two_pow_pos u
  have : 0 < m * 2 ^ u := Nat.mul_pos h this
  simp only [Bool.false_eq_true, if_false]
  omega
theorem signed_neg (m u : Nat) (h : 0 < m) : Ieee.signed true m u < 0 := by
  unfold signed
  rw [Nat.shiftLeft_eq]
  have := Nat.two_pow_pos u
  have : 0 < m * 2 ^ u := Nat.mul_pos h this
  simp only [if_true]
  omega

theorem cmp_lt (a b : Int) : compare a b = .lt ↔ a < b := by
  rw [Int.compare_eq_lt]
theorem cmp_gt (a b : Int) : compare a b = .gt ↔ b < a := by
  rw [Int.compare_eq_gt]
theorem cmp_eq (a b : Int) : compare a b = .eq ↔ a = b := by
  rw [Int.compare_eq_eq]

/-- '== 0'. -/
theorem eq_zero (x : Nat) : (Ieee.double.order x 0 == some .eq) = decide (x % 9223372036854775808 = 0) := by
  unfold Format.order
  rw [read_zero]
  by_cases h : x % 9223372036854775808 < 9218868437227405312
  · obtain ⟨m, k, e, _, _, hm⟩ := read_num x h
    rw [e]
    simp only [Datum.order, signed_zero]
    by_cases h0 : x % 9223372036854775808 = 0
    · have : m = 0 := hm.2 h0
      subst this
      simp only [signed_zero, h0, decide_true]
      rfl
    · have h1 : 0 < m := Nat.pos_of_ne_zero (fun h => h0 (hm.1 h))
      simp only [h0, decide_false]
      cases hb : (x / 9223372036854775808 % 2 == 1) with
      | false =>
        have := signed_pos m ((-1074 + (k : Int)) - min (-1074 + (k : Int)) (-1074)).toNat h1
        rw [(cmp_gt _ _).2 this]
        rfl
      | true =>
        have := signed_neg m ((-1074 + (k : Int)) - min (-1074 + (k : Int)) (-1074)).toNat h1
        rw [(cmp_lt _ _).2 this]
        rfl
  · by_cases h2 : x % 9223372036854775808 = 9218868437227405312
    · rw [read_inf x h2, decide_eq_false (by omega)]
      simp only [Datum.order]
      cases (x / 9223372036854775808 % 2 == 1) <;> rfl
    · obtain ⟨b, t, e⟩ := read_nan x (by omega)
      rw [e, decide_eq_false (by omega)]
      rfl

/-- '!= itself'. -/
theorem ne_self (x : Nat) : (Ieee.double.order x x != some .eq) = decide (9218868437227405312 < x % 9223372036854775808) := by
  unfold Format.order
  by_cases h : x % 9223372036854775808 < 9218868437227405312
  · obtain ⟨m, k, e, _, _, hm⟩ := read_num x h
    rw [e, decide_eq_false (by omega)]
    simp only [Datum.order]
    rw [(cmp_eq _ _).2 rfl]
    rfl
  · by_cases h2 : x % 9223372036854775808 = 9218868437227405312
    · rw [read_inf x h2, decide_eq_false (by omega)]
      simp only [Datum.order]
      cases (x / 9223372036854775808 % 2 == 1) <;> rfl
    · obtain ⟨b, t, e⟩ := read_nan x (by omega)
      rw [e, decide_eq_true (by omega)]
      rfl

/-- '< 0'. -/
theorem lt_zero (x : Nat) : (Ieee.double.order x 0 == some .lt) = (decide (x % 9223372036854775808 ≠ 0) && decide (x % 9223372036854775808 ≤ 9218868437227405312) && (x / 9223372036854775808 % 2 == 1)) := by
  unfold Format.order
  rw [read_zero]
  by_cases h : x % 9223372036854775808 < 9218868437227405312
  · obtain ⟨m, k, e, _, _, hm⟩ := read_num x h
    rw [e]
    simp only [Datum.order, signed_zero]
    rw [decide_eq_true (show x % 9223372036854775808 ≤ 9218868437227405312 by omega)]
    by_cases h0 : x % 9223372036854775808 = 0
    · have : m = 0 := hm.2 h0
      subst this
      simp only [signed_zero, h0]
      rfl
    · have h1 : 0 < m := Nat.pos_of_ne_zero (fun h => h0 (hm.1 h))
      rw [decide_eq_true h0]
      cases hb : (x / 9223372036854775808 % 2 == 1) with
      | false =>
        have := signed_pos m ((-1074 + (k : Int)) - min (-1074 + (k : Int)) (-1074)).toNat h1
        rw [(cmp_gt _ _).2 this]
        rfl
      | true =>
        have := signed_neg m ((-1074 + (k : Int)) - min (-1074 + (k : Int)) (-1074)).toNat h1
        rw [(cmp_lt _ _).2 this]
        rfl
  · by_cases h2 : x % 9223372036854775808 = 9218868437227405312
    · rw [read_inf x h2, decide_eq_true (show x % 9223372036854775808 ≠ 0 by omega), decide_eq_true (show x % 9223372036854775808 ≤ 9218868437227405312 by omega)]
      simp only [Datum.order]
      cases (x / 9223372036854775808 % 2 == 1) <;> rfl
    · obtain ⟨b, t, e⟩ := read_nan x (by omega)
      rw [e, decide_eq_false (show ¬ x % 9223372036854775808 ≤ 9218868437227405312 by omega)]
      simp only [Bool.and_false, Bool.false_and]
      rfl

/-- '> MaxFloat64', of a word without a sign. -/
theorem gt_max (x : Nat) (hx : x < 9223372036854775808) : (Ieee.double.order x 9218868437227405311 == some .gt) = decide (x = 9218868437227405312) := by
  have hxm : x % 9223372036854775808 = x := Nat.mod_eq_of_lt hx
  have hb : (x / 9223372036854775808 % 2 == 1) = false := by
    rw [Nat.div_eq_of_lt hx]
    rfl
  unfold Format.order
  rw [read_max]
  by_cases h : x < 9218868437227405312
  · obtain ⟨m, k, e, hm, hk, _⟩ := read_num x (by omega)
    rw [e, hb, decide_eq_false (by omega)]
    simp only [Datum.order]
    have hmin : min (-1074 + (k : Int)) (971 : Int) = -1074 + (k : Int) := by omega
    rw [hmin]
    have h1 : (-1074 + (k : Int) - (-1074 + (k : Int))).toNat = 0 := by omega
    have h2 : ((971 : Int) - (-1074 + (k : Int))).toNat = 2045 - k := by omega
    rw [h1, h2]
    have h3 : m * 2 ^ 0 ≤ 9007199254740991 * 2 ^ (2045 - k) := by
      have := Nat.two_pow_pos (2045 - k)
      have : 9007199254740991 * 1 ≤ 9007199254740991 * 2 ^ (2045 - k) := Nat.mul_le_mul_left _ this
      omega
    have h4 : ¬ Ieee.signed false 9007199254740991 (2045 - k) < Ieee.signed false m 0 := by
      unfold signed
      rw [Nat.shiftLeft_eq, Nat.shiftLeft_eq]
      simp only [Bool.false_eq_true, if_false]
      omega
    cases hc : compare (Ieee.signed false m 0) (Ieee.signed false 9007199254740991 (2045 - k)) with
    | gt => exact absurd ((cmp_gt _ _).1 hc) h4
    | lt => rfl
    | eq => rfl
  · by_cases h2 : x = 9218868437227405312
    · subst h2
      rfl
    · obtain ⟨b, t, e⟩ := read_nan x (by omega)
      rw [e, decide_eq_false h2]
      rfl

theorem log_mul (m : Nat) (hm : 0 < m) : (m * 4503599627370496).log2 = m.log2 + 52 := by
  have h : m * 4503599627370496 ≠ 0 := by omega
  have h0 : m ≠ 0 := by omega
  have hp := (Nat.le_log2 h0).1 (Nat.le_refl m.log2)
  have hq : m < 2 ^ (m.log2 + 1) := Nat.lt_log2_self
  apply Nat.le_antisymm
  · have : (m * 4503599627370496).log2 < m.log2 + 52 + 1 := by
      rw [Nat.log2_lt h]
      have : 2 ^ (m.log2 + 52 + 1) = 2 ^ (m.log2 + 1) * 4503599627370496 := by
        rw [show m.log2 + 52 + 1 = m.log2 + 1 + 52 by omega, Nat.pow_add]
      omega
    omega
  · rw [Nat.le_log2 h, Nat.pow_add]
    omega

theorem log_small (m : Nat) (hm : m < 4503599627370496) (h0 : 0 < m) : m.log2 < 52 := by
  rw [Nat.log2_lt (by omega)]
  exact hm
theorem log_full (m : Nat) (hm : m < 9007199254740992) (h0 : 4503599627370496 ≤ m) : m.log2 = 52 := by
  apply Nat.le_antisymm
  · have : m.log2 < 53 := by
      rw [Nat.log2_lt (by omega)]
      exact hm
    omega
  · rw [Nat.le_log2 (by omega)]
    exact h0

/-- What is written of 'm * 2^52' at the place 52 below. -/
theorem cut_full (b : Bool) (m : Nat) (hm : 0 < m) : Toward.even.cut b (m * 4503599627370496) 52 = m := by
  unfold Toward.cut
  rw [log_mul m hm, Nat.min_eq_left (by omega)]
  simp only
  rw [show 1 <<< 52 = 4503599627370496 from rfl, Nat.mul_div_cancel _ (by decide), Nat.mul_mod_left]
  rfl

theorem near_back (b : Bool) (m k : Nat) (hm : 0 < m) (hlt : m < 9007199254740992) (hk : k ≤ 2045) (hfull : k ≠ 0 → 4503599627370496 ≤ m) :
    Ieee.double.nearest b (m * 4503599627370496) (-1074 + (k : Int) + -52) = Ieee.double.word b (min (k * 4503599627370496 + m) 9218868437227405312) := by
  unfold Format.nearest
  rw [if_neg (by omega), log_mul m hm, d_least, d_bin, d_inf, show (Ieee.double.fractionBits : Int) = 52 from rfl]
  have hlog : m.log2 ≤ 52 := by
    have : m.log2 < 53 := by
      rw [Nat.log2_lt (by omega)]
      exact hlt
    omega
  have hk2 : k ≠ 0 → m.log2 = 52 := fun h => log_full m hlt (hfull h)
  have e : max (-1074 + (k : Int) + -52 + ((m.log2 + 52 : Nat) : Int) - 52) (-1074) = -1074 + (k : Int) := by
    by_cases h : k = 0
    · subst h
      omega
    · rw [hk2 h]
      omega
  simp only [e]
  rw [show (-1074 + (k : Int) + -52 - (-1074 + (k : Int))).toNat = 0 by omega, show (-1074 + (k : Int) - (-1074 + (k : Int) + -52)).toNat = 52 by omega, show (-1074 + (k : Int) - -1074).toNat = k by omega, Nat.shiftLeft_zero, cut_full b m hm]

/-- A word without a sign, times one, times minus one. -/
theorem mul_unit (b : Bool) (y x : Nat) (hy : Ieee.double.read y = .number b 4503599627370496 (-52)) (hx : x < 9218868437227405312) (h0 : 0 < x) :
    Ieee.double.mul x y = some (Ieee.double.word b x) := by
  have hxm : x % 9223372036854775808 = x := Nat.mod_eq_of_lt (by omega)
  have hb : (x / 9223372036854775808 % 2 == 1) = false := by
    rw [Nat.div_eq_of_lt (by omega)]
    rfl
  unfold Format.mul
  by_cases h : x < 4503599627370496
  · rw [read_small x (by omega), hxm, hb, hy]
    simp only [Datum.product, Option.map_some, Format.write, Bool.false_xor]
    have := near_back b x 0 h0 (by omega) (by omega) (fun h => absurd rfl h)
    rw [show (-1074 + ((0 : Nat) : Int) + -52) = -1074 + -52 from rfl] at this
    rw [this]
    congr 2
    omega
  · rw [read_mid x (by omega) (by omega), hxm, hb, hy]
    simp only [Datum.product, Option.map_some, Format.write, Bool.false_xor]
    rw [near_back b _ _ (by omega) (by omega) (by omega) (fun _ => by omega)]
    congr 2
    omega
theorem mul_zero (b : Bool) (y : Nat) (hy : Ieee.double.read y = .number b 4503599627370496 (-52)) :
    Ieee.double.mul 0 y = some (Ieee.double.word b 0) := by
  unfold Format.mul
  rw [read_zero, hy]
  simp only [Datum.product, Option.map_some, Format.write, Bool.false_xor, Nat.zero_mul]
  unfold Format.nearest
  rw [if_pos rfl]
end Go.Proofs.YtlidolocibfbgaaGreatDoor.Vl

/-
  THE LEAVES: floats looked at.
-/
namespace Go.Proofs.YtlidolocibfbgaaGreatDoor.Vl
open Go.RowKit

theorem ret_bool {a b : Bool} (h : a = b) : Ending.returned (.bool a) = .returned (.bool b) := by rw [h]
theorem fmt64 : FloatKind.f64.format = Ieee.double := rfl

/-- A float's bits. -/
theorem run_bits (b : Nat) (w : World) : (callFunc 247 #[.float .f64 b]).run Tryz.prog w = .ok (.value (.int .u64 (b : Int))) w := by
  rw [run_callFunc_extern Tryz.func247 (by kernel_rfl) (by kernel_rfl) (by kernel_rfl) (show _ = some Extern.MathFloatBits.float64bits by kernel_rfl)]
  rfl
theorem run_from (n : Nat) (w : World) : (callFunc 297 #[.int .u64 (n : Int)]).run Tryz.prog w = .ok (.value (.float .f64 n)) w := by
  rw [run_callFunc_extern Tryz.func297 (by kernel_rfl) (by kernel_rfl) (by kernel_rfl) (show _ = some Extern.MathFloatBits.float64frombits by kernel_rfl)]
  rfl

theorem clear_sign (b : Nat) (hb : b < 18446744073709551616) : bits .andNot .u64 (b : Int) 9223372036854775808 = ((b % 9223372036854775808 : Nat) : Int) := by
  have h := u64_andNot_nat b 9223372036854775808 hb (by omega)
  have h2 := Nat.and_two_pow_sub_one_eq_mod b 63
  rw [show (2 : Nat) ^ 63 = 9223372036854775808 from rfl] at h2
  rw [show (18446744073709551615 - 9223372036854775808 : Nat) = 9223372036854775808 - 1 from rfl, h2] at h
  exact h

set_option maxHeartbeats 400000 in
theorem abs_any (b : Nat) (w : World) (hb : b < 18446744073709551616) : Calls Tryz.prog 280 #[.float .f64 b] w fun e w' => e = .returned (.float .f64 (b % 9223372036854775808)) ∧ w' = w := by
  have h1 := run_bits b
  have h3 := clear_sign b hb
  generalize b % 9223372036854775808 = r at *
  have h2 := run_from r
  go_enter Tryz.func280, Tryz.ntmps280
  go_wp2_with fail
  go_ret
  exact ⟨rfl, rfl⟩
set_option maxHeartbeats 400000 in
theorem nan_any (b : Nat) (w : World) : Calls Tryz.prog 249 #[.float .f64 b] w fun e w' => e = .returned (.bool (decide (9218868437227405312 < b % 9223372036854775808))) ∧ w' = w := by
  rw [← ne_self b]
  go_enter Tryz.func249, Tryz.ntmps249
  go_wp2_with fail
  go_ret
  exact ⟨rfl, rfl⟩
set_option maxHeartbeats 400000 in
theorem inf_any (b : Nat) (w : World) (hb : b < 18446744073709551616) : Calls Tryz.prog 248 #[.float .f64 b, .int .i64 0] w fun e w' => e = .returned (.bool (decide (b % 9223372036854775808 = 9218868437227405312))) ∧ w' = w := by
  rw [← gt_max (b % 9223372036854775808) (by omega)]
  go_enter Tryz.func248, Tryz.ntmps248
  go_wp2_with (go_at_call 280; refine (abs_any b _ hb).mono ?_; rintro e w' ⟨rfl, rfl⟩)
  go_ret
  exact ⟨rfl, rfl⟩
theorem wrap_sign (b : Nat) (hb : b < 18446744073709551616) : decide (wrap64 (b : Int) < 0) = decide (9223372036854775808 ≤ b) := by
  unfold wrap64
  by_cases h : 9223372036854775808 ≤ b
  · rw [decide_eq_true h, decide_eq_true (by omega)]
  · rw [decide_eq_false h, decide_eq_false (by omega)]
set_option maxHeartbeats 400000 in
theorem sign_any (b : Nat) (w : World) (hb : b < 18446744073709551616) : Calls Tryz.prog 206 #[.float .f64 b] w fun e w' => e = .returned (.bool (decide (9223372036854775808 ≤ b))) ∧ w' = w := by
  have h1 := run_bits b
  have h2 := wrap_sign b hb
  go_enter Tryz.func206, Tryz.ntmps206
  go_wp2_with fail
  go_ret
  exact ⟨rfl, rfl⟩
set_option maxHeartbeats 400000 in
theorem zero_any (b : Nat) (w : World) (hb : b < 18446744073709551616) : Calls Tryz.prog 170 #[.float .f64 b] w fun e w' => e = .returned (.bool (decide (b = 0))) ∧ w' = w := by
  have h1 := eq_zero b
  by_cases h : b % 9223372036854775808 = 0
  · rw [decide_eq_true h, ← fmt64] at h1
    go_enter Tryz.func170, Tryz.ntmps170
    go_wp2_with (go_at_call 206; refine (sign_any b _ hb).mono ?_; rintro e w' ⟨rfl, rfl⟩)
    go_ret
    refine ⟨ret_bool ?_, rfl⟩
    by_cases h2 : b = 0 <;> simp [h2] <;> omega
  · rw [decide_eq_false h, ← fmt64] at h1
    go_enter Tryz.func170, Tryz.ntmps170
    go_wp2_with fail
    go_ret
    refine ⟨ret_bool ?_, rfl⟩
    symm
    rw [decide_eq_false_iff_not]
    omega
set_option maxHeartbeats 400000 in
theorem ends_any (b : Nat) (w : World) (hb : b < 18446744073709551616) : Calls Tryz.prog 207 #[.float .f64 b] w fun e w' => e = .returned (.bool (decide (b % 9223372036854775808 < 9218868437227405312))) ∧ w' = w := by
  obtain ⟨r, hr⟩ : ∃ r, b % 9223372036854775808 = r := ⟨_, rfl⟩
  have HI := inf_any b w hb
  have HN := nan_any b w
  rw [hr] at HI HN ⊢
  by_cases h : r = 9218868437227405312
  · rw [decide_eq_true h] at HI
    rw [decide_eq_false (by omega)]
    go_enter Tryz.func207, Tryz.ntmps207
    go_wp2_with (go_at_call 248; refine HI.mono ?_; rintro e w' ⟨rfl, rfl⟩)
    go_ret
    exact ⟨rfl, rfl⟩
  · rw [decide_eq_false h] at HI
    by_cases h2 : 9218868437227405312 < r
    · rw [decide_eq_true h2] at HN
      rw [decide_eq_false (by omega)]
      go_enter Tryz.func207, Tryz.ntmps207
      go_wp2_with (first | (go_at_call 248; refine HI.mono ?_; rintro e w' ⟨rfl, rfl⟩) | (go_at_call 249; refine HN.mono ?_; rintro e w' ⟨rfl, rfl⟩))
      go_ret
      exact ⟨rfl, rfl⟩
    · rw [decide_eq_false h2] at HN
      rw [decide_eq_true (show r < 9218868437227405312 by omega)]
      go_enter Tryz.func207, Tryz.ntmps207
      go_wp2_with (first | (go_at_call 248; refine HI.mono ?_; rintro e w' ⟨rfl, rfl⟩) | (go_at_call 249; refine HN.mono ?_; rintro e w' ⟨rfl, rfl⟩))
      go_ret
      exact ⟨rfl, rfl⟩
/-- A float that a Real may have. -/
def realB (b : Nat) : Bool := decide (b % 9223372036854775808 < 9218868437227405312 ∧ (b % 9223372036854775808 ≠ 0 ∨ b = 0))
set_option maxHeartbeats 400000 in
theorem mayReal_any (b : Nat) (w : World) (hb : b < 18446744073709551616) : Calls Tryz.prog 171 #[.float .f64 b] w fun e w' => e = .returned (.bool (realB b)) ∧ w' = w := by
  have h1 := eq_zero b
  have HE := ends_any b w hb
  have HZ := zero_any b w hb
  by_cases h : b % 9223372036854775808 < 9218868437227405312
  · rw [decide_eq_true h] at HE
    by_cases h2 : b % 9223372036854775808 = 0
    · rw [decide_eq_true h2, ← fmt64] at h1
      have h3 : (FloatKind.f64.format.order b 0 != some .eq) = false := by rw [bne, h1]; rfl
      have h4 : realB b = decide (b = 0) := by
        unfold realB
        exact decide_eq_decide.2 ⟨fun h => by omega, fun h => by omega⟩
      rw [h4]
      clear h4 h2 h h1
      generalize decide (b = 0) = q at *
      go_enter Tryz.func171, Tryz.ntmps171
      go_wp2_with (first | (go_at_call 207; refine HE.mono ?_; rintro e w' ⟨rfl, rfl⟩) | (go_at_call 170; refine HZ.mono ?_; rintro e w' ⟨rfl, rfl⟩))
      go_ret
      exact ⟨rfl, rfl⟩
    · rw [decide_eq_false h2, ← fmt64] at h1
      have h3 : (FloatKind.f64.format.order b 0 != some .eq) = true := by rw [bne, h1]; rfl
      have h4 : realB b = true := decide_eq_true ⟨h, .inl h2⟩
      rw [h4]
      clear h4 h2 h h1
      generalize decide (b = 0) = q at *
      go_enter Tryz.func171, Tryz.ntmps171
      go_wp2_with (first | (go_at_call 207; refine HE.mono ?_; rintro e w' ⟨rfl, rfl⟩) | (go_at_call 170; refine HZ.mono ?_; rintro e w' ⟨rfl, rfl⟩))
      go_ret
      exact ⟨rfl, rfl⟩
  · rw [decide_eq_false h] at HE
    have h4 : realB b = false := decide_eq_false (fun hh => h hh.1)
    rw [h4]
    go_enter Tryz.func171, Tryz.ntmps171
    go_wp2_with (first | (go_at_call 207; refine HE.mono ?_; rintro e w' ⟨rfl, rfl⟩))
    go_ret
    exact ⟨rfl, rfl⟩
end Go.Proofs.YtlidolocibfbgaaGreatDoor.Vl

/-
  May, Fits: what the program and the document say.
-/
namespace Go.Proofs.YtlidolocibfbgaaGreatDoor.Vl
open Go.RowKit

/-- Which values may be. -/
def mayB (K I : Int) (b : Nat) (s : ByteArray) : Bool :=
  if K = 0 then decide (I = 0) && decide (b = 0) && s.toList.isEmpty
  else if K = 1 then decide (b = 0) && s.toList.isEmpty
  else if K = 2 then decide (I = 0) && decide (b = 0) && decide ((s.size : Int) ≤ 65535)
  else if K = 3 then decide (I = 0) && realB b && s.toList.isEmpty
  else false
def valV (K I : Int) (b : Nat) (s : ByteArray) : Value := .agg #[.int .i64 K, .int .i64 I, .float .f64 b, .string s]
def colV (nm : ByteArray) (T : Int) (nb : Bool) : Value := .agg #[.string nm, .int .i64 T, .bool nb]
def fitsB (T : Int) (nb : Bool) (K : Int) (q : Bool) : Bool := q && (decide (K = T) || (decide (K = 0) && nb))

set_option maxHeartbeats 4000000 in
set_option maxRecDepth 20000 in
theorem may_any (K I : Int) (b : Nat) (s : ByteArray) (w : World) (hb : b < 18446744073709551616)  : Calls Tryz.prog 116 #[valV K I b s] w fun e w' => e = .returned (.bool (mayB K I b s)) ∧ Below w.heap.size w w' := by
  have HZ := fun w => zero_any b w hb
  have HR := fun w => mayReal_any b w hb
  unfold valV
  go_enter Tryz.func116, Tryz.ntmps116
  go_wp2_with (first | (go_at_call 170; refine (HZ _).mono ?_; rintro e w' ⟨rfl, rfl⟩) | (go_at_call 171; refine (HR _).mono ?_; rintro e w' ⟨rfl, rfl⟩))
  all_goals go_ret
  all_goals refine ⟨ret_bool ?_, (Below.refl _ w).alloc (Nat.le_refl _) _⟩
  all_goals simp_all [mayB]
theorem cell_of {w : World} {g j : Nat} {cs : Array Value} {t : TypeId} {v : Value} {z : Nat × Nat} (h : w.heap[g]? = some (.cells cs t z)) (hj : cs[j]? = some v) : w.cell? ⟨g, j, none⟩ = some v := by
  simp [World.cell?, h, hj]
theorem two_new (w : World) (a b : Array Value) (t u : TypeId) : ((w.alloc (.cells a t)).alloc (.cells b u)).heap[w.heap.size]? = some (.cells a t (0, 0)) ∧ ((w.alloc (.cells a t)).alloc (.cells b u)).heap[w.heap.size + 1]? = some (.cells b u (0, 0)) ∧ Below w.heap.size w ((w.alloc (.cells a t)).alloc (.cells b u)) := by
  refine ⟨?_, ?_, ((Below.refl _ w).alloc (Nat.le_refl _) _).alloc (by simp) _⟩
  · rw [Below.heap_alloc _ _ _ (by simp)]
    exact World.alloc_heap_new _ _
  · have := World.alloc_heap_new (w.alloc (.cells a t)) (.cells b u)
    simpa using this

set_option maxHeartbeats 4000000 in
set_option maxRecDepth 20000 in
theorem fits_any (nm : ByteArray) (T : Int) (nb : Bool) (K I : Int) (b : Nat) (s : ByteArray) (w : World) (hb : b < 18446744073709551616) : Calls Tryz.prog 145 #[colV nm T nb, valV K I b s] w fun e w' => e = .returned (.bool (fitsB T nb K (mayB K I b s))) ∧ Below w.heap.size w w' := by
  have HM := fun w => may_any K I b s w hb
  have hW := two_new w #[.string nm, .int .i64 T, .bool nb] #[.int .i64 K, .int .i64 I, .float .f64 b, .string s] 23 36
  unfold valV at *
  unfold colV
  generalize mayB K I b s = q at *
  go_enter Tryz.func145, Tryz.ntmps145
  go_wp2_with fail
  refine (HM _).mono ?_
  rintro e w' ⟨rfl, hbw⟩
  have hB : Below w.heap.size w w' := hW.2.2.trans (hbw.mono hW.2.2.size)
  have c1 : w'.cell? ⟨w.heap.size, 1, none⟩ = some (.int .i64 T) := cell_of ((hbw.block _ (by simp; omega)).trans hW.1) rfl
  have c2 : w'.cell? ⟨w.heap.size, 2, none⟩ = some (.bool nb) := cell_of ((hbw.block _ (by simp; omega)).trans hW.1) rfl
  have c3 : w'.cell? ⟨w.heap.size + 1, 0, none⟩ = some (.int .i64 K) := cell_of ((hbw.block _ (by simp)).trans hW.2.1) rfl
  clear hbw HM hW
  go_wp2_with fail
  all_goals go_ret
  all_goals refine ⟨ret_bool ?_, hB⟩
  all_goals simp_all [fitsB]
end Go.Proofs.YtlidolocibfbgaaGreatDoor.Vl
