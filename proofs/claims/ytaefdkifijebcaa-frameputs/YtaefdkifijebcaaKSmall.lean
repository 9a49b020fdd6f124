/-
  THE SMALL ONES: num, Bytes, widths, what fits.
-/
import Derived.Test.YtaefdkifijebcaaRows
import Derived.Test.YtaefdkifijebcaaKMath
import Derived.Lib.Walk
import Derived.WalkKit
import Derived.WalkSpells
import Derived.WalkLawsBesides
import Derived.Deep.QuietTactic
import Derived.BigQuiet
import Derived.BigRegion
namespace Go.Proofs.Ytaefdkifijebcaa.Pk
open Go.RowKit

theorem ret_int {k : IntKind} {a b : Int} (h : a = b) : Ending.returned (.int k a) = .returned (.int k b) := by rw [h]
theorem ret_bool {a b : Bool} (h : a = b) : Ending.returned (.bool a) = .returned (.bool b) := by rw [h]
theorem u64_left (n : Int) (h0 : 0 ≤ n) (h1 : n < 18446744073709551616) : IntKind.u64.wrap n = n := by rw [IntKind.wrap_u64]; omega
theorem i64_left (n : Int) (h0 : -9223372036854775808 ≤ n) (h1 : n ≤ 9223372036854775807) : IntKind.i64.wrap n = n := by rw [IntKind.wrap_i64]; omega

set_option maxHeartbeats 400000 in
theorem num_any (n : Int) (w : World) : Calls Try.prog 19 #[.int .i64 n] w fun e w' => e = .returned (.int .i64 n) ∧ w' = w := by
  go_enter Try.func19, Try.ntmps19
  go_wp2
  go_ret
  exact ⟨rfl, rfl⟩

def isWidth (n : Int) : Bool := decide (0 ≤ n) && decide (n ≤ 64)
theorem isWidth_yes {n : Int} (h : isWidth n = true) : ∃ k : Nat, n = (k : Int) ∧ k ≤ 64 := by
  simp [isWidth] at h; exact ⟨n.toNat, by omega, by omega⟩
theorem isWidth_nat (k : Nat) (h : k ≤ 64) : isWidth (k : Int) = true := by simp [isWidth]; omega

set_option maxHeartbeats 400000 in
theorem mayBe_any (n : Int) (w : World) : Calls Try.prog 79 #[.int .i64 n] w fun e w' => e = .returned (.bool (isWidth n)) ∧ w' = w := by
  unfold isWidth
  by_cases h0 : 0 ≤ n
  · have hd : decide (0 ≤ n) = true := by simpa using h0
    cases h1 : decide (n ≤ 64)
    all_goals
      go_enter Try.func79, Try.ntmps79
      go_wp2
      go_ret
      exact ⟨by simp [hd], rfl⟩
  · have hd : decide (0 ≤ n) = false := by simpa using h0
    go_enter Try.func79, Try.ntmps79
    go_wp2
    go_ret
    exact ⟨by simp, rfl⟩
set_option maxHeartbeats 400000 in
theorem may_any (n : Int) (w : World) : Calls Try.prog 70 #[.int .i64 n] w fun e w' => e = .returned (.bool (isWidth n)) ∧ w' = w := by
  unfold isWidth
  by_cases h0 : 0 ≤ n
  · have hd : decide (0 ≤ n) = true := by simpa using h0
    cases h1 : decide (n ≤ 64)
    all_goals
      go_enter Try.func70, Try.ntmps70
      go_wp2
      go_ret
      exact ⟨by simp [hd], rfl⟩
  · have hd : decide (0 ≤ n) = false := by simpa using h0
    go_enter Try.func70, Try.ntmps70
    go_wp2
    go_ret
    exact ⟨by simp, rfl⟩

/-- What Bytes answers: the number, and the error's. -/
def byteN (n width : Int) : Int := if 0 ≤ n ∧ n ≤ 16777216 ∧ isWidth width = true then (n * width + 7) / 8 else 0
def byteE (n width : Int) : Int := if n < 0 then 2 else if 16777216 < n then 3 else if isWidth width = true then 0 else 20
theorem mul_small {n k : Nat} (h1 : n ≤ 16777216) (h2 : k ≤ 64) : n * k ≤ 1073741824 := by
  have := Nat.mul_le_mul h1 h2; omega

set_option maxHeartbeats 1000000 in
theorem bytes_any (n width : Int) (w : World) : Calls Try.prog 48 #[.int .i64 n, .int .i64 width] w fun e w' => e = .returned (.tuple #[.int .i64 (byteN n width), .int .i64 (byteE n width)]) ∧ w' = w := by
  by_cases h0 : n < 0
  · have e1 : byteN n width = 0 := by unfold byteN; rw [if_neg (by omega)]
    have e2 : byteE n width = 2 := by unfold byteE; rw [if_pos h0]
    rw [e1, e2]
    go_enter Try.func48, Try.ntmps48
    go_wp2
    go_ret2
    exact ⟨rfl, rfl⟩
  · by_cases h1 : 16777216 < n
    · have e1 : byteN n width = 0 := by unfold byteN; rw [if_neg (by omega)]
      have e2 : byteE n width = 3 := by unfold byteE; rw [if_neg h0, if_pos h1]
      rw [e1, e2]
      have hd : decide (n < 0) = false := by simpa using h0
      have hd2 : decide (16777216 < n) = true := by simpa using h1
      go_enter Try.func48, Try.ntmps48
      go_wp2
      go_ret2
      exact ⟨rfl, rfl⟩
    · have hd : decide (n < 0) = false := by simpa using h0
      have hd2 : decide (16777216 < n) = false := by simpa using h1
      cases hw : isWidth width with
      | false =>
        have e1 : byteN n width = 0 := by unfold byteN; rw [if_neg (by simp [hw])]
        have e2 : byteE n width = 20 := by unfold byteE; rw [if_neg h0, if_neg h1, if_neg (by simp [hw])]
        rw [e1, e2]
        have HW : Hid (isWidth width = false) := hw
        clear hw e1 e2
        go_enter Try.func48, Try.ntmps48
        go_wp2_with (go_at_call 79; refine (mayBe_any _ _).mono ?_; rintro e w' ⟨rfl, rfl⟩; rw [HW.out])
        go_ret2
        exact ⟨rfl, rfl⟩
      | true =>
        obtain ⟨m, rfl⟩ : ∃ m : Nat, n = (m : Int) := ⟨n.toNat, by omega⟩
        obtain ⟨k, rfl, hk⟩ := isWidth_yes hw
        have e1 : byteN m k = ((m : Int) * (k : Int) + 7) / 8 := by unfold byteN; rw [if_pos (by simp [hw]; omega)]
        have e2 : byteE m k = 0 := by unfold byteE; rw [if_neg h0, if_neg h1, if_pos hw]
        rw [e1, e2]
        have hp := mul_small (show m ≤ 16777216 by omega) hk
        have hc : (m : Int) * (k : Int) = ((m * k : Nat) : Int) := by simp
        rw [hc]
        have HW : Hid (isWidth k = true) := hw
        have HC : Hid ((m : Int) * (k : Int) = ((m * k : Nat) : Int)) := hc
        clear hw e1 e2
        generalize m * k = p at *
        go_enter Try.func48, Try.ntmps48
        go_wp2_with (go_at_call 79; refine (mayBe_any _ _).mono ?_; rintro e w' ⟨rfl, rfl⟩; rw [HW.out])
        go_ret2
        exact ⟨by congr 5, rfl⟩
set_option maxHeartbeats 1000000 in
theorem refBytes_any (n width : Int) (w : World) : Calls Try.prog 36 #[.int .i64 n, .int .i64 width] w fun e w' => e = .returned (.tuple #[.int .i64 (byteN n width), .int .i64 (byteE n width)]) ∧ w' = w := by
  by_cases h0 : n < 0
  · have e1 : byteN n width = 0 := by unfold byteN; rw [if_neg (by omega)]
    have e2 : byteE n width = 2 := by unfold byteE; rw [if_pos h0]
    rw [e1, e2]
    go_enter Try.func36, Try.ntmps36
    go_wp2
    go_ret2
    exact ⟨rfl, rfl⟩
  · by_cases h1 : 16777216 < n
    · have e1 : byteN n width = 0 := by unfold byteN; rw [if_neg (by omega)]
      have e2 : byteE n width = 3 := by unfold byteE; rw [if_neg h0, if_pos h1]
      rw [e1, e2]
      have hd : decide (n < 0) = false := by simpa using h0
      have hd2 : decide (16777216 < n) = true := by simpa using h1
      go_enter Try.func36, Try.ntmps36
      go_wp2
      go_ret2
      exact ⟨rfl, rfl⟩
    · have hd : decide (n < 0) = false := by simpa using h0
      have hd2 : decide (16777216 < n) = false := by simpa using h1
      cases hw : isWidth width with
      | false =>
        have e1 : byteN n width = 0 := by unfold byteN; rw [if_neg (by simp [hw])]
        have e2 : byteE n width = 20 := by unfold byteE; rw [if_neg h0, if_neg h1, if_neg (by simp [hw])]
        rw [e1, e2]
        have HW : Hid (isWidth width = false) := hw
        clear hw e1 e2
        go_enter Try.func36, Try.ntmps36
        go_wp2_with (go_at_call 70; refine (may_any _ _).mono ?_; rintro e w' ⟨rfl, rfl⟩; rw [HW.out])
        go_ret2
        exact ⟨rfl, rfl⟩
      | true =>
        obtain ⟨m, rfl⟩ : ∃ m : Nat, n = (m : Int) := ⟨n.toNat, by omega⟩
        obtain ⟨k, rfl, hk⟩ := isWidth_yes hw
        have e1 : byteN m k = ((m : Int) * (k : Int) + 7) / 8 := by unfold byteN; rw [if_pos (by simp [hw]; omega)]
        have e2 : byteE m k = 0 := by unfold byteE; rw [if_neg h0, if_neg h1, if_pos hw]
        rw [e1, e2]
        have hp := mul_small (show m ≤ 16777216 by omega) hk
        have hc : (m : Int) * (k : Int) = ((m * k : Nat) : Int) := by simp
        rw [hc]
        have HW : Hid (isWidth k = true) := hw
        have HC : Hid ((m : Int) * (k : Int) = ((m * k : Nat) : Int)) := hc
        clear hw e1 e2
        generalize m * k = p at *
        go_enter Try.func36, Try.ntmps36
        go_wp2_with (go_at_call 70; refine (may_any _ _).mono ?_; rintro e w' ⟨rfl, rfl⟩; rw [HW.out])
        go_ret2
        exact ⟨by congr 5, rfl⟩
/-! ### Fits, Len64, Width -/
theorem pow_cast (k : Nat) : (2 : Int) ^ k = ((2 ^ k : Nat) : Int) := by simp
theorem shr_zero {x k : Nat} : (((x : Int) / (2 : Int) ^ k) == 0) = decide (x < 2 ^ k) := by
  have h := Nat.two_pow_pos k
  have e : (x : Int) / (2 : Int) ^ k = ((x / 2 ^ k : Nat) : Int) := by rw [pow_cast]; rfl
  rw [e, Bool.eq_iff_iff]
  simp only [beq_iff_eq, decide_eq_true_eq]
  rw [show ((x / 2 ^ k : Nat) : Int) = 0 ↔ x / 2 ^ k = 0 by omega, Nat.div_eq_zero_iff]
  omega
set_option maxHeartbeats 400000 in
theorem fits_any (x k : Nat) (w : World) (hx : x < 18446744073709551616) (hk : k ≤ 64) : Calls Try.prog 69 #[.int .u64 (x : Int), .int .i64 (k : Int)] w fun e w' => e = .returned (.bool (decide (x < 2 ^ k))) ∧ w' = w := by
  by_cases h : k = 64
  · subst h
    go_enter Try.func69, Try.ntmps69
    go_wp2
    go_ret
    exact ⟨by simpa using hx, rfl⟩
  · have h1 : k < 64 := by omega
    have hz := shr_zero (x := x) (k := k)
    generalize decide (x < 2 ^ k) = z at *
    go_enter Try.func69, Try.ntmps69
    go_wp2
    go_ret
    exact ⟨by simp; intro; omega, rfl⟩
end Go.Proofs.Ytaefdkifijebcaa.Pk
