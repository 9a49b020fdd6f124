/-
  THE LEAVES: floats looked at.
-/
import Derived.Test.YthlfdmigmgpgfaaRows
import Derived.Test.YthlfdmigmgpgfaaVFlt
import Derived.WalkKit
import Derived.WalkSpells
import Derived.WalkLawsBesides
import Derived.Deep.QuietTactic
import Derived.Deep.RegionHeld3
import Derived.BigQuiet
import Derived.Below
import Derived.WalkSmall
import Derived.Laws.BitsAllLaws
namespace Go.Proofs.Ythlfdmigmgpgfaa.Vl
open Go.RowKit

theorem ret_bool {a b : Bool} (h : a = b) : Ending.returned (.bool a) = .returned (.bool b) := by rw [h]
theorem fmt64 : FloatKind.f64.format = Ieee.double := rfl

/-- A float's bits. -/
theorem run_bits (b : Nat) (w : World) : (callFunc 77 #[.float .f64 b]).run Try.prog w = .ok (.value (.int .u64 (b : Int))) w := by
  rw [run_callFunc_extern Try.func77 (by kernel_rfl) (by kernel_rfl) (by kernel_rfl) (show _ = some Extern.MathFloatBits.float64bits by kernel_rfl)]
  rfl
theorem run_from (n : Nat) (w : World) : (callFunc 83 #[.int .u64 (n : Int)]).run Try.prog w = .ok (.value (.float .f64 n)) w := by
  rw [run_callFunc_extern Try.func83 (by kernel_rfl) (by kernel_rfl) (by kernel_rfl) (show _ = some Extern.MathFloatBits.float64frombits by kernel_rfl)]
  rfl

theorem clear_sign (b : Nat) (hb : b < 18446744073709551616) : bits .andNot .u64 (b : Int) 9223372036854775808 = ((b % 9223372036854775808 : Nat) : Int) := by
  have h := u64_andNot_nat b 9223372036854775808 hb (by omega)
  have h2 := Nat.and_two_pow_sub_one_eq_mod b 63
  rw [show (2 : Nat) ^ 63 = 9223372036854775808 from rfl] at h2
  rw [show (18446744073709551615 - 9223372036854775808 : Nat) = 9223372036854775808 - 1 from rfl, h2] at h
  exact h

set_option maxHeartbeats 400000 in
theorem abs_any (b : Nat) (w : World) (hb : b < 18446744073709551616) : Calls Try.prog 82 #[.float .f64 b] w fun e w' => e = .returned (.float .f64 (b % 9223372036854775808)) ∧ w' = w := by
  have h1 := run_bits b
  have h3 := clear_sign b hb
  generalize b % 9223372036854775808 = r at *
  have h2 := run_from r
  go_enter Try.func82, Try.ntmps82
  go_wp2_with fail
  go_ret
  exact ⟨rfl, rfl⟩
set_option maxHeartbeats 400000 in
theorem nan_any (b : Nat) (w : World) : Calls Try.prog 79 #[.float .f64 b] w fun e w' => e = .returned (.bool (decide (9218868437227405312 < b % 9223372036854775808))) ∧ w' = w := by
  rw [← ne_self b]
  go_enter Try.func79, Try.ntmps79
  go_wp2_with fail
  go_ret
  exact ⟨rfl, rfl⟩
set_option maxHeartbeats 400000 in
theorem inf_any (b : Nat) (w : World) (hb : b < 18446744073709551616) : Calls Try.prog 78 #[.float .f64 b, .int .i64 0] w fun e w' => e = .returned (.bool (decide (b % 9223372036854775808 = 9218868437227405312))) ∧ w' = w := by
  rw [← gt_max (b % 9223372036854775808) (by omega)]
  go_enter Try.func78, Try.ntmps78
  go_wp2_with (go_at_call 82; refine (abs_any b _ hb).mono ?_; rintro e w' ⟨rfl, rfl⟩)
  go_ret
  exact ⟨rfl, rfl⟩
theorem wrap_sign (b : Nat) (hb : b < 18446744073709551616) : decide (wrap64 (b : Int) < 0) = decide (9223372036854775808 ≤ b) := by
  unfold wrap64
  by_cases h : 9223372036854775808 ≤ b
  · rw [decide_eq_true h, decide_eq_true (by omega)]
  · rw [decide_eq_false h, decide_eq_false (by omega)]
set_option maxHeartbeats 400000 in
theorem sign_any (b : Nat) (w : World) (hb : b < 18446744073709551616) : Calls Try.prog 69 #[.float .f64 b] w fun e w' => e = .returned (.bool (decide (9223372036854775808 ≤ b))) ∧ w' = w := by
  have h1 := run_bits b
  have h2 := wrap_sign b hb
  go_enter Try.func69, Try.ntmps69
  go_wp2_with fail
  go_ret
  exact ⟨rfl, rfl⟩
set_option maxHeartbeats 400000 in
theorem zero_any (b : Nat) (w : World) (hb : b < 18446744073709551616) : Calls Try.prog 58 #[.float .f64 b] w fun e w' => e = .returned (.bool (decide (b = 0))) ∧ w' = w := by
  have h1 := eq_zero b
  by_cases h : b % 9223372036854775808 = 0
  · rw [decide_eq_true h, ← fmt64] at h1
    go_enter Try.func58, Try.ntmps58
    go_wp2_with (go_at_call 69; refine (sign_any b _ hb).mono ?_; rintro e w' ⟨rfl, rfl⟩)
    go_ret
    refine ⟨ret_bool ?_, rfl⟩
    by_cases h2 : b = 0 <;> simp [h2] <;> omega
  · rw [decide_eq_false h, ← fmt64] at h1
    go_enter Try.func58, Try.ntmps58
    go_wp2_with fail
    go_ret
    refine ⟨ret_bool ?_, rfl⟩
    symm
    rw [decide_eq_false_iff_not]
    omega
set_option maxHeartbeats 400000 in
theorem ends_any (b : Nat) (w : World) (hb : b < 18446744073709551616) : Calls Try.prog 70 #[.float .f64 b] w fun e w' => e = .returned (.bool (decide (b % 9223372036854775808 < 9218868437227405312))) ∧ w' = w := by
  obtain ⟨r, hr⟩ : ∃ r, b % 9223372036854775808 = r := ⟨_, rfl⟩
  have HI := inf_any b w hb
  have HN := nan_any b w
  rw [hr] at HI HN ⊢
  by_cases h : r = 9218868437227405312
  · rw [decide_eq_true h] at HI
    rw [decide_eq_false (by omega)]
    go_enter Try.func70, Try.ntmps70
    go_wp2_with (go_at_call 78; refine HI.mono ?_; rintro e w' ⟨rfl, rfl⟩)
    go_ret
    exact ⟨rfl, rfl⟩
  · rw [decide_eq_false h] at HI
    by_cases h2 : 9218868437227405312 < r
    · rw [decide_eq_true h2] at HN
      rw [decide_eq_false (by omega)]
      go_enter Try.func70, Try.ntmps70
      go_wp2_with (first | (go_at_call 78; refine HI.mono ?_; rintro e w' ⟨rfl, rfl⟩) | (go_at_call 79; refine HN.mono ?_; rintro e w' ⟨rfl, rfl⟩))
      go_ret
      exact ⟨rfl, rfl⟩
    · rw [decide_eq_false h2] at HN
      rw [decide_eq_true (show r < 9218868437227405312 by omega)]
      go_enter Try.func70, Try.ntmps70
      go_wp2_with (first | (go_at_call 78; refine HI.mono ?_; rintro e w' ⟨rfl, rfl⟩) | (go_at_call 79; refine HN.mono ?_; rintro e w' ⟨rfl, rfl⟩))
      go_ret
      exact ⟨rfl, rfl⟩
/-- A float that a Real may have. -/
def realB (b : Nat) : Bool := decide (b % 9223372036854775808 < 9218868437227405312 ∧ (b % 9223372036854775808 ≠ 0 ∨ b = 0))
set_option maxHeartbeats 400000 in
theorem mayReal_any (b : Nat) (w : World) (hb : b < 18446744073709551616) : Calls Try.prog 59 #[.float .f64 b] w fun e w' => e = .returned (.bool (realB b)) ∧ w' = w := by
  have h1 := eq_zero b
  have HE := ends_any b w hb
  have HZ := zero_any b w hb
  by_cases h : b % 9223372036854775808 < 9218868437227405312
  · rw [decide_eq_true h] at HE
    by_cases h2 : b % 9223372036854775808 = 0
    · rw [decide_eq_true h2, ← fmt64] at h1
      have h3 : (FloatKind.f64.format.order b 0 != some .eq) = false := by rw [bne, h1]; rfl
      have h4 : realB b = decide (b = 0) := by
        unfold realB
        exact decide_eq_decide.2 ⟨fun h => by omega, fun h => by omega⟩
      rw [h4]
      clear h4 h2 h h1
      generalize decide (b = 0) = q at *
      go_enter Try.func59, Try.ntmps59
      go_wp2_with (first | (go_at_call 70; refine HE.mono ?_; rintro e w' ⟨rfl, rfl⟩) | (go_at_call 58; refine HZ.mono ?_; rintro e w' ⟨rfl, rfl⟩))
      go_ret
      exact ⟨rfl, rfl⟩
    · rw [decide_eq_false h2, ← fmt64] at h1
      have h3 : (FloatKind.f64.format.order b 0 != some .eq) = true := by rw [bne, h1]; rfl
      have h4 : realB b = true := decide_eq_true ⟨h, .inl h2⟩
      rw [h4]
      clear h4 h2 h h1
      generalize decide (b = 0) = q at *
      go_enter Try.func59, Try.ntmps59
      go_wp2_with (first | (go_at_call 70; refine HE.mono ?_; rintro e w' ⟨rfl, rfl⟩) | (go_at_call 58; refine HZ.mono ?_; rintro e w' ⟨rfl, rfl⟩))
      go_ret
      exact ⟨rfl, rfl⟩
  · rw [decide_eq_false h] at HE
    have h4 : realB b = false := decide_eq_false (fun hh => h hh.1)
    rw [h4]
    go_enter Try.func59, Try.ntmps59
    go_wp2_with (first | (go_at_call 70; refine HE.mono ?_; rintro e w' ⟨rfl, rfl⟩))
    go_ret
    exact ⟨rfl, rfl⟩
end Go.Proofs.Ythlfdmigmgpgfaa.Vl
