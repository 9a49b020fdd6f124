/-
  A float's parts.
-/
import Derived.Test.YtdfmaicmbnjilaaDoorWNear
import Derived.Test.YtdfmaicmbnjilaaDoorVLeaf
import Derived.Test.YtdfmaicmbnjilaaDoorWMean
namespace Go.Proofs.YtdfmaicmbnjilaaDoor
open Go.RowKit Wd

theorem word_bits (s : Bool) {x : Nat} (h1 : 4503599627370496 ≤ x) (h2 : x < 9218868437227405312) : ∃ b, Ieee.double.word s x = b ∧ b < 18446744073709551616 ∧ b % 4503599627370496 = x % 4503599627370496 ∧ b / 4503599627370496 % 2048 = x / 4503599627370496 ∧ b / 9223372036854775808 = (if s = true then 1 else 0) ∧ b % 9223372036854775808 = x := by
  refine ⟨_, rfl, ?_⟩
  unfold Ieee.Format.word
  rw [Vl.d_sign]
  cases s
  · exact ⟨show x < 18446744073709551616 by omega, rfl, show x / 4503599627370496 % 2048 = x / 4503599627370496 from Nat.mod_eq_of_lt (by omega), show x / 9223372036854775808 = 0 from Nat.div_eq_of_lt (by omega), show x % 9223372036854775808 = x from Nat.mod_eq_of_lt (by omega)⟩
  · exact ⟨show 9223372036854775808 + x < 18446744073709551616 by omega, show (9223372036854775808 + x) % 4503599627370496 = x % 4503599627370496 by omega, show (9223372036854775808 + x) / 4503599627370496 % 2048 = x / 4503599627370496 by omega, show (9223372036854775808 + x) / 9223372036854775808 = 1 by omega, show (9223372036854775808 + x) % 9223372036854775808 = x by omega⟩
theorem w64 {v : Int} (h1 : -9223372036854775808 ≤ v) (h2 : v < 9223372036854775808) : wrap64 v = v := by unfold wrap64; omega
theorem w64g {g : Nat} (h : 1 ≤ g ∧ g ≤ 2047) : wrap64 (g : Int) = g ∧ wrap64 ((g : Int) - 1075) = (g : Int) - 1075 ∧ ((g : Int) == 0) = false :=
  ⟨w64 (by omega) (by omega), w64 (by omega) (by omega), by simpa using (show ¬ (g : Int) = 0 by omega)⟩
theorem and_52 {b : Nat} (h : b < 18446744073709551616) : bits BinOp.and IntKind.u64 (b : Int) 4503599627370495 = ((b % 4503599627370496 : Nat) : Int) := by
  rw [show (4503599627370495 : Int) = ((4503599627370495 : Nat) : Int) from rfl, u64_and_nat b 4503599627370495 h (by omega), show (4503599627370495 : Nat) = 2 ^ 52 - 1 by decide, Nat.and_two_pow_sub_one_eq_mod]
theorem and_11 {b : Nat} (h : b < 18446744073709551616) : bits BinOp.and IntKind.u64 (b : Int) 2047 = ((b % 2048 : Nat) : Int) := by
  rw [show (2047 : Int) = ((2047 : Nat) : Int) from rfl, u64_and_nat b 2047 h (by omega), show (2047 : Nat) = 2 ^ 11 - 1 by decide, Nat.and_two_pow_sub_one_eq_mod]
theorem or_52 {f : Nat} (h : f < 4503599627370496) : bits BinOp.or IntKind.u64 (f : Int) 4503599627370496 = ((4503599627370496 + f : Nat) : Int) := by
  rw [show (4503599627370496 : Int) = ((4503599627370496 : Nat) : Int) from rfl, u64_or_nat _ _ (by omega) (by omega), Nat.or_comm]
  have e := Nat.two_pow_add_eq_or_of_lt (i := 52) (b := f) (by simpa using h) 1
  rw [Nat.mul_one] at e
  rw [show (4503599627370496 : Nat) = 2 ^ 52 from rfl, ← e]
set_option maxRecDepth 8000 in
set_option maxHeartbeats 1600000 in
theorem parts_any (s : Bool) (x : Nat) (h1 : 4503599627370496 ≤ x) (h2 : x < 9218868437227405312) (w : World) : Calls Tryd.prog 29 #[.float .f64 (Ieee.double.word s x)] w fun e w' => e = .returned (.tuple #[.int .u64 ((4503599627370496 + x % 4503599627370496 : Nat) : Int), .int .i64 (((x / 4503599627370496 : Nat) : Int) - 1075), .bool s]) ∧ w' = w := by
  obtain ⟨b, hb, b1, b2, b3, b4, b5⟩ := word_bits s h1 h2
  rw [hb]
  obtain ⟨q, hq⟩ : ∃ q, b / 4503599627370496 = q := ⟨_, rfl⟩
  obtain ⟨g, hg⟩ : ∃ g, x / 4503599627370496 = g := ⟨_, rfl⟩
  obtain ⟨f, hf⟩ : ∃ f, x % 4503599627370496 = f := ⟨_, rfl⟩
  have hf1 : f < 4503599627370496 := by omega
  have hq1 : q < 18446744073709551616 := by omega
  have hg1 : 1 ≤ g ∧ g ≤ 2047 := by omega
  have eA := and_52 b1
  rw [b2, hf] at eA
  have eS : (b : Int) / 4503599627370496 = (q : Int) := by rw [← hq]; omega
  have eB := and_11 hq1
  rw [show q % 2048 = g from by rw [← hq, b3, hg]] at eB
  have eO := or_52 hf1
  have e63 : (b : Int) / 9223372036854775808 = (if s = true then 1 else 0) := by
    cases s
    · simp only [Bool.false_eq_true, if_false] at b4 ⊢; omega
    · simp only [if_true] at b4 ⊢; omega
  obtain ⟨hw, hw2, hz⟩ := w64g hg1
  rw [hg, hf]
  have hrb := Vl.run_bits b
  have hres : Tryd.f29.results = #[.tmp 2, .tmp 3, .tmp 4] := by kernel_rfl
  have HRES := hid hres
  clear hres
  clear h1 h2 hb b1 b2 b3 b4 b5 hf1 hg hf hg1 hq1 hq
  generalize (q : Int) = qi at *
  generalize ((4503599627370496 + f : Nat) : Int) = m at *
  generalize (g : Int) = gi at *
  cases s
  all_goals
    simp only [Bool.false_eq_true, if_false, if_true] at e63
    go_enter Tryd.func29, Tryd.ntmps29
    go_wp2_with fail
    refine bodyPost_ret (v := _) ?_ rfl ⟨rfl, rfl⟩
    simp only [results, HRES.out]
    go_simp
end Go.Proofs.YtdfmaicmbnjilaaDoor
