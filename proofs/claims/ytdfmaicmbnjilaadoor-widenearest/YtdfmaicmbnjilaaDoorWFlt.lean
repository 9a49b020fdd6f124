/-
  Floats as whole numbers of the least one; a whole number of 53 bits as a float.
-/
import Derived.Test.YtdfmaicmbnjilaaDoorWMath
import Derived.Test.YtdfmaicmbnjilaaDoorVFlt
import Derived.Laws.FloatArith
namespace Go.Proofs.YtdfmaicmbnjilaaDoor
namespace Wd
open Ieee Vl

/-- A word without a sign, told in the least float's units. -/
def uv (x : Nat) : Nat := if x < 4503599627370496 then x else (4503599627370496 + x % 4503599627370496) * 2 ^ (x / 4503599627370496 - 1)
theorem uv_step (x : Nat) : uv x < uv (x + 1) := by
  unfold uv
  by_cases h1 : x + 1 < 4503599627370496
  · rw [if_pos (by omega), if_pos h1]; omega
  · by_cases h2 : x < 4503599627370496
    · rw [if_pos h2, if_neg h1, show (x + 1) % 4503599627370496 = 0 by omega, show (x + 1) / 4503599627370496 - 1 = 0 by omega]; omega
    · rw [if_neg h2, if_neg h1]
      have hq : 1 ≤ x / 4503599627370496 := by omega
      by_cases h3 : x % 4503599627370496 + 1 < 4503599627370496
      · rw [show (x + 1) % 4503599627370496 = x % 4503599627370496 + 1 by omega, show (x + 1) / 4503599627370496 = x / 4503599627370496 by omega]
        exact Nat.mul_lt_mul_of_pos_right (by omega) (Nat.two_pow_pos _)
      · rw [show (x + 1) % 4503599627370496 = 0 by omega, show (x + 1) / 4503599627370496 - 1 = x / 4503599627370496 - 1 + 1 by omega, Nat.pow_succ]
        have := Nat.two_pow_pos (x / 4503599627370496 - 1)
        have h4 : (4503599627370496 + x % 4503599627370496) * 2 ^ (x / 4503599627370496 - 1) < 9007199254740992 * 2 ^ (x / 4503599627370496 - 1) := Nat.mul_lt_mul_of_pos_right (by omega) this
        generalize 2 ^ (x / 4503599627370496 - 1) = p at *
        omega
theorem uv_add (x : Nat) : ∀ k, uv x < uv (x + k + 1)
  | 0 => uv_step x
  | k + 1 => Nat.lt_trans (uv_add x k) (uv_step _)
theorem uv_lt {x y : Nat} (h : x < y) : uv x < uv y := by
  have := uv_add x (y - x - 1)
  rwa [show x + (y - x - 1) + 1 = y by omega] at this
theorem uv_iff (x y : Nat) : uv x < uv y ↔ x < y := by
  constructor
  · intro h
    rcases Nat.lt_trichotomy x y with k | k | k
    · exact k
    · subst k; exact absurd h (Nat.lt_irrefl _)
    · exact absurd (Nat.lt_trans h (uv_lt k)) (Nat.lt_irrefl _)
  · exact uv_lt
theorem read_uv {x : Nat} (h : x % 9223372036854775808 < 9218868437227405312) : ∃ m k : Nat, Ieee.double.read x = .number (x / 9223372036854775808 % 2 == 1) m (-1074 + (k : Int)) ∧ m * 2 ^ k = uv (x % 9223372036854775808) := by
  by_cases hs : x % 9223372036854775808 < 4503599627370496
  · refine ⟨x % 9223372036854775808, 0, ?_, ?_⟩
    · rw [read_small x hs]; rfl
    · unfold uv; rw [if_pos hs]; omega
  · refine ⟨_, _, read_mid x hs h, ?_⟩
    unfold uv
    rw [if_neg hs]
/-- A word's number, in those units. -/
def sv (x : Nat) : Int := if (x / 9223372036854775808 % 2 == 1) = true then -(uv (x % 9223372036854775808) : Int) else (uv (x % 9223372036854775808) : Int)
theorem signed_val (s : Bool) (m u : Nat) : Ieee.signed s m u = (if s = true then -((m * 2 ^ u : Nat) : Int) else ((m * 2 ^ u : Nat) : Int)) := by
  unfold signed
  rw [Nat.shiftLeft_eq]
theorem cmp_scale (a b : Int) (p : Nat) (hp : 0 < p) : compare (a * p) (b * p) = compare a b := by
  have hp' : (0 : Int) < (p : Int) := by omega
  rcases Int.lt_trichotomy a b with h | h | h
  · rw [(cmp_lt _ _).2 h, (cmp_lt _ _).2 (Int.mul_lt_mul_of_pos_right h hp')]
  · subst h; rw [(cmp_eq _ _).2 rfl, (cmp_eq _ _).2 rfl]
  · rw [(cmp_gt _ _).2 h, (cmp_gt _ _).2 (Int.mul_lt_mul_of_pos_right h hp')]
theorem ord_fin {x y : Nat} (hx : x % 9223372036854775808 < 9218868437227405312) (hy : y % 9223372036854775808 < 9218868437227405312) : Ieee.double.order x y = some (compare (sv x) (sv y)) := by
  obtain ⟨m, k, e1, h1⟩ := read_uv hx
  obtain ⟨n, j, e2, h2⟩ := read_uv hy
  unfold Format.order
  rw [e1, e2]
  simp only [Datum.order]
  congr 1
  rw [signed_val, signed_val]
  unfold sv
  rw [← h1, ← h2]
  have key : ∀ (s : Bool) (m k d : Nat), d ≤ k → (if s = true then -((m * 2 ^ (k - d) : Nat) : Int) else ((m * 2 ^ (k - d) : Nat) : Int)) * ((2 ^ d : Nat) : Int) = (if s = true then -((m * 2 ^ k : Nat) : Int) else ((m * 2 ^ k : Nat) : Int)) := by
    intro s m k d hd
    have e : m * 2 ^ (k - d) * 2 ^ d = m * 2 ^ k := by rw [Nat.mul_assoc, ← Nat.pow_add, Nat.sub_add_cancel hd]
    cases s
    · simp only [Bool.false_eq_true, if_false]; rw [← Int.natCast_mul, e]
    · simp only [if_true]; rw [Int.neg_mul, ← Int.natCast_mul, e]
  have e3 : ((-1074 + (k : Int)) - min (-1074 + (k : Int)) (-1074 + (j : Int))).toNat = k - min k j := by omega
  have e4 : ((-1074 + (j : Int)) - min (-1074 + (k : Int)) (-1074 + (j : Int))).toNat = j - min k j := by omega
  rw [e3, e4, ← key (x / 9223372036854775808 % 2 == 1) m k (min k j) (Nat.min_le_left _ _), ← key (y / 9223372036854775808 % 2 == 1) n j (min k j) (Nat.min_le_right _ _)]
  exact (cmp_scale _ _ _ (Nat.two_pow_pos _)).symm
theorem sv_pos {x : Nat} (h : x < 9223372036854775808) : sv x = (uv x : Int) := by
  unfold sv
  rw [Nat.div_eq_of_lt h, Nat.mod_eq_of_lt h]
  rfl
theorem sv_neg {x : Nat} (h : x < 9223372036854775808) : sv (x + 9223372036854775808) = -(uv x : Int) := by
  unfold sv
  rw [show (x + 9223372036854775808) / 9223372036854775808 % 2 = 1 by omega, show (x + 9223372036854775808) % 9223372036854775808 = x by omega]
  rfl
/-- A number of 53 bits, made a float. -/
theorem float_of {k : Nat} (h1 : 4503599627370496 ≤ k) (h2 : k ≤ 9007199254740992) : floatOfInt .f64 (k : Int) = 4836865999795912704 + k := by
  show Ieee.double.write (.number (decide ((k : Int) < 0)) (k : Int).natAbs 0) = _
  rw [decide_eq_false (by omega), Int.natAbs_natCast]
  show Ieee.double.nearest false k 0 = _
  by_cases h3 : k = 9007199254740992
  · subst h3; rfl
  · unfold Format.nearest
    rw [if_neg (by omega), log_full k (by omega) h1, d_least, d_bin, d_inf, show (Ieee.double.fractionBits : Int) = 52 from rfl]
    have e : max ((0 : Int) + ((52 : Nat) : Int) - 52) (-1074) = 0 := by omega
    simp only [e]
    have c : Toward.even.cut false (k <<< ((0 : Int) - 0).toNat) ((0 : Int) - 0).toNat = k := by
      show Toward.even.cut false k 0 = k
      unfold Toward.cut
      rw [log_full k (by omega) h1]
      simp
      omega
    rw [c, show ((0 : Int) - -1074).toNat = 1074 by omega]
    show min (1074 * 4503599627370496 + k) 9218868437227405312 = _
    omega
end Wd
end Go.Proofs.YtdfmaicmbnjilaaDoor
