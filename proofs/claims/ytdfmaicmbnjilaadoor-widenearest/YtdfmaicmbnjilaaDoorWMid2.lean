/-
  Means go up: the floats themselves.
-/
import Derived.Test.YtdfmaicmbnjilaaDoorWMid
import Derived.Test.YtdfmaicmbnjilaaDoorWMean
namespace Go.Proofs.YtdfmaicmbnjilaaDoor
namespace Wd
open Ieee Vl

theorem uv_le {x y : Nat} (h : x ≤ y) : uv x ≤ uv y := by
  rcases Nat.lt_or_eq_of_le h with k | k
  · exact Nat.le_of_lt (uv_lt k)
  · rw [k]; exact Nat.le_refl _
theorem uv_zero : uv 0 = 0 := rfl
/-- A mean's value, and that it is a number. -/
theorem mean_sv {a n : Int} (ha : Is a) (hn : 1 ≤ n) (hI : I64 n) : meanW a n % 9223372036854775808 < 9218868437227405312 ∧ sv (meanW a n) = (if a = 0 then 0 else if a < 0 then -(uv (quW a.natAbs n.toNat) : Int) else (uv (quW a.natAbs n.toNat) : Int)) := by
  unfold meanW
  rw [if_neg (by omega)]
  unfold Is at ha
  unfold I64 at hI
  by_cases h0 : a = 0
  · rw [if_pos h0, if_pos h0]
    exact ⟨by omega, by rw [sv_pos (by omega), uv_zero]; rfl⟩
  · rw [if_neg h0, if_neg h0]
    obtain ⟨-, -, q2, -, -⟩ := quW_in (N := a.natAbs) (n := n.toNat) (by omega) (by omega) (by omega) (by omega)
    by_cases h1 : a < 0
    · rw [if_pos h1, if_pos h1]
      refine ⟨by omega, ?_⟩
      rw [Nat.add_comm, sv_neg (by omega)]
    · rw [if_neg h1, if_neg h1]
      exact ⟨by omega, sv_pos (by omega)⟩
theorem mean_mono {a b n : Int} (ha : Is a) (hb : Is b) (hn : 1 ≤ n) (hI : I64 n) (hab : a ≤ b) : sv (meanW a n) ≤ sv (meanW b n) := by
  rw [(mean_sv ha hn hI).2, (mean_sv hb hn hI).2]
  unfold Is at ha hb
  unfold I64 at hI
  have g : ∀ c d : Nat, 0 < c → c ≤ d → d ≤ 170141183460469231731687303715884105728 → uv (quW c n.toNat) ≤ uv (quW d n.toNat) := fun c d h1 h2 h3 => uv_le (qu_mono h1 h2 h3 (by omega) (by omega))
  by_cases a0 : a = 0
  · rw [if_pos a0]
    by_cases b0 : b = 0
    · rw [if_pos b0]; exact Int.le_refl 0
    · rw [if_neg b0, if_neg (by omega)]; omega
  · rw [if_neg a0]
    by_cases a1 : a < 0
    · rw [if_pos a1]
      by_cases b0 : b = 0
      · rw [if_pos b0]; omega
      · rw [if_neg b0]
        by_cases b1 : b < 0
        · rw [if_pos b1]
          have := g b.natAbs a.natAbs (by omega) (by omega) (by omega)
          omega
        · rw [if_neg b1]; omega
    · rw [if_neg a1, if_neg (by omega), if_neg (by omega)]
      have := g a.natAbs b.natAbs (by omega) (by omega) (by omega)
      omega
/-- What the comparisons of two means say. -/
theorem mean_not_gt {a b n : Int} (ha : Is a) (hb : Is b) (hn : 1 ≤ n) (hI : I64 n) (hab : a ≤ b) : (Ieee.double.order (meanW a n) (meanW b n) == some .gt) = false := by
  rw [ord_fin (mean_sv ha hn hI).1 (mean_sv hb hn hI).1]
  have h := mean_mono ha hb hn hI hab
  cases hc : compare (sv (meanW a n)) (sv (meanW b n)) with
  | lt => rfl
  | eq => rfl
  | gt => have := (cmp_gt _ _).1 hc; omega
theorem mean_not_lt {a b n : Int} (ha : Is a) (hb : Is b) (hn : 1 ≤ n) (hI : I64 n) (hab : b ≤ a) : (Ieee.double.order (meanW a n) (meanW b n) == some .lt) = false := by
  rw [ord_fin (mean_sv ha hn hI).1 (mean_sv hb hn hI).1]
  have h := mean_mono hb ha hn hI hab
  cases hc : compare (sv (meanW a n)) (sv (meanW b n)) with
  | lt => have := (cmp_lt _ _).1 hc; omega
  | eq => rfl
  | gt => rfl
end Wd
end Go.Proofs.YtdfmaicmbnjilaaDoor
