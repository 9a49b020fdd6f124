/-
  The document's own functions of chapter 8: numbers put and read.
-/
import Derived.Test.YtcbmhpdhbmjocaaGreatPNum
namespace Go.Proofs.YtcbmhpdhbmjocaaGreat
open Go.RowKit Cu

theorem decI_succ (b : List Nat) (n : Nat) : decI b (n + 1) = decI b n ++ [toi (numAt 8 b n)] := by
  unfold decI
  rw [List.range_succ, List.map_append]
  rfl
theorem mayE_cases (n : Int) : mayE n = 0 ∨ (mayE n ≠ 0 ∧ mayE n ≤ 3) := by
  unfold mayE
  by_cases h1 : n < 0
  · rw [if_pos h1]; right; omega
  · rw [if_neg h1]
    by_cases h2 : 16777216 < n
    · rw [if_pos h2]; right; omega
    · rw [if_neg h2]; left; rfl
/-- An answer and whether it is there. -/
def atI (o : Option Int) : Value := match o with | some x => .tuple #[.int .i64 x, .bool true] | none => .tuple #[.int .i64 0, .bool false]
end Go.Proofs.YtcbmhpdhbmjocaaGreat
