import Derived.Test.YtcbmhpdhbmjocaaGreatUStr
import Derived.Test.YtcbmhpdhbmjocaaGreatDIAll
import Derived.Sort.Walk0
/-
  Texts and their order.
-/
namespace Go.Proofs.YtcbmhpdhbmjocaaGreat.Tx
open Go.ChangeShapes Go.WideShapes Go.ChangeAt Go.RowKit Cu

def ltB (x y : ByteArray) : Bool := Op.bytesLess x.toList y.toList
def leT (x y : ByteArray) : Bool := !ltB y x
def tlt (x y : ByteArray) : Prop := ltB x y = true
theorem tlt_iff {x y : ByteArray} : tlt x y ↔ x.toList < y.toList := by unfold tlt ltB; rw [bytesLess_eq]; simp
theorem toList_inj {x y : ByteArray} (h : x.toList = y.toList) : x = y := by
  rw [Go.ByteArray.toList_eq, Go.ByteArray.toList_eq] at h
  exact ByteArray.ext (Array.toList_inj.1 h)
theorem tlt_irrefl (x : ByteArray) : ¬ tlt x x := fun h => List.lt_irrefl _ (tlt_iff.1 h)
theorem tlt_trans {x y z : ByteArray} (h : tlt x y) (k : tlt y z) : tlt x z := tlt_iff.2 (List.lt_trans (tlt_iff.1 h) (tlt_iff.1 k))
theorem leT_iff {x y : ByteArray} : leT x y = true ↔ ¬ tlt y x := by unfold leT tlt; simp
theorem leT_refl (x : ByteArray) : leT x x = true := leT_iff.2 (tlt_irrefl x)
theorem leT_of_tlt {x y : ByteArray} (h : tlt x y) : leT x y = true := leT_iff.2 fun k => tlt_irrefl _ (tlt_trans h k)
theorem tlt_of_not {x y : ByteArray} (h : ¬ leT x y = true) : tlt y x := by
  rw [leT_iff] at h
  exact Classical.not_not.1 h
theorem tlt_of {x y : ByteArray} (h : leT x y = true) (hne : y ≠ x) : tlt x y := by
  rw [leT_iff, tlt_iff] at h
  rw [tlt_iff]
  rcases List.le_iff_lt_or_eq.1 (List.not_lt.1 h) with h1 | h1
  · exact h1
  · exact absurd (toList_inj h1).symm hne
theorem beq_neT {x y : ByteArray} (h : ¬ x = y) : (x.toList == y.toList) = false := by
  simp only [beq_eq_false_iff_ne, ne_eq]
  exact fun e => h (toList_inj e)
theorem less_leT (x y : ByteArray) : (Op.bytesLess x.toList y.toList || x.toList == y.toList) = leT x y := by
  by_cases h : x = y
  · subst h; rw [leT_refl]; simp
  · rw [beq_neT h, Bool.or_false]
    by_cases h2 : leT x y = true
    · rw [h2]; exact tlt_of h2 (fun e => h e.symm)
    · have h3 : Op.bytesLess x.toList y.toList = false := by
        cases h4 : Op.bytesLess x.toList y.toList with
        | false => rfl
        | true => exact absurd (leT_of_tlt (show tlt x y from h4)) h2
      rw [h3]
      exact (Bool.not_eq_true _ |>.mp h2).symm
end Go.Proofs.YtcbmhpdhbmjocaaGreat.Tx
