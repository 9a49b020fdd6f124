/-
  A ROW THAT IS SORTED: numbers as an array; cmp.Less; insertionSortOrdered.
-/
import Derived.Test.YtoephmcmmbhnaacLWord
import Derived.Test.YtoephmcmmbhnaacPackAll
import Derived.Sort.Defs
import Derived.Sort.Statements
namespace Go.Proofs.Ytoephmcmmbhnaac.Ln
open Go.RowKit Go.Sort

def ltN (x y : Nat) : Bool := decide (x < y)
/-- Block g holds the numbers of d, then others up to c. -/
def RowD (w : World) (g c : Nat) (d : Array Nat) : Prop := Blk w g 23 .u64 c d.size (fun j => d[j]!)
theorem RowD.kept {w w' : World} {g c : Nat} {d : Array Nat} (h : RowD w g c d) (hk : w'.heap[g]? = w.heap[g]?) : RowD w' g c d := Blk.kept h hk
theorem RowD.cell {w : World} {g c : Nat} {d : Array Nat} (h : RowD w g c d) {j : Nat} (hj : j < d.size) : w.cell? ⟨g, j, none⟩ = some (.int .u64 (d[j]! : Int)) := Blk.cell h hj
theorem RowD.frozen {w : World} {g c : Nat} {d : Array Nat} (h : RowD w g c d) (j : Nat) : w.frozen? ⟨g, j, none⟩ = false := Blk.frozen h j
theorem swp_size (d : Array Nat) (i j : Nat) : (swp d i j).size = d.size := by simp [swp]
theorem get_set (d : Array Nat) (i j x : Nat) : (d.setIfInBounds i x)[j]! = if j = i ∧ i < d.size then x else d[j]! := by
  by_cases hj : j < d.size
  · by_cases h : j = i
    · subst h; simp [hj]
    · simp [h, hj, Ne.symm h]
  · by_cases h : j = i
    · subst h; simp [hj]
    · simp [h, hj]
theorem RowD.swap {w : World} {g c : Nat} {d : Array Nat} (h : RowD w g c d) {i j : Nat} (hi : i < d.size) (hj : j < d.size) :
    RowD ((w.setCell ⟨g, i, none⟩ (.int .u64 (d[j]! : Int))).setCell ⟨g, j, none⟩ (.int .u64 (d[i]! : Int))) g c (swp d i j) := by
  unfold RowD
  rw [swp_size]
  refine (Blk.store (Blk.store h i (d[j]!)) j (d[i]!)).ext fun t ht => ?_
  unfold upd swp
  rw [get_set, get_set]
  simp only [Array.size_setIfInBounds, hi, hj, and_true]
end Go.Proofs.Ytoephmcmmbhnaac.Ln
