import Derived.Test.YtcjpnlcjphdlgaaDoorBLow
import Derived.BigRegion
namespace Go.Proofs.YtcjpnlcjphdlgaaDoor.Bt
open Go.RowKit

theorem heap_store {w : World} {g k : Nat} {c : Array Value} {t : TypeId} {v : Value} (h : w.heap[g]? = some (.cells c t (0, 0))) : (w.setCell ⟨g, k, none⟩ v).heap[g]? = some (.cells (c.setIfInBounds k v) t (0, 0)) := by
  obtain ⟨hlt, hk⟩ := Array.getElem?_eq_some_iff.1 h
  show (w.heap.modify g _)[g]? = _
  rw [Array.getElem?_eq_getElem (by rw [Array.size_modify]; exact hlt), Array.getElem_modify_self, hk]
  rfl
theorem wcells_set (l : List Nat) (k x : Nat) : (wcells l).setIfInBounds k (.int .u64 (x : Int)) = wcells (l.set k x) := by
  simp [wcells, List.map_set]

/-- A new set whose words lie in a row of their own. -/
def NewSet (w : World) (d g n : Nat) (ws : List Nat) : Prop :=
  w.heap[d]? = some (.cells #[.int .i64 (n : Int), .slice (some ⟨g, 0, none⟩) ws.length ws.length] 34 (0, 0)) ∧ w.heap[g]? = some (.cells (wcells ws) 63 (0, 0))
theorem NewSet.is {w : World} {d g n : Nat} {ws : List Nat} (h : NewSet w d g n ws) : IsSet w d n ws := ⟨_, h.1, .inr ⟨g, rfl, h.2⟩⟩
theorem NewSet.ne {w : World} {d g n : Nat} {ws : List Nat} (h : NewSet w d g n ws) : d ≠ g := by
  intro e; subst e
  have := h.1.symm.trans h.2
  simp at this
theorem NewSet.store {w : World} {d g n : Nat} {ws : List Nat} (h : NewSet w d g n ws) (k x : Nat) : NewSet (w.setCell ⟨g, k, none⟩ (.int .u64 (x : Int))) d g n (ws.set k x) := by
  refine ⟨?_, ?_⟩
  · rw [Below.heap_setCell _ _ _ _ h.ne, List.length_set]; exact h.1
  · rw [heap_store h.2, wcells_set]
theorem NewSet.drew {w : World} {d g n : Nat} {ws : List Nat} (h : NewSet w d g n ws) : NewSet w.drew d g n ws := h
theorem length_zeros (n : Nat) : (zeros n).length = wordsOf n := by simp [zeros]
theorem empty_own (n : Nat) (w : World) (h1 : n ≤ 16777216) :
    Calls Tryd.prog 66 #[.int .i64 (n : Int)] w fun e w' => ∃ d g, e = .returned (.pointer (some ⟨d, 0, none⟩)) ∧ w.heap.size ≤ d ∧ w.heap.size ≤ g ∧ NewSet w' d g n (zeros n) ∧ Below w.heap.size w w' := by
  refine (empty_run n w h1).mono ?_
  rintro e w' ⟨rfl, rfl⟩
  refine ⟨_, w.heap.size, rfl, by omega, by omega, ⟨?_, ?_⟩, (((Below.refl _ _).alloc (Nat.le_refl _) _).alloc (by simp) _)⟩
  · have := World.alloc_heap_new (w.alloc (.cells (madeCells #[.int .u64 0] (wordsOf n)) 63)) (.cells #[.int .i64 (n : Int), .slice (some ⟨w.heap.size, 0, none⟩) (wordsOf n) (wordsOf n)] 34)
    rw [World.size_alloc] at this
    rw [length_zeros]; exact this
  · rw [Below.heap_alloc _ _ _ (by simp), World.alloc_heap_new, made_zeros]; rfl

/-- What has been made when k words are done. -/
def part (l : List Nat) (k : Nat) : List Nat := l.take k ++ List.replicate (l.length - k) 0
theorem part_zero (l : List Nat) : part l 0 = List.replicate l.length 0 := by simp [part]
theorem part_all (l : List Nat) : part l l.length = l := by simp [part]
theorem length_part (l : List Nat) (k : Nat) : (part l k).length = l.length := by simp [part]; omega
theorem part_set (l : List Nat) (k : Nat) (h : k < l.length) : (part l k).set k l[k] = part l (k + 1) := by
  apply List.ext_getElem?
  intro j
  simp only [part, List.getElem?_set, List.getElem?_append, List.length_take, List.getElem?_take, List.length_append, List.length_replicate, List.getElem?_replicate]
  by_cases hj : j = k
  · subst hj
    simp [show min j l.length = j by omega, show min (j+1) l.length = j + 1 by omega, h, show j < j + (l.length - j) by omega]
  · by_cases hlt : j < k
    · simp [show min k l.length = k by omega, show min (k+1) l.length = k + 1 by omega, hlt, show k ≠ j by omega, show j < k + 1 by omega]
    · simp [show min k l.length = k by omega, show min (k+1) l.length = k + 1 by omega, hlt, show k ≠ j by omega, show ¬ j < k + 1 by omega]
      congr 1
      simp; omega

theorem part_setD (l : List Nat) (k z : Nat) (h : k < l.length) (hz : l.getD k 0 = z) : (part l k).set k z = part l (k + 1) := by
  rw [← part_set l k h, ← hz, List.getD_eq_getElem?_getD, List.getElem?_eq_getElem h]; rfl
theorem row_cellD {w : World} {a0 : Option Addr} {ws : List Nat} (h : Row w (.slice a0 ws.length ws.length) ws) {k : Nat} (hk : k < ws.length) : ∃ g, a0 = some ⟨g, 0, none⟩ ∧ g < w.heap.size ∧ w.cell? ⟨g, k, none⟩ = some (.int .u64 (ws.getD k 0 : Int)) := by
  obtain ⟨g, h1, h2, h3⟩ := row_cell h hk
  exact ⟨g, h1, h2, by rw [h3, List.getD_eq_getElem?_getD, List.getElem?_eq_getElem hk]; rfl⟩
theorem cells_get {l : List Nat} {k : Nat} (hk : k < l.length) : (wcells l)[k]? = some (.int .u64 (l.getD k 0 : Int)) := by
  simp [wcells, hk]

end Go.Proofs.YtcjpnlcjphdlgaaDoor.Bt
