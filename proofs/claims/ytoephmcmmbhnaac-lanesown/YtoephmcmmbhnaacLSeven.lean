/-
  A row of values; seven sets in an array; sets that are kept.
-/
import Derived.Test.YtoephmcmmbhnaacLPkd
import Derived.Test.YtoephmcmmbhnaacLRefT
namespace Go.Proofs.Ytoephmcmmbhnaac.Ln
open Go.RowKit Go.Sort
open Bt (packF Tail)

/-- A block of c values V. -/
def VRow (w : World) (g : Nat) (t : TypeId) (c : Nat) (V : Nat → Value) : Prop := ∃ cur : Array Value, w.heap[g]? = some (.cells cur t (0, 0)) ∧ cur.size = c ∧ ∀ j, j < c → cur[j]? = some (V j)
section
variable {w w' : World} {g c : Nat} {t : TypeId} {V : Nat → Value}
theorem VRow.lt (h : VRow w g t c V) : g < w.heap.size := by
  obtain ⟨cur, h1, _⟩ := h
  exact (Array.getElem?_eq_some_iff.1 h1).1
theorem VRow.cell (h : VRow w g t c V) {j : Nat} (hj : j < c) : w.cell? ⟨g, j, none⟩ = some (V j) := by
  obtain ⟨cur, h1, h2, h3⟩ := h
  simp [World.cell?, h1, h3 j hj]
theorem VRow.frozen (h : VRow w g t c V) (j : Nat) : w.frozen? ⟨g, j, none⟩ = false := by
  obtain ⟨cur, h1, _⟩ := h
  simp [World.frozen?, h1]
theorem VRow.kept (h : VRow w g t c V) (hb : w'.heap[g]? = w.heap[g]?) : VRow w' g t c V := by
  obtain ⟨cur, h1, h2⟩ := h
  exact ⟨cur, hb.trans h1, h2⟩
theorem VRow.later (h : VRow w g t c V) (hb : Below w.heap.size w w') : VRow w' g t c V := h.kept (hb.block g h.lt)
theorem VRow.drewN (h : VRow w g t c V) (j : Nat) : VRow (w.drewN j) g t c V := h
theorem VRow.ext {V' : Nat → Value} (h : VRow w g t c V) (he : ∀ j, j < c → V j = V' j) : VRow w g t c V' := by
  obtain ⟨cur, h1, h2, h3⟩ := h
  exact ⟨cur, h1, h2, fun j hj => by rw [← he j hj]; exact h3 j hj⟩
theorem VRow.store (h : VRow w g t c V) (i : Nat) (v : Value) : VRow (w.setCell ⟨g, i, none⟩ v) g t c (fun j => if j = i then v else V j) := by
  obtain ⟨cur, h1, h2, h3⟩ := h
  refine ⟨cur.setIfInBounds i v, Bt.heap_store h1, by simpa using h2, fun j hj => ?_⟩
  rw [Array.getElem?_setIfInBounds]
  by_cases hji : i = j
  · subst hji; simp; omega
  · have hij : ¬ j = i := fun e => hji e.symm
    rw [if_neg hji, h3 j hj]; simp [hij]
end
theorem VRow.made (w : World) (t : TypeId) (v : Value) (n : Nat) : VRow (w.alloc (.cells (madeCells #[v] n) t)) w.heap.size t n (fun _ => v) := by
  refine ⟨_, heap_alloc_new w _, by simp [madeCells], fun j hj => ?_⟩
  simp [madeCells, Nat.mod_one, hj]
theorem VRow.bnums {w : World} {g : Nat} {t : TypeId} {c : Nat} {f : Nat → Bool} (h : VRow w g t c (fun j => .bool (f j))) : BNums w (some ⟨g, 0, none⟩) c f := fun j hj => ⟨g, 0, rfl, h.lt, by rw [Nat.zero_add]; exact h.cell hj⟩

theorem newSet_kept {w w' : World} {d g n : Nat} {ws : List Nat} (h : Bt.NewSet w d g n ws) (h1 : w'.heap[d]? = w.heap[d]?) (h2 : w'.heap[g]? = w.heap[g]?) : Bt.NewSet w' d g n ws := ⟨h1.trans h.1, h2.trans h.2⟩
theorem newSet_lt {w : World} {d g n : Nat} {ws : List Nat} (h : Bt.NewSet w d g n ws) : d < w.heap.size ∧ g < w.heap.size := ⟨(Array.getElem?_eq_some_iff.1 h.1).1, (Array.getElem?_eq_some_iff.1 h.2).1⟩
theorem newSet_later {w w' : World} {d g n : Nat} {ws : List Nat} (h : Bt.NewSet w d g n ws) (hb : Below w.heap.size w w') : Bt.NewSet w' d g n ws := newSet_kept h (hb.block d (newSet_lt h).1) (hb.block g (newSet_lt h).2)
theorem newSet_far {w : World} {d g n b i : Nat} {v : Value} {ws : List Nat} (h : Bt.NewSet w d g n ws) (h1 : d ≠ b) (h2 : g ≠ b) : Bt.NewSet (w.setCell ⟨b, i, none⟩ v) d g n ws :=
  newSet_kept h (Below.heap_setCell _ _ _ _ h1) (Below.heap_setCell _ _ _ _ h2)

end Go.Proofs.Ytoephmcmmbhnaac.Ln
