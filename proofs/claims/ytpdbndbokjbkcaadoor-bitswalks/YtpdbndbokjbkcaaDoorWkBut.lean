import Derived.Test.YtpdbndbokjbkcaaDoorWkRow
namespace Go.Proofs.YtpdbndbokjbkcaaDoor
open Go.RowKit Go.Shelf

/-- All that lay in A lies as it lay, but block x. -/
def KeptBut (x : Nat) (A W : World) : Prop := W.os = A.os ∧ W.tape = A.tape ∧ W.output = A.output ∧ A.heap.size ≤ W.heap.size ∧ ∀ j, j < A.heap.size → j ≠ x → W.heap[j]? = A.heap[j]?
theorem KeptBut.refl (x : Nat) (A : World) : KeptBut x A A := ⟨rfl, rfl, rfl, Nat.le_refl _, fun _ _ _ => rfl⟩
theorem keptBut_own {β : Type} (x : Nat) (A : World) : OwnFrom A.heap.size (fun (_ : β) W => KeptBut x A W) := fun _ X Y row hs hg hr =>
  ⟨hg.os.trans hs.1, hg.tape.trans hs.2.1, hg.output.trans hs.2.2.1, Nat.le_trans hs.2.2.2.1 hg.size, fun j hj hx =>
    (hg.block j (by have := hs.2.2.2.1; omega) (fun e => by have := (hr j e.symm).1; omega)).trans (hs.2.2.2.2 j hj hx)⟩
theorem KeptBut.below {x u : Nat} {w A W : World} (h : KeptBut x A W) (hB : Below u w A) (hu : u ≤ x) (huA : u ≤ A.heap.size) : Below u w W :=
  hB.trans ⟨h.1, h.2.1, h.2.2.1, h.2.2.2.1, fun j hj => h.2.2.2.2 j (by omega) (by omega)⟩
theorem KeptBut.boxed {x B : Nat} {t : TypeId} {v : Value} {A W : World} (h : KeptBut x A W) (hb : Boxed A B t v) (hx : B ≠ x) : Boxed W B t v := (h.2.2.2.2 _ hb.lt hx).trans hb
theorem KeptBut.appended {x : Nat} {A W W2 : World} (h : KeptBut x A W)
    (hot : ∀ j, j < W.heap.size → j ≠ x → (∀ c fr, W.heap[j]? = some (.cells c 3 fr) → j < A.heap.size) → W2.heap[j]? = W.heap[j]?)
    (o1 : W2.os = W.os) (o2 : W2.tape = W.tape) (o3 : W2.output = W.output) (o4 : W.heap.size ≤ W2.heap.size) : KeptBut x A W2 :=
  ⟨o1.trans h.1, o2.trans h.2.1, o3.trans h.2.2.1, Nat.le_trans h.2.2.2.1 o4, fun j hj hx => (hot j (by have := h.2.2.2.1; omega) hx (fun _ _ _ => hj)).trans (h.2.2.2.2 j hj hx)⟩
theorem kept75_appended {x n1 : Nat} {A W W2 : World} (hA : n1 = A.heap.size) (h0 : 0 < A.heap.size) (hx : 0 < x) (hxA : x < A.heap.size) (hs : A.heap.size ≤ W.heap.size)
    (hot : ∀ j, j < W.heap.size → j ≠ x → (∀ c fr, W.heap[j]? = some (.cells c 3 fr) → j < A.heap.size) → W2.heap[j]? = W.heap[j]?)
    (o1 : W2.os = W.os) (o2 : W2.tape = W.tape) (o3 : W2.output = W.output) (o4 : W.heap.size ≤ W2.heap.size) : Kept75 n1 W W2 :=
  ⟨⟨o1, o2, o3, o4, fun j hj => hot j (by omega) (by omega) (fun _ _ _ => by omega)⟩, fun j c fr hj hc => by
    rw [hot j (Array.getElem?_eq_some_iff.1 hc).1 (by omega) (fun c' fr' hc' => by rw [hc] at hc'; simp at hc')]; exact hc⟩
end Go.Proofs.YtpdbndbokjbkcaaDoor
