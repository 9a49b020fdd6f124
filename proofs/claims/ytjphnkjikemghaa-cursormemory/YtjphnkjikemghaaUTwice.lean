/-
  Rows of lists that were just made; a list that is written over.
-/
import Derived.Test.YtjphnkjikemghaaUHeld
import Derived.Test.YtjphnkjikemghaaUPutsO
import Derived.Test.YtjphnkjikemghaaURows
import Derived.Test.YtjphnkjikemghaaULent
namespace Go.Proofs.Ytjphnkjikemghaa
open Go.RowKit Cu

/-- The first i ones were turned by f. -/
def uptoG {α : Type} (f : α → α) (l : List α) (i : Nat) : List α := (l.take i).map f ++ l.drop i
theorem uptoG_len {α : Type} (f : α → α) (l : List α) (i : Nat) : (uptoG f l i).length = l.length := by
  unfold uptoG; rw [List.length_append, List.length_map, List.length_take, List.length_drop]; omega
theorem uptoG_zero {α : Type} (f : α → α) (l : List α) : uptoG f l 0 = l := by simp [uptoG]
theorem uptoG_all {α : Type} (f : α → α) (l : List α) : uptoG f l l.length = l.map f := by simp [uptoG]
theorem uptoG_at {α : Type} (f : α → α) (l m : List α) {i : Nat} (h : i < l.length) : (uptoG f l i ++ m)[i]? = l[i]? := by
  unfold uptoG
  rw [List.append_assoc, List.getElem?_append_right (by rw [List.length_map, List.length_take]; omega), List.length_map, List.length_take, Nat.min_eq_left (by omega), Nat.sub_self, List.getElem?_append_left (by rw [List.length_drop]; omega), List.getElem?_drop]
  rfl
theorem uptoG_set {α : Type} (f : α → α) (l m : List α) {i : Nat} {x : α} (h : l[i]? = some x) : (uptoG f l i ++ m).set i (f x) = uptoG f l (i + 1) ++ m := by
  obtain ⟨hi, hx⟩ := List.getElem?_eq_some_iff.1 h
  have hl : ((l.take i).map f).length = i := by rw [List.length_map, List.length_take]; omega
  unfold uptoG
  rw [List.drop_eq_getElem_cons hi, hx, List.take_add_one, h, List.append_assoc, List.set_append_right _ _ (by omega), hl, Nat.sub_self]
  simp
theorem uptoG_i {α : Type} (f : α → α) (l : List α) {i : Nat} {x : α} (h : l[i]? = some x) : (uptoG f l i)[i]? = some x := by
  have := uptoG_at f l [] (List.getElem?_eq_some_iff.1 h).1
  rw [List.append_nil] at this
  rw [this, h]
theorem uptoG_s {α : Type} (f : α → α) (l : List α) {i : Nat} {x : α} (h : l[i]? = some x) : (uptoG f l i).set i (f x) = uptoG f l (i + 1) := by
  have := uptoG_set f l [] h
  rwa [List.append_nil, List.append_nil] at this
def fF (x : Nat) : Nat := (x + 9) % 256
def fG (x : Nat) : Nat := x ^^^ 80
/-- The law's A row that was just made, of lists that are there. -/
theorem rws_row {w : World} (vs : List Value) (Ls : List (List Nat)) (hl : vs.length = Ls.length) (h : ∀ (i : Nat) (v : Value) (L : List Nat), vs[i]? = some v → Ls[i]? = some L → ∃ a c, v = .slice a L.length c ∧ Bytes w a L) :
    Rws (w.alloc (.cells vs.toArray 22)) (some ⟨w.heap.size, 0, none⟩) Ls := by
  have hb := below_new w (.cells vs.toArray 22)
  have e := heap_alloc_new w (.cells vs.toArray 22)
  intro i L hi
  have hil := (List.getElem?_eq_some_iff.1 hi).1
  rw [← hl] at hil
  have hv := List.getElem?_eq_getElem hil
  obtain ⟨a, c, hva, hB⟩ := h i _ L hv hi
  refine ⟨w.heap.size, 0, a, c, rfl, ?_, hB.later hb⟩
  rw [cell_of_row _ _ _ _ _ _ e, Nat.zero_add, ← hva, ← hv]
  simp
theorem fam_at {w : World} {lo : Nat} {vs : List Value} {Ls : List (List Nat)} (h : Fam w lo vs Ls) (i : Nat) {v : Value} {L : List Nat} (hv : vs[i]? = some v) (hL : Ls[i]? = some L) : ∃ a c, v = .slice a L.length c ∧ Bytes w a L := by
  have ho := h.own i v L hv hL
  obtain ⟨a, c, rfl, _⟩ := ho.form
  exact ⟨a, c, rfl, ho.nums⟩
/-- apart, of a row that was just made. -/
theorem apart_row {w : World} {lo : Nat} (vs : List Value) {Ls : List (List Nat)} (h : Fam w lo vs Ls) (hN : vs.length ≤ 90) (hLs : ∀ L ∈ Ls, L.length ≤ 1099511627776) (cl : Nat) :
    Calls Try.prog 8 #[.slice (some ⟨w.heap.size, 0, none⟩) vs.length cl] (w.alloc (.cells vs.toArray 22)) fun e w' => e = .returned (.bool true) ∧ Touch (fun j => lo ≤ j ∧ j < w.heap.size) (w.alloc (.cells vs.toArray 22)) w' := by
  have e := heap_alloc_new w (.cells vs.toArray 22)
  have hf := h.later (below_new w (.cells vs.toArray 22))
  refine (apart_fam w.heap.size cl lo vs Ls _ hf hN hLs (fun i v hv => ?_) (by simp) (fun i v hv hg => ?_)).mono fun x w' ⟨h1, h2⟩ => ⟨h1, h2.os, h2.tape, h2.output, h2.size, fun j hj hn => h2.block j hj fun ⟨i, v, hv, hg⟩ => hn ⟨(h.lt hv hg).1, (h.lt hv hg).2⟩⟩
  · rw [cell_of_row _ _ _ _ _ _ e]
    simpa using hv
  · have := (h.lt hv hg).2
    omega
/-- Only the block of v was written. -/
structure Kp (v : Value) (w w' : World) : Prop where
  os : w'.os = w.os
  tape : w'.tape = w.tape
  output : w'.output = w.output
  size : w'.heap.size = w.heap.size
  block : ∀ j, v.ownBlock ≠ some j → w'.heap[j]? = w.heap[j]?
theorem Kp.refl (v : Value) (w : World) : Kp v w w := ⟨rfl, rfl, rfl, rfl, fun _ _ => rfl⟩
theorem Kp.below {v : Value} {w0 w w' : World} (h : Kp v w w') (hb : Below w0.heap.size w0 w) (hv : ∀ g, v.ownBlock = some g → w0.heap.size ≤ g) : Below w0.heap.size w0 w' :=
  ⟨h.os.trans hb.os, h.tape.trans hb.tape, h.output.trans hb.output, by rw [h.size]; exact hb.size, fun j hj => (h.block j (fun e => by have := hv j e; omega)).trans (hb.block j hj)⟩
/-- One of its bytes is written. -/
theorem own_store {w w' : World} {lo c i : Nat} {a : Option Addr} {L : List Nat} (h : Own w' lo 5 .u8 (.slice a L.length c) L.length (ofL L)) (k : Kp (.slice a L.length c) w w') (hi : i < L.length) (x : Nat) :
    ∃ g, a = some ⟨g, 0, none⟩ ∧ w'.cell? ⟨g, i, none⟩ = some (.int .u8 ((L[i] : Nat) : Int)) ∧ w'.frozen? ⟨g, i, none⟩ = false ∧ Own (w'.setCell ⟨g, i, none⟩ (.int .u8 (x : Int))) lo 5 .u8 (.slice a L.length c) (L.set i x).length (ofL (L.set i x)) ∧ Kp (.slice a L.length c) w (w'.setCell ⟨g, i, none⟩ (.int .u8 (x : Int))) := by
  rcases h.blk with ⟨_, hn⟩ | ⟨g, c', hv, hlo, _, hm, hb⟩
  · omega
  · simp only [Value.slice.injEq, true_and] at hv
    obtain ⟨rfl, rfl⟩ := hv
    have hset := Below.refl 0 w'
    have hs := (Below.refl 0 w').setCell (p := ⟨g, i, none⟩) (Nat.zero_le _) (.int .u8 (x : Int))
    refine ⟨g, rfl, ?_, hb.frozen i, ?_, ⟨hs.os.trans k.os, hs.tape.trans k.tape, hs.output.trans k.output, by simp; exact k.size, fun j hj => (Below.heap_setCell _ _ _ _ (fun e => hj (by rw [e]; rfl))).trans (k.block j hj)⟩⟩
    · rw [hb.cell hi]
      congr 2
      unfold ofL
      rw [List.getD_eq_getElem?_getD, List.getElem?_eq_getElem hi]
      rfl
    · have hst := (hb.store i x).ext (fun j _ => ofL_set L i x hi j)
      have ho := hst.own (B := lo) (n := (L.set i x).length) hlo (by simp) hm
      rw [List.length_set] at ho ⊢
      exact ho
theorem own_turn {w w' : World} {lo c i n x : Nat} {a : Option Addr} {f : Nat → Nat} {q : List Nat} (hn : q.length = n) (h : Own w' lo 5 .u8 (.slice a n c) n (ofL (uptoG f q i))) (k : Kp (.slice a n c) w w') (hx : q[i]? = some x) :
    ∃ g, a = some ⟨g, 0, none⟩ ∧ w'.cell? ⟨g, i, none⟩ = some (.int .u8 (x : Int)) ∧ w'.frozen? ⟨g, i, none⟩ = false ∧ Own (w'.setCell ⟨g, i, none⟩ (.int .u8 ((f x : Nat) : Int))) lo 5 .u8 (.slice a n c) n (ofL (uptoG f q (i + 1))) ∧ Kp (.slice a n c) w (w'.setCell ⟨g, i, none⟩ (.int .u8 ((f x : Nat) : Int))) := by
  have hL : n = (uptoG f q i).length := by rw [uptoG_len, hn]
  have hi : i < (uptoG f q i).length := by rw [uptoG_len]; exact (List.getElem?_eq_some_iff.1 hx).1
  rw [hL] at h k ⊢
  obtain ⟨g, e, h1, h2, h3, h4⟩ := own_store h k hi (f x)
  have hxi : (uptoG f q i)[i] = x := by have := uptoG_i f q hx; rw [List.getElem?_eq_getElem hi] at this; simpa using this
  rw [hxi] at h1
  rw [List.length_set, uptoG_s f q hx] at h3
  exact ⟨g, e, h1, h2, h3, h4⟩
end Go.Proofs.Ytjphnkjikemghaa
