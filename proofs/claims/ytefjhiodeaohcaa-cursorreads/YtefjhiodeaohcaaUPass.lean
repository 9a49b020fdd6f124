/-
  What stays while something else is written.
-/
import Derived.Test.YtefjhiodeaohcaaPGrown
import Derived.Test.YtefjhiodeaohcaaPAskN
import Derived.Test.YtefjhiodeaohcaaUArgs
namespace Go.Proofs.Ytefjhiodeaohcaa
open Go.RowKit Cu

/-- Below B only blocks of S were written. -/
structure Pass (B : Nat) (S : Nat → Prop) (w w' : World) : Prop where
  os : w'.os = w.os
  tape : w'.tape = w.tape
  output : w'.output = w.output
  size : w.heap.size ≤ w'.heap.size
  block : ∀ j, j < B → ¬ S j → w'.heap[j]? = w.heap[j]?
theorem Pass.refl (B : Nat) (S : Nat → Prop) (w : World) : Pass B S w w := ⟨rfl, rfl, rfl, Nat.le_refl _, fun _ _ _ => rfl⟩
theorem Pass.trans {B : Nat} {S : Nat → Prop} {a b c : World} (h : Pass B S a b) (k : Pass B S b c) : Pass B S a c :=
  ⟨k.os.trans h.os, k.tape.trans h.tape, k.output.trans h.output, Nat.le_trans h.size k.size, fun j hj hs => (k.block j hj hs).trans (h.block j hj hs)⟩
theorem Pass.less {B C : Nat} {S S' : Nat → Prop} {a b : World} (h : Pass B S a b) (hC : C ≤ B) (hS : ∀ j, S j → S' j) : Pass C S' a b :=
  ⟨h.os, h.tape, h.output, h.size, fun j hj hs => h.block j (Nat.lt_of_lt_of_le hj hC) (fun k => hs (hS j k))⟩
theorem pass_hit {B : Nat} {S : Nat → Prop} {g : Nat} {w w' : World} (h : Hit g w w') (hB : B ≤ w.heap.size) (hg : S g ∨ B ≤ g) : Pass B S w w' :=
  ⟨h.os, h.tape, h.output, h.size, fun j hj hs => h.block j (Nat.lt_of_lt_of_le hj hB) (fun e => by subst e; rcases hg with k | k; exact hs k; omega)⟩
theorem pass_below {B C : Nat} {S : Nat → Prop} {w w' : World} (h : Below C w w') (hB : B ≤ C) : Pass B S w w' :=
  ⟨h.os, h.tape, h.output, h.size, fun j hj _ => h.block j (Nat.lt_of_lt_of_le hj hB)⟩
theorem pass_up {B : Nat} {S : Nat → Prop} {w0 w w' : World} (h : Below w0.heap.size w0 w) (k : Pass B S w w') (hB : w0.heap.size ≤ B) (hS : ∀ j, S j → w0.heap.size ≤ j) : Below w0.heap.size w0 w' :=
  ⟨k.os.trans h.os, k.tape.trans h.tape, k.output.trans h.output, Nat.le_trans h.size k.size, fun j hj => (k.block j (by omega) (fun s => by have := hS j s; omega)).trans (h.block j hj)⟩
theorem bytes_pass {B : Nat} {S : Nat → Prop} {w w' : World} {a : Option Addr} {l : List Nat} (h : Bytes w a l) (k : Pass B S w w') (ha : ∀ x, a = some x → x.block < B ∧ ¬ S x.block) : Bytes w' a l :=
  h.kept (fun x hx => k.block _ (ha x hx).1 (ha x hx).2) k.size
theorem lb_pass {B : Nat} {S : Nat → Prop} {w w' : World} {b c : Nat} {L : List Nat} (h : LB w b c L) (k : Pass B S w w') (hb : b < B) (hs : ¬ S b) : LB w' b c L := h.kept (k.block b hb hs)
theorem ref_pass {B : Nat} {S : Nat → Prop} {w w' : World} {lo hi g : Nat} {r : Rd} (h : RefRd w lo hi g r) (k : Pass B S w w') (hB : hi ≤ B) (hs : ∀ j, lo ≤ j → j < hi → ¬ S j) : RefRd w' lo hi g r :=
  h.stay (fun j h1 h2 => k.block j (by omega) (hs j h1 h2)) k.size
theorem prog_pass {B : Nat} {S : Nat → Prop} {w w' : World} {lo hi g : Nat} {r : Rd} (h : ProgRd w lo hi g r) (k : Pass B S w w') (hB : hi ≤ B) (hs : ∀ j, lo ≤ j → j < hi → ¬ S j) : ProgRd w' lo hi g r :=
  h.stay (fun j h1 h2 => k.block j (by omega) (hs j h1 h2)) k.size
/-- A byte is stored into a list that is owned. -/
theorem own_store {w : World} {B g n c : Nat} {l : List Nat} (h : Own w B 5 .u8 (.slice (some ⟨g, 0, none⟩) n c) l.length (ofL l)) (hl : l.length = n) {i : Nat} (x : Nat) (hi : i < n) : Own (w.setCell ⟨g, i, none⟩ (.int .u8 (x : Int))) B 5 .u8 (.slice (some ⟨g, 0, none⟩) n c) (l.set i x).length (ofL (l.set i x)) := by
  subst hl
  rcases h.blk with ⟨hv, h0⟩ | ⟨g', c', hv, hB, hg, hc, hb⟩
  · cases hv
  · cases hv
    have h2 := hb.store i x
    rw [List.length_set]
    exact (h2.own hB (Nat.le_refl _) hc).ext fun j _ => ofL_set l i x hi j
/-- A text is stored into a list that is owned. -/
theorem ownS_store {w : World} {B g n c : Nat} {T : List ByteArray} (h : OwnS w B (.slice (some ⟨g, 0, none⟩) n c) T) (hl : T.length = n) {i : Nat} (s : ByteArray) : OwnS (w.setCell ⟨g, i, none⟩ (.string s)) B (.slice (some ⟨g, 0, none⟩) n c) (T.set i s) := by
  subst hl
  rcases h.2 with ⟨hv, _⟩ | ⟨g', cap, cur, hv, hB, hg, hn, hm, hs, ht⟩
  · cases hv
  · cases hv
    refine ⟨by simp [svals], .inr ⟨g, c, cur.setIfInBounds i (.string s), by rw [List.length_set], hB, heap_set_row hg _, by rw [List.length_set]; exact hn, hm, by simpa using hs, ?_⟩⟩
    rw [List.length_set, Nat.mul_one] at *
    have e1 : (cur.setIfInBounds i (Value.string s)).toList = cur.toList.set i (.string s) := by simp
    rw [e1, List.take_set, ht]
    unfold svals
    rw [List.map_set]
theorem ownS_cell {w : World} {B g n c : Nat} {T : List ByteArray} (h : OwnS w B (.slice (some ⟨g, 0, none⟩) n c) T) (hl : T.length = n) {i : Nat} (hi : i < n) : (∃ s, w.cell? ⟨g, i, none⟩ = some (.string s)) ∧ w.frozen? ⟨g, i, none⟩ = false ∧ B ≤ g := by
  subst hl
  obtain ⟨a, c', hv, _, _, _, hs⟩ := h.form
  cases hv
  obtain ⟨g', o, e, _, hc⟩ := hs i _ (List.getElem?_eq_getElem hi)
  cases e
  rw [Nat.zero_add] at hc
  refine ⟨⟨_, hc⟩, ?_, (h.lt g rfl).1⟩
  rcases h.2 with ⟨hv, _⟩ | ⟨g', cap, cur, hv, hB, hg, _⟩
  · cases hv
  · cases hv
    unfold World.frozen?; rw [hg]; rfl
theorem own_cell {w : World} {B g n c : Nat} {l : List Nat} (h : Own w B 5 .u8 (.slice (some ⟨g, 0, none⟩) n c) l.length (ofL l)) (hl : l.length = n) {i : Nat} (hi : i < n) : w.cell? ⟨g, i, none⟩ = some (.int .u8 (ofL l i : Nat)) ∧ w.frozen? ⟨g, i, none⟩ = false ∧ B ≤ g := by
  subst hl
  rcases h.blk with ⟨hv, _⟩ | ⟨g', c', hv, hB, hg, hc, hb⟩
  · cases hv
  · cases hv
    exact ⟨hb.cell hi, hb.frozen i, hB⟩
theorem own_at {w : World} {B n c : Nat} {a : Option Addr} {l : List Nat} (h : Own w B 5 .u8 (.slice a n c) l.length (ofL l)) (hn : 0 < n) : ∃ g, a = some ⟨g, 0, none⟩ := by
  rcases h.blk with ⟨hv, _⟩ | ⟨g', c', hv, _⟩
  · cases hv; omega
  · cases hv; exact ⟨_, rfl⟩
theorem ownS_at {w : World} {B n c : Nat} {a : Option Addr} {T : List ByteArray} (h : OwnS w B (.slice a n c) T) (hn : 0 < n) : ∃ g, a = some ⟨g, 0, none⟩ := by
  rcases h.2 with ⟨hv, _⟩ | ⟨g', cap, cur, hv, _⟩
  · cases hv; omega
  · cases hv; exact ⟨_, rfl⟩
theorem ownS_far {w : World} {B g : Nat} {v : Value} {n : Nat} {L : Nat → Nat} {u : Value} {T : List ByteArray} (h : Own w B 5 .u8 v n L) (hv : v.ownBlock = some g) (k : OwnS w B u T) (i : Nat) (x : Value) : OwnS (w.setCell ⟨g, i, none⟩ x) B u T :=
  k.kept fun b hb => Below.heap_setCell _ _ _ _ (fun e => own_off h k hv (by rw [hb, e]))
theorem own_far {w : World} {B g : Nat} {v : Value} {n : Nat} {L : Nat → Nat} {u : Value} {T : List ByteArray} (h : Own w B 5 .u8 v n L) (k : OwnS w B u T) (hu : u.ownBlock = some g) (i : Nat) (x : Value) : Own (w.setCell ⟨g, i, none⟩ x) B 5 .u8 v n L :=
  h.kept fun b hb => Below.heap_setCell _ _ _ _ (fun e => own_off h k hb (by rw [hu, e]))
theorem OwnS.form_strs {w : World} {B : Nat} {a : Option Addr} {n c : Nat} {T : List ByteArray} (h : OwnS w B (.slice a n c) T) : Strs w a T := by
  obtain ⟨a', c', hv, _, _, _, hs⟩ := h.form
  cases hv
  exact hs
end Go.Proofs.Ytefjhiodeaohcaa
