/-
  Only these blocks were written (out of QOvM, without what speaks of marks: QueryOwn's seat lacks them).
-/
import Derived.Test.YthgnibphhiaecaaGreatQOwn
namespace Go.Proofs.YthgnibphhiaecaaGreat
open Go.ChangeShapes Go.WideShapes Go.ChangeAt Go.RowKit Cu Vl

def T.setO (t : T) (o : Int) : T := .mk ⟨t.h.K, t.h.c, o, t.h.v, t.h.l⟩ t.la t.lc t.kb t.kc t.ks
theorem blk_setO (t : T) (o : Int) : (t.setO o).blk = t.blk := by cases t; rfl
theorem in64_wrapQ (x : Int) : In64 (wrap64 x) := by
  rw [← IntWalk.i64_left, IntKind.wrap_i64]; constructor <;> omega
/-- Only these blocks were written; new ones are there. -/
structure Fr (bl : List Nat) (B : Nat) (w w' : World) : Prop where
  below : Below B w w'
  same : ∀ b, b < w.heap.size → b ∉ bl → w'.heap[b]? = w.heap[b]?
theorem Fr.refl (bl : List Nat) (B : Nat) (w : World) : Fr bl B w w := ⟨Below.refl _ _, fun _ _ _ => rfl⟩
theorem Fr.trans {bl : List Nat} {B : Nat} {a b c : World} (h : Fr bl B a b) (k : Fr bl B b c) : Fr bl B a c := ⟨h.below.trans k.below, fun g hg hn => (k.same g (Nat.lt_of_lt_of_le hg h.below.size) hn).trans (h.same g hg hn)⟩
theorem Fr.sub {bl bl' : List Nat} {B : Nat} {a b : World} (h : Fr bl B a b) (hs : ∀ x ∈ bl, x ∈ bl') : Fr bl' B a b := ⟨h.below, fun g hg hn => h.same g hg fun hm => hn (hs g hm)⟩
theorem Fr.new {bl : List Nat} {B : Nat} {a b : World} (h : Below a.heap.size a b) (hB : B ≤ a.heap.size) : Fr bl B a b := ⟨h.mono hB, fun g hg _ => h.block g hg⟩
theorem Fr.set {bl : List Nat} {B g : Nat} (w : World) (i : Nat) (u : Value) (hg : g ∈ bl) (hB : B ≤ g) : Fr bl B w (w.setCell ⟨g, i, none⟩ u) := ⟨(Below.refl B w).setCell (p := ⟨g, i, none⟩) hB u, fun b _ hn => Below.heap_setCell _ _ _ _ (by show b ≠ g; rintro rfl; exact hn hg)⟩
theorem mix_set {α : Type} (f : α → α) (l : List α) {i : Nat} (hi : i < l.length) : ((l.take i).map f ++ l.drop i).set i (f l[i]) = (l.take (i + 1)).map f ++ l.drop (i + 1) := by
  rw [List.set_append_right _ _ (by simp; omega)]
  simp only [List.length_map, List.length_take, Nat.min_eq_left (Nat.le_of_lt hi), Nat.sub_self]
  rw [List.drop_eq_getElem_cons hi, List.set_cons_zero, List.take_add_one, List.getElem?_eq_getElem hi]
  simp only [List.map_append, Option.toList_some, List.map_cons, List.map_nil, List.append_assoc, List.cons_append, List.nil_append]
theorem mix_get {α : Type} (f : α → α) (l : List α) {i : Nat} (hi : i < l.length) (h : i < ((l.take i).map f ++ l.drop i).length) : ((l.take i).map f ++ l.drop i)[i] = l[i] := by
  rw [List.getElem_append_right (by simp; omega)]
  simp [Nat.min_eq_left (Nat.le_of_lt hi)]
end Go.Proofs.YthgnibphhiaecaaGreat
