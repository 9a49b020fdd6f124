/-
  Stamps: what law.stamp leaves. (Written by mkspl.py.)
-/
import Derived.Test.YthgnibphhiaecaaGreatQSpl
namespace Go.Proofs.YthgnibphhiaecaaGreat
open Go.ChangeShapes Go.WideShapes Go.ChangeAt Go.RowKit Cu Vl
attribute [local go_sem] run_store_float

def num (n : Int) : Nat → Int
  | 0 => n
  | i + 1 => wrap64 (num n i + 1)
theorem num_in {n : Int} (h : In64 n) : ∀ i, In64 (num n i)
  | 0 => h
  | _ + 1 => in64_wrapQ _
def stv (n : Int) (i : Nat) : V := ⟨1, num n i, 0, ⟨#[]⟩⟩
def stl (n : Int) (l : List V) (i : Nat) : List V := (List.range i).map (stv n) ++ l.drop i
theorem stl_len (n : Int) (l : List V) {i : Nat} (h : i ≤ l.length) : (stl n l i).length = l.length := by simp [stl]; omega
theorem stl_set (n : Int) (l : List V) {i : Nat} (h : i < l.length) : (stl n l i).set i (stv n i) = stl n l (i + 1) := by
  unfold stl
  rw [List.set_append_right _ _ (by simp), List.length_map, List.length_range, Nat.sub_self, List.drop_eq_getElem_cons h, List.set_cons_zero, List.range_succ, List.map_append, List.append_assoc]
  rfl
mutual
/-- Stamped from n on, up to m. -/
def StOk : T → Int → Int → Prop
  | .mk h _ _ _ _ ks, n, m => (∀ i x, h.l[i]? = some x → x.I = num n i) ∧ StL ks (num n h.l.length) m
def StL : List T → Int → Int → Prop
  | [], n, m => n = m
  | k :: r, n, m => k.h.op = n ∧ ∃ m1, StOk k (wrap64 (n + 1)) m1 ∧ StL r m1 m
end
theorem StOk_iff {t : T} {n m : Int} : StOk t n m ↔ (∀ i x, t.h.l[i]? = some x → x.I = num n i) ∧ StL t.ks (num n t.h.l.length) m := by
  cases t
  rw [StOk]
  rfl
theorem StL_snoc {us : List T} {n m m' : Int} {u : T} (h : StL us n m) (ho : u.h.op = m) (hu : StOk u (wrap64 (m + 1)) m') : StL (us ++ [u]) n m' := by
  induction us generalizing n with
  | nil =>
    rw [StL] at h
    subst h
    rw [List.nil_append, StL]
    exact ⟨ho, m', hu, by rw [StL]⟩
  | cons k r ih =>
    rw [StL] at h
    obtain ⟨h1, m1, h2, h3⟩ := h
    rw [List.cons_append, StL]
    exact ⟨h1, m1, h2, ih h3⟩
theorem blkL_same : ∀ {us ks : List T}, us.map T.blk = ks.map T.blk → blkL us = blkL ks
  | [], [], _ => rfl
  | [], _ :: _, h => by simp at h
  | _ :: _, [], h => by simp at h
  | u :: us, k :: ks, h => by
    simp only [List.map_cons, List.cons.injEq] at h
    rw [blkL, blkL, h.1, blkL_same h.2]
theorem OwnL.congr {β : Type} {f : β → List Value} {k : Nat} {w : World} {B : Nat} {e : TypeId} {v : Value} {l l' : List β} (h : OwnL f k w B e v l) (he : l.map f = l'.map f) : OwnL f k w B e v l' := by
  have h1 : l.length = l'.length := by have := congrArg List.length he; simpa using this
  have h2 : l.flatMap f = l'.flatMap f := by rw [List.flatMap_def, List.flatMap_def, he]
  unfold OwnL at h ⊢
  rwa [h1, h2] at h
theorem tc_op {t : T} : (tc t)[2]? = some (.int .i64 t.h.op) := rfl
theorem tc_len_eq {h : Hd} {l : List V} {la : Option Addr} {lc : Nat} {kb : Option Addr} {kc : Nat} {ks us : List T} (hl : l.length = h.l.length) (hu : us.length = ks.length) : tc (T.mk ⟨h.K, h.c, h.op, h.v, l⟩ la lc kb kc us) = tc (T.mk h la lc kb kc ks) := by
  simp only [tc, ta, T.pr, T.h, T.la, T.lc, T.kb, T.kc, T.ks, prH, pa, hl, hu]
theorem FT.setO {w : World} {B : Nat} {t : T} (h : FT w B t) {o : Int} (ho : In64 o) : FT w B (t.setO o) := by
  refine ⟨?_, by rw [blk_setO]; exact h.2⟩
  have hn := NT_iff.1 h.1
  exact NT_iff.2 ⟨⟨⟨hn.1.1.K, ho, hn.1.1.c, hn.1.1.v, hn.1.1.l, hn.1.1.n⟩, hn.1.2⟩, hn.2.1, hn.2.2.1, hn.2.2.2⟩
end Go.Proofs.YthgnibphhiaecaaGreat
