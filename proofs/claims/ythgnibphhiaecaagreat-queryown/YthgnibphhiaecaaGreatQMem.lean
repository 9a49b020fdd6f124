import Derived.Test.YthgnibphhiaecaaGreatQTAll
import Derived.Test.YthgnibphhiaecaaGreatAPArgAll
/-
  Predicates within predicates, in memory.
-/
namespace Go.Proofs.YthgnibphhiaecaaGreat
open Go.ChangeShapes Go.WideShapes Go.ChangeAt Go.RowKit Cu Vl

/-- A list whose block lies below B. -/
def LstB {β : Type} (f : β → List Value) (k : Nat) (w : World) (B : Nat) (a : Option Addr) (l : List β) : Prop := Lst f k w a l ∧ ∀ x, a = some x → l ≠ [] → x.block < B
theorem LstB.keep {β : Type} {f : β → List Value} {k : Nat} {w w' : World} {B : Nat} {a : Option Addr} {l : List β} (h : LstB f k w B a l) (hb : Below B w w') : LstB f k w' B a l :=
  ⟨fun j x hj => by
    obtain ⟨g, o, e, hg, hc⟩ := h.1 j x hj
    have hB : g < B := h.2 _ e (by rintro rfl; simp at hj)
    exact ⟨g, o, e, Nat.lt_of_lt_of_le hg hb.size, fun i u hu => (hb.cell (p := ⟨g, o + j * k + i, none⟩) hB).trans (hc i u hu)⟩, h.2⟩
theorem LstB.low {β : Type} {f : β → List Value} {k : Nat} {w : World} {B C : Nat} {a : Option Addr} {l : List β} (h : LstB f k w B a l) (hC : B ≤ C) : LstB f k w C a l := ⟨h.1, fun x e hl => Nat.lt_of_lt_of_le (h.2 x e hl) hC⟩
theorem LstB.of {β : Type} {f : β → List Value} {k : Nat} {w : World} {B : Nat} {a : Option Addr} {l : List β} (h : Lst f k w a l) (hB : w.heap.size ≤ B) : LstB f k w B a l := ⟨h, fun x e hl => by
  cases l with
  | nil => exact absurd rfl hl
  | cons y r =>
    obtain ⟨g, o, e2, hg, _⟩ := h 0 y rfl
    rw [e] at e2; cases e2
    show g < B
    omega⟩
theorem LstB.nil {β : Type} {f : β → List Value} {k : Nat} {w : World} {B : Nat} {a : Option Addr} : LstB f k w B a [] := ⟨Lst.nil, fun _ _ h => absurd rfl h⟩
inductive T where
  | mk (h : Hd) (la : Option Addr) (lc : Nat) (kb : Option Addr) (kc : Nat) (ks : List T) : T
def T.h : T → Hd
  | .mk h _ _ _ _ _ => h
def T.la : T → Option Addr
  | .mk _ la _ _ _ _ => la
def T.lc : T → Nat
  | .mk _ _ lc _ _ _ => lc
def T.kb : T → Option Addr
  | .mk _ _ _ kb _ _ => kb
def T.kc : T → Nat
  | .mk _ _ _ _ kc _ => kc
def T.ks : T → List T
  | .mk _ _ _ _ _ ks => ks
def T.pr (t : T) : Pr := prH t.h t.ks.length
def ta (t : T) : Array Value := pa t.pr t.la t.lc t.kb t.kc
def tv (t : T) : Value := pv t.pr t.la t.lc t.kb t.kc
def tc (t : T) : List Value := (ta t).toList
theorem tc_len (t : T) : (tc t).length = 9 := rfl
theorem tc_one (t : T) : ∀ u ∈ tc t, u.oneCell' = true := fun u hu => by
  simp [tc, ta, pa] at hu
  rcases hu with rfl | rfl | rfl | rfl | rfl | rfl | rfl | rfl | rfl <;> rfl
mutual
def T.abs : T → Q
  | .mk h _ _ _ _ ks => .mk h (absL ks)
def absL : List T → List Q
  | [] => []
  | k :: r => k.abs :: absL r
end
theorem absL_map : ∀ (ks : List T), absL ks = ks.map T.abs
  | [] => rfl
  | k :: r => by rw [absL, absL_map r]; rfl
theorem absL_len (ks : List T) : (absL ks).length = ks.length := by rw [absL_map, List.length_map]
theorem T.abs_h (t : T) : t.abs.h = t.h := by cases t; rfl
theorem T.abs_ks (t : T) : t.abs.ks = absL t.ks := by cases t; rfl
theorem T.abs_eq (t : T) : t.abs = .mk t.h (absL t.ks) := by cases t; rfl
theorem T.abs_pr (t : T) : t.abs.pr = t.pr := by cases t; simp [T.abs, Q.pr, T.pr, Q.h, Q.ks, T.h, T.ks, absL_len]
structure HdOk (h : Hd) (la : Option Addr) (lc : Nat) : Prop where
  K : In64 h.K
  op : In64 h.op
  c : h.c.size ≤ 281474976710656
  v : VOk h.v
  l : ∀ x ∈ h.l, VOk x
  n : h.l.length * 40 ≤ 140737488351232
  z : la = none → h.l.length = 0 ∧ lc = 0
structure KsOk (m : Nat) (kb : Option Addr) (kc : Nat) : Prop where
  n : m * 120 ≤ 140737488351232
  z : kb = none → m = 0 ∧ kc = 0
mutual
/-- A predicate in memory, in blocks below B. -/
def MT (w : World) (B : Nat) : T → Prop
  | .mk h la lc kb kc ks => HdOk h la lc ∧ LstB vc 4 w B la h.l ∧ KsOk ks.length kb kc ∧ LstB tc 9 w B kb ks ∧ MTL w B ks
def MTL (w : World) (B : Nat) : List T → Prop
  | [] => True
  | k :: r => MT w B k ∧ MTL w B r
end
theorem MTL_iff {w : World} {B : Nat} : ∀ {ks : List T}, MTL w B ks ↔ ∀ k ∈ ks, MT w B k
  | [] => by simp [MTL]
  | k :: r => by simp only [MTL, List.forall_mem_cons]; rw [MTL_iff]
theorem MT_iff {w : World} {B : Nat} {t : T} : MT w B t ↔ HdOk t.h t.la t.lc ∧ LstB vc 4 w B t.la t.h.l ∧ KsOk t.ks.length t.kb t.kc ∧ LstB tc 9 w B t.kb t.ks ∧ ∀ k ∈ t.ks, MT w B k := by
  cases t
  rw [MT, MTL_iff]
  rfl
mutual
def T.dep : T → Nat
  | .mk _ _ _ _ _ ks => tdepL ks + 1
def tdepL : List T → Nat
  | [] => 0
  | k :: r => max k.dep (tdepL r)
end
theorem tdepL_mem : ∀ {ks : List T} {k : T}, k ∈ ks → k.dep ≤ tdepL ks
  | x :: r, k, h => by
    simp only [tdepL]
    rcases List.mem_cons.1 h with rfl | h
    · omega
    · have := tdepL_mem h; omega
/-- Induction over predicates. -/
theorem T.ind {P : T → Prop} (h : ∀ t, (∀ k ∈ t.ks, P k) → P t) : ∀ t, P t := by
  have aux : ∀ n (t : T), t.dep ≤ n → P t := fun n => by
    induction n with
    | zero => intro t ht; cases t; simp [T.dep] at ht
    | succ n ih =>
      intro t ht
      refine h t fun k hk => ih k ?_
      cases t
      have := tdepL_mem hk
      simp only [T.dep, T.ks] at *
      omega
  exact fun t => aux _ t (Nat.le_refl _)
theorem MT.keep {w w' : World} {B : Nat} (hb : Below B w w') : ∀ (t : T), MT w B t → MT w' B t := by
  refine T.ind fun t ih h => ?_
  rw [MT_iff] at *
  exact ⟨h.1, h.2.1.keep hb, h.2.2.1, h.2.2.2.1.keep hb, fun k hk => ih k hk (h.2.2.2.2 k hk)⟩
theorem MT.low {w : World} {B C : Nat} (hC : B ≤ C) : ∀ (t : T), MT w B t → MT w C t := by
  refine T.ind fun t ih h => ?_
  rw [MT_iff] at *
  exact ⟨h.1, h.2.1.low hC, h.2.2.1, h.2.2.2.1.low hC, fun k hk => ih k hk (h.2.2.2.2 k hk)⟩
theorem MT.pok {w : World} {B : Nat} {t : T} (h : MT w B t) : POk w t.pr t.la := by
  rw [MT_iff] at h
  obtain ⟨h1, h2, h3, _, _⟩ := h
  exact ⟨h1.v, h1.l, h2.1, by have := h1.n; show t.h.l.length ≤ _; omega, by have := h3.n; show t.ks.length ≤ _; omega⟩
/-- A kid's cells. -/
theorem MT.kid {w : World} {B : Nat} {t : T} (h : MT w B t) {i : Nat} (hi : i < t.ks.length) : ∃ g o, t.kb = some ⟨g, o, none⟩ ∧ g < B ∧ g < w.heap.size ∧ (∀ k u, (tc t.ks[i])[k]? = some u → w.cell? ⟨g, o + i * 9 + k, none⟩ = some u) ∧ MT w B t.ks[i] := by
  rw [MT_iff] at h
  obtain ⟨_, _, _, h4, h5⟩ := h
  obtain ⟨g, o, e, hg, hc⟩ := h4.1 i t.ks[i] (List.getElem?_eq_getElem hi)
  exact ⟨g, o, e, h4.2 _ e (by intro e2; rw [e2] at hi; simp at hi), hg, hc, h5 _ (List.getElem_mem hi)⟩
/-! ### Arguments -/
theorem MT.pt {w : World} {B gC : Nat} (hC : B ≤ gC) : ∀ (t : T), MT w B t → ∀ k, PT w gC k t.kb t.ks.length := by
  refine T.ind fun t ih h k => ?_
  cases k with
  | zero => trivial
  | succ k =>
    intro i hi
    obtain ⟨g, o, e, hg, _, hc, hm⟩ := h.kid hi
    have h8 := hc 8 _ rfl
    have hm' := hm
    rw [MT_iff] at hm'
    exact ⟨g, o, t.ks[i].kb, t.ks[i].ks.length, t.ks[i].kc, e, by omega, h8, by have := hm'.2.2.1.n; omega, ih _ (List.getElem_mem hi) hm k⟩
def T.ofKd (x : Kd) (l : List V) (ks : List T) : T := .mk ⟨x.K, x.c, x.op, x.v, l⟩ x.a x.d x.b x.e ks
theorem ofKd_cells (x : Kd) (l : List V) (ks : List T) (h1 : l.length = x.n) (h2 : ks.length = x.m) : tc (T.ofKd x l ks) = kdc x := by
  unfold tc ta T.pr T.ofKd pa prH kdc T.h T.ks T.la T.lc T.kb T.kc
  simp [h1, h2]
end Go.Proofs.YthgnibphhiaecaaGreat
