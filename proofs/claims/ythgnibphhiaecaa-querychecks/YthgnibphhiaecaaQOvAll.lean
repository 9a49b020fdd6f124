/-
  What Over leaves: the same tree, other values, other Ops; writes into a tree of one's own.
-/
import Derived.Test.YthgnibphhiaecaaQLent
namespace Go.Proofs.Ythgnibphhiaecaa
open Go.ChangeShapes Go.WideShapes Go.ChangeAt Go.RowKit Cu Vl

def ovV (turn : Int) (v : V) : V :=
  if turn = 1 then v0 else if v.K = 1 then ⟨v.K, wrap64 (v.I + 1), v.b, v.s⟩ else if v.K = 2 ∧ v.s.size < 60000 then ⟨v.K, v.I, v.b, v.s ++ ⟨#[97]⟩⟩ else v
def ovO (turn K op : Int) : Int := if K = 1 then (if turn = 1 then 0 else wrap64 (7 - op)) else op
def ovH (turn : Int) (h : Hd) : Hd := ⟨h.K, h.c, h.op, h.v, h.l.map (ovV turn)⟩
def T.setO (t : T) (o : Int) : T := .mk ⟨t.h.K, t.h.c, o, t.h.v, t.h.l⟩ t.la t.lc t.kb t.kc t.ks
def T.setL (t : T) (l : List V) : T := .mk ⟨t.h.K, t.h.c, t.h.op, t.h.v, l⟩ t.la t.lc t.kb t.kc t.ks
def T.setK (t : T) (ks : List T) : T := .mk t.h t.la t.lc t.kb t.kc ks
def opT (turn : Int) (t : T) : T := t.setO (ovO turn t.h.K t.h.op)
mutual
def ovT (turn : Int) : T → T
  | .mk h la lc kb kc ks => .mk (ovH turn h) la lc kb kc (ovTL turn ks)
def ovTL (turn : Int) : List T → List T
  | [] => []
  | k :: r => opT turn (ovT turn k) :: ovTL turn r
end
theorem ovTL_map (turn : Int) : ∀ (ks : List T), ovTL turn ks = ks.map fun k => opT turn (ovT turn k)
  | [] => rfl
  | k :: r => by rw [ovTL, ovTL_map turn r]; rfl
theorem ov_op (turn : Int) (t : T) : ovT turn (opT turn t) = opT turn (ovT turn t) := by cases t; rfl
theorem ovT_ks (turn : Int) (t : T) : (ovT turn t).ks = t.ks.map fun k => ovT turn (opT turn k) := by
  cases t
  simp only [ovT, T.ks, ovTL_map, ov_op]
theorem ovT_eq (turn : Int) (t : T) : ovT turn t = (t.setL (t.h.l.map (ovV turn))).setK (t.ks.map fun k => ovT turn (opT turn k)) := by
  cases t
  simp only [ovT, T.setL, T.setK, T.ks, T.h, T.la, T.lc, T.kb, T.kc, ovTL_map, ov_op, ovH]
theorem blk_setO (t : T) (o : Int) : (t.setO o).blk = t.blk := by cases t; rfl
theorem blk_setL (t : T) (l : List V) : (t.setL l).blk = t.blk := by cases t; rfl
theorem blk_ovT (turn : Int) : ∀ (t : T), (ovT turn t).blk = t.blk := by
  refine T.ind fun t ih => ?_
  rw [blk_eq, blk_eq t, ovT_ks]
  have e : ∀ (ks : List T), (∀ k ∈ ks, (ovT turn k).blk = k.blk) → blkL (ks.map fun k => ovT turn (opT turn k)) = blkL ks := by
    intro ks
    induction ks with
    | nil => intro _; rfl
    | cons k r ih2 =>
      intro h
      simp only [List.map_cons, blkL]
      rw [ih2 fun x hx => h x (List.mem_cons_of_mem _ hx), ov_op, opT, blk_setO, h k List.mem_cons_self]
  rw [e t.ks ih]
  cases t; rfl
theorem sz_opT (turn : Int) (t : T) : (opT turn t).abs.sz = t.abs.sz := by cases t; rfl
theorem sz_ovT (turn : Int) : ∀ (t : T), (ovT turn t).abs.sz = t.abs.sz := by
  refine T.ind fun t ih => ?_
  rw [Q.sz_eq, Q.sz_eq t.abs, T.abs_ks, T.abs_ks, ovT_ks]
  have e : ∀ (ks : List T), (∀ k ∈ ks, (ovT turn k).abs.sz = k.abs.sz) → szL (absL (ks.map fun k => ovT turn (opT turn k))) = szL (absL ks) := by
    intro ks
    induction ks with
    | nil => intro _; rfl
    | cons k r ih2 =>
      intro h
      simp only [List.map_cons, absL, szL]
      rw [ih2 fun x hx => h x (List.mem_cons_of_mem _ hx), ov_op, sz_opT, h k List.mem_cons_self]
  rw [e t.ks ih]
theorem in64_wrapQ (x : Int) : In64 (wrap64 x) := by
  rw [← IntWalk.i64_left, IntKind.wrap_i64]; constructor <;> omega
theorem VOk.ov {v : V} (h : VOk v) (turn : Int) : VOk (ovV turn v) := by
  unfold ovV
  split
  · exact v0_okN
  split
  · exact ⟨h.k, in64_wrapQ _, h.b, h.s⟩
  split
  · rename_i h1
    exact ⟨h.k, h.i, h.b, by show (v.s ++ ⟨#[97]⟩ : ByteArray).size ≤ _; rw [ByteArray.size_append]; have := h1.2; show v.s.size + 1 ≤ _; omega⟩
  · exact h
/-! ### A tree of one's own, marks behind its lists -/
structure GT (w : World) (B : Nat) (t : T) : Prop where
  ft : FT w B t
  ln : LenT w t
  hi : B ≤ w.heap.size
/-- Only these blocks were written; new ones are there. -/
structure Fr (bl : List Nat) (B : Nat) (w w' : World) : Prop where
  below : Below B w w'
  same : ∀ b, b < w.heap.size → b ∉ bl → w'.heap[b]? = w.heap[b]?
theorem Fr.refl (bl : List Nat) (B : Nat) (w : World) : Fr bl B w w := ⟨Below.refl _ _, fun _ _ _ => rfl⟩
theorem Fr.trans {bl : List Nat} {B : Nat} {a b c : World} (h : Fr bl B a b) (k : Fr bl B b c) : Fr bl B a c := ⟨h.below.trans k.below, fun g hg hn => (k.same g (Nat.lt_of_lt_of_le hg h.below.size) hn).trans (h.same g hg hn)⟩
theorem Fr.sub {bl bl' : List Nat} {B : Nat} {a b : World} (h : Fr bl B a b) (hs : ∀ x ∈ bl, x ∈ bl') : Fr bl' B a b := ⟨h.below, fun g hg hn => h.same g hg fun hm => hn (hs g hm)⟩
theorem Fr.new {bl : List Nat} {B : Nat} {a b : World} (h : Below a.heap.size a b) (hB : B ≤ a.heap.size) : Fr bl B a b := ⟨h.mono hB, fun g hg _ => h.block g hg⟩
theorem Fr.set {bl : List Nat} {B g : Nat} (w : World) (i : Nat) (u : Value) (hg : g ∈ bl) (hB : B ≤ g) : Fr bl B w (w.setCell ⟨g, i, none⟩ u) := ⟨(Below.refl B w).setCell (p := ⟨g, i, none⟩) hB u, fun b _ hn => Below.heap_setCell _ _ _ _ (by show b ≠ g; rintro rfl; exact hn hg)⟩
theorem GT.later {w w' : World} {B : Nat} {t : T} (h : GT w B t) (hb : Below w.heap.size w w') : GT w' B t := ⟨⟨NT.later hb h.ft.1, h.ft.2⟩, LenT.later hb t h.ln, Nat.le_trans h.hi hb.size⟩
theorem GT.kept {w w' : World} {B : Nat} {t : T} (h : GT w B t) {bl : List Nat} (hf : Fr bl B w w') (hn : ∀ b ∈ t.blk, b ∉ bl) : GT w' B t :=
  ⟨⟨NT.kept t (fun b hb => hf.same b (NT.lt t h.ft.1 b hb).2 (hn b hb)) h.ft.1, h.ft.2⟩, LenT.kept hf.below.size t (fun b hb => hf.same b (NT.lt t h.ft.1 b hb).2 (hn b hb)) h.ln, Nat.le_trans h.hi hf.below.size⟩
theorem GT.mt {w : World} {B : Nat} {t : T} (h : GT w B t) : MT w w.heap.size t := NT.mt t h.ft.1
theorem GT.kid {w : World} {B : Nat} {t : T} (h : GT w B t) {k : T} (hk : k ∈ t.ks) : GT w B k := by
  refine ⟨⟨(NT_iff.1 h.ft.1).2.2.2 k hk, ?_⟩, (LenT_iff.1 h.ln).2.2 k hk, h.hi⟩
  have hd := h.ft.2
  rw [blk_eq] at hd
  have hd := (List.nodup_append.1 (List.nodup_append.1 hd).2.1).2.1
  obtain ⟨i, hi, rfl⟩ := List.getElem_of_mem hk
  have e : t.ks = t.ks.take i ++ t.ks[i] :: t.ks.drop (i + 1) := by simp
  rw [e, blkL_app] at hd
  exact (List.nodup_append.1 (List.nodup_append.1 hd).2.1).1
theorem MarkAt.set {w : World} {g n c k : Nat} {m : Int} (h : MarkAt w (some ⟨g, 0, none⟩) n c k m) {i : Nat} (hi : i < n * k) (u : Value) : MarkAt (w.setCell ⟨g, i, none⟩ u) (some ⟨g, 0, none⟩) n c k m := by
  obtain ⟨g', o, e, hg, hc, hn⟩ := h
  cases e
  refine ⟨g, 0, rfl, by simpa using hg, ?_, hn⟩
  have hne : (⟨g, i, none⟩ : Addr) ≠ ⟨g, 0 + n * k, none⟩ := by intro e; have e2 : i = 0 + n * k := congrArg Addr.off e; omega
  rw [World.cell?_setCell_other (h := hne)]
  exact hc
theorem MarkAt.far {w : World} {a : Option Addr} {n c k : Nat} {m : Int} (h : MarkAt w a n c k m) {g : Nat} (hg : g ∉ blkO a) (i : Nat) (u : Value) : MarkAt (w.setCell ⟨g, i, none⟩ u) a n c k m :=
  h.kept (fun b hb => Below.heap_setCell _ _ _ _ (by show b ≠ g; rintro rfl; exact hg hb)) (by simp)
/-- A cell of a value of the list is written. -/
theorem GT.setV {w : World} {B : Nat} {t : T} (h : GT w B t) {j : Nat} (hj : j < t.h.l.length) {i : Nat} (hi : i < 4) (u : Value) (y : V) (hy : vc y = (vc t.h.l[j]).set i u) (hv : VOk y) :
    ∃ g, t.la = some ⟨g, 0, none⟩ ∧ g < w.heap.size ∧ w.frozen? ⟨g, j * 4 + i, none⟩ = false ∧ GT (w.setCell ⟨g, j * 4 + i, none⟩ u) B (t.setL (t.h.l.set j y)) ∧ Fr t.blk B w (w.setCell ⟨g, j * 4 + i, none⟩ u) := by
  have hh := NT_iff.1 h.ft.1
  have hd := h.ft.2
  rw [blk_eq] at hd
  obtain ⟨g, c, e, hB, hg, _, hz, ho⟩ := OwnL.at vc_len hh.2.1 (List.getElem?_eq_getElem hj) hi u y hy
  simp only [Value.slice.injEq, true_and] at e
  obtain ⟨e1, e2⟩ := e
  have hgb : g ∈ t.blk := by rw [blk_eq, e1]; simp [blkO]
  have hne : ∀ b ∈ blkO t.kb ++ blkL t.ks, b ≠ g := fun b hb e => (List.nodup_append.1 hd).2.2 g (by rw [e1]; simp [blkO]) b hb e.symm
  refine ⟨g, e1, hg, hz, ⟨⟨?_, by rw [blk_setL]; exact h.ft.2⟩, ?_, by simpa using h.hi⟩, Fr.set w _ u hgb hB⟩
  · rw [NT_iff]
    refine ⟨⟨⟨hh.1.1.K, hh.1.1.op, hh.1.1.c, hh.1.1.v, fun x hx => ?_, by show (t.h.l.set j y).length * 40 ≤ _; rw [List.length_set]; exact hh.1.1.n⟩, hh.1.2⟩, ?_, ?_, fun k hk => ?_⟩
    · rcases List.mem_or_eq_of_mem_set hx with hx | rfl
      · exact hh.1.1.l x hx
      · exact hv
    · show OwnL vc 4 _ B _ (.slice t.la (t.h.l.set j y).length t.lc) (t.h.l.set j y)
      rw [List.length_set]
      exact ho
    · exact hh.2.2.1.kept fun b hb => Below.heap_setCell _ _ _ _ (hne b (List.mem_append_left _ (blk_own hb)))
    · exact NT.kept k (fun b hb => Below.heap_setCell _ _ _ _ (hne b (List.mem_append_right _ (blkL_mem.2 ⟨k, hk, hb⟩)))) (hh.2.2.2 k hk)
  · have hl := LenT_iff.1 h.ln
    rw [LenT_iff]
    refine ⟨?_, hl.2.1.far (fun hb => hne g (List.mem_append_left _ hb) rfl) _ _, fun k hk => ?_⟩
    · have h1 := hl.1
      show MarkAt _ t.la (t.h.l.set j y).length t.lc 4 71
      rw [List.length_set]
      rw [e1] at h1 ⊢
      exact h1.set (by have := Nat.mul_le_mul_right 4 hj; simp only [Nat.succ_eq_add_one, Nat.add_mul] at this; omega) u
    · exact LenT.kept (by simp) k (fun b hb => Below.heap_setCell _ _ _ _ (hne b (List.mem_append_right _ (blkL_mem.2 ⟨k, hk, hb⟩)))) (hl.2.2 k hk)
/-- A cell of a kid is written. -/
theorem GT.setC {w : World} {B : Nat} {t : T} (h : GT w B t) {j : Nat} (hj : j < t.ks.length) (o : Int) (ho : In64 o) :
    ∃ g, t.kb = some ⟨g, 0, none⟩ ∧ g < w.heap.size ∧ w.frozen? ⟨g, j * 9 + 2, none⟩ = false ∧ GT (w.setCell ⟨g, j * 9 + 2, none⟩ (.int .i64 o)) B (t.setK (t.ks.set j (t.ks[j].setO o))) ∧ Fr t.blk B w (w.setCell ⟨g, j * 9 + 2, none⟩ (.int .i64 o)) := by
  have hh := NT_iff.1 h.ft.1
  have hd := h.ft.2
  rw [blk_eq] at hd
  have hk9 : tc (t.ks[j].setO o) = (tc t.ks[j]).set 2 (.int .i64 o) := by
    generalize t.ks[j] = x
    obtain ⟨⟨xK, xc, xo, ⟨xvK, xvI, xvb, xvs⟩, xl⟩, xla, xlc, xkb, xkc, xks⟩ := x
    rfl
  obtain ⟨g, c, e, hB, hg, _, hz, hw⟩ := OwnL.at tc_len hh.2.2.1 (List.getElem?_eq_getElem hj) (by omega : 2 < 9) (.int .i64 o) _ hk9
  simp only [Value.slice.injEq, true_and] at e
  obtain ⟨e1, e2⟩ := e
  have hgb : g ∈ t.blk := by rw [blk_eq, e1]; simp [blkO]
  have hn1 : ∀ b ∈ blkO t.la, b ≠ g := fun b hb e => (List.nodup_append.1 hd).2.2 b hb g (by rw [e1]; simp [blkO]) e
  have hn2 : ∀ b ∈ blkL t.ks, b ≠ g := fun b hb e => (List.nodup_append.1 (List.nodup_append.1 hd).2.1).2.2 g (by rw [e1]; simp [blkO]) b hb e.symm
  have hbl : blkL (t.ks.set j (t.ks[j].setO o)) = blkL t.ks := by
    rw [List.set_eq_take_append_cons_drop, if_pos hj, blkL_app, blkL, blk_setO]
    conv => rhs; rw [show t.ks = t.ks.take j ++ t.ks[j] :: t.ks.drop (j + 1) by simp, blkL_app, blkL]
  refine ⟨g, e1, hg, hz, ⟨⟨?_, by rw [blk_eq]; show (blkO t.la ++ (blkO t.kb ++ blkL (t.ks.set j (t.ks[j].setO o)))).Nodup; rw [hbl]; exact hd⟩, ?_, by simpa using h.hi⟩, Fr.set w _ _ hgb hB⟩
  · rw [NT_iff]
    refine ⟨⟨hh.1.1, by show (t.ks.set j (t.ks[j].setO o)).length * 120 ≤ _; rw [List.length_set]; exact hh.1.2⟩, ?_, ?_, fun k hk => ?_⟩
    · exact hh.2.1.kept fun b hb => Below.heap_setCell _ _ _ _ (hn1 b (blk_own hb))
    · show OwnL tc 9 _ B _ (.slice t.kb (t.ks.set j (t.ks[j].setO o)).length t.kc) (t.ks.set j (t.ks[j].setO o))
      rw [List.length_set]
      exact hw
    · have hk' : k ∈ t.ks.set j (t.ks[j].setO o) := hk
      rcases List.mem_or_eq_of_mem_set hk' with hm | rfl
      · exact NT.kept k (fun b hb => Below.heap_setCell _ _ _ _ (hn2 b (blkL_mem.2 ⟨k, hm, hb⟩))) (hh.2.2.2 k hm)
      · have h9 := hh.2.2.2 _ (List.getElem_mem hj)
        have h9 := NT.kept (w' := w.setCell ⟨g, j * 9 + 2, none⟩ (.int .i64 o)) _ (fun b hb => Below.heap_setCell _ _ _ _ (hn2 b (blkL_mem.2 ⟨_, List.getElem_mem hj, hb⟩))) h9
        rw [NT_iff] at h9 ⊢
        exact ⟨⟨⟨h9.1.1.K, ho, h9.1.1.c, h9.1.1.v, h9.1.1.l, h9.1.1.n⟩, h9.1.2⟩, h9.2⟩
  · have hl := LenT_iff.1 h.ln
    rw [LenT_iff]
    refine ⟨hl.1.far (fun hb => hn1 g hb rfl) _ _, ?_, fun k hk => ?_⟩
    · have h1 := hl.2.1
      show MarkAt _ t.kb (t.ks.set j (t.ks[j].setO o)).length t.kc 9 72
      rw [List.length_set]
      rw [e1] at h1 ⊢
      exact h1.set (by have := Nat.mul_le_mul_right 9 hj; simp only [Nat.succ_eq_add_one, Nat.add_mul] at this; omega) _
    · have hk' : k ∈ t.ks.set j (t.ks[j].setO o) := hk
      rcases List.mem_or_eq_of_mem_set hk' with hm | rfl
      · exact LenT.kept (by simp) k (fun b hb => Below.heap_setCell _ _ _ _ (hn2 b (blkL_mem.2 ⟨k, hm, hb⟩))) (hl.2.2 k hm)
      · have h9 := LenT.kept (w' := w.setCell ⟨g, j * 9 + 2, none⟩ (.int .i64 o)) (by simp) _ (fun b hb => Below.heap_setCell _ _ _ _ (hn2 b (blkL_mem.2 ⟨_, List.getElem_mem hj, hb⟩))) (hl.2.2 _ (List.getElem_mem hj))
        rw [LenT_iff] at h9 ⊢
        exact h9
/-- A kid is another one, in the same memory. -/
theorem GT.swap {w w' : World} {B : Nat} {t : T} (h : GT w B t) {j : Nat} (hj : j < t.ks.length) {k : T} (hf : Fr t.ks[j].blk B w w') (hk : GT w' B k) (hb : k.blk = t.ks[j].blk) (hc : tc k = tc t.ks[j]) : GT w' B (t.setK (t.ks.set j k)) ∧ Fr t.blk B w w' := by
  have hh := NT_iff.1 h.ft.1
  have hd := h.ft.2
  rw [blk_eq] at hd
  have hsub : ∀ b ∈ t.ks[j].blk, b ∈ blkL t.ks := fun b hb => blkL_mem.2 ⟨_, List.getElem_mem hj, hb⟩
  have hn1 : ∀ b ∈ blkO t.la, b ∉ t.ks[j].blk := fun b hb hm => (List.nodup_append.1 hd).2.2 b hb b (List.mem_append_right _ (hsub b hm)) rfl
  have hn2 : ∀ b ∈ blkO t.kb, b ∉ t.ks[j].blk := fun b hb hm => (List.nodup_append.1 (List.nodup_append.1 hd).2.1).2.2 b hb b (hsub b hm) rfl
  have hdk := (List.nodup_append.1 (List.nodup_append.1 hd).2.1).2.1
  have e : t.ks = t.ks.take j ++ t.ks[j] :: t.ks.drop (j + 1) := by simp
  have e' : t.ks.set j k = t.ks.take j ++ k :: t.ks.drop (j + 1) := by rw [List.set_eq_take_append_cons_drop, if_pos hj]
  have hbl : blkL (t.ks.set j k) = blkL t.ks := by
    rw [e', blkL_app, blkL, hb]
    conv => rhs; rw [e, blkL_app, blkL]
  have hoth : ∀ x ∈ t.ks.set j k, x = k ∨ (x ∈ t.ks ∧ ∀ b ∈ x.blk, b ∉ t.ks[j].blk) := fun x hx => by
    rw [e'] at hx
    rw [e, blkL_app, blkL] at hdk
    have d1 := List.nodup_append.1 hdk
    have d2 := List.nodup_append.1 d1.2.1
    rcases List.mem_append.1 hx with hx | hx
    · refine .inr ⟨List.mem_of_mem_take hx, fun b hb hm => ?_⟩
      exact d1.2.2 b (blkL_mem.2 ⟨x, hx, hb⟩) b (List.mem_append_left _ hm) rfl
    · rcases List.mem_cons.1 hx with rfl | hx
      · exact .inl rfl
      · refine .inr ⟨List.mem_of_mem_drop hx, fun b hb hm => ?_⟩
        exact d2.2.2 b hm b (blkL_mem.2 ⟨x, hx, hb⟩) rfl
  have hlt := NT.lt t h.ft.1
  rw [blk_eq] at hlt
  have hcs : (t.ks.set j k).flatMap tc = t.ks.flatMap tc := by
    rw [e', List.flatMap_append, List.flatMap_cons, hc]
    conv => rhs; rw [e, List.flatMap_append, List.flatMap_cons]
  refine ⟨⟨⟨?_, by rw [blk_eq]; show (blkO t.la ++ (blkO t.kb ++ blkL (t.ks.set j k))).Nodup; rw [hbl]; exact hd⟩, ?_, Nat.le_trans h.hi hf.below.size⟩, hf.sub fun b hb => by rw [blk_eq]; exact List.mem_append_right _ (List.mem_append_right _ (hsub b hb))⟩
  · rw [NT_iff]
    refine ⟨⟨hh.1.1, by show (t.ks.set j k).length * 120 ≤ _; rw [List.length_set]; exact hh.1.2⟩, ?_, ?_, fun x hx => ?_⟩
    · exact hh.2.1.kept fun b hb => hf.same b (hh.2.1.lt b hb).2 (hn1 b (blk_own hb))
    · show OwnL tc 9 _ B _ (.slice t.kb (t.ks.set j k).length t.kc) (t.ks.set j k)
      unfold OwnL
      rw [List.length_set, hcs]
      exact hh.2.2.1.kept fun b hb => hf.same b (hh.2.2.1.lt b hb).2 (hn2 b (blk_own hb))
    · rcases hoth x hx with rfl | ⟨hm, hne⟩
      · exact hk.ft.1
      · exact NT.kept x (fun b hb => hf.same b (NT.lt x (hh.2.2.2 x hm) b hb).2 (hne b hb)) (hh.2.2.2 x hm)
  · have hl := LenT_iff.1 h.ln
    rw [LenT_iff]
    refine ⟨hl.1.kept (fun b hb => hf.same b (hlt b (List.mem_append_left _ hb)).2 (hn1 b hb)) hf.below.size, ?_, fun x hx => ?_⟩
    · show MarkAt _ t.kb (t.ks.set j k).length t.kc 9 72
      rw [List.length_set]
      exact hl.2.1.kept (fun b hb => hf.same b (hlt b (List.mem_append_right _ (List.mem_append_left _ hb))).2 (hn2 b hb)) hf.below.size
    · rcases hoth x hx with rfl | ⟨hm, hne⟩
      · exact hk.ln
      · exact LenT.kept hf.below.size x (fun b hb => hf.same b (NT.lt x (hh.2.2.2 x hm) b hb).2 (hne b hb)) (hl.2.2 x hm)
theorem mix_set {α : Type} (f : α → α) (l : List α) {i : Nat} (hi : i < l.length) : ((l.take i).map f ++ l.drop i).set i (f l[i]) = (l.take (i + 1)).map f ++ l.drop (i + 1) := by
  rw [List.set_append_right _ _ (by simp; omega)]
  simp only [List.length_map, List.length_take, Nat.min_eq_left (Nat.le_of_lt hi), Nat.sub_self]
  rw [List.drop_eq_getElem_cons hi, List.set_cons_zero, List.take_add_one, List.getElem?_eq_getElem hi]
  simp only [List.map_append, Option.toList_some, List.map_cons, List.map_nil, List.append_assoc, List.cons_append, List.nil_append]
theorem mix_get {α : Type} (f : α → α) (l : List α) {i : Nat} (hi : i < l.length) (h : i < ((l.take i).map f ++ l.drop i).length) : ((l.take i).map f ++ l.drop i)[i] = l[i] := by
  rw [List.getElem_append_right (by simp; omega)]
  simp [Nat.min_eq_left (Nat.le_of_lt hi)]
end Go.Proofs.Ythgnibphhiaecaa
