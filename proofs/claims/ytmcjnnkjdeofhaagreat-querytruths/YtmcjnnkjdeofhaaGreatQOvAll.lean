import Derived.Test.YtmcjnnkjdeofhaaGreatQLent
/-
  What Over leaves: the same tree, other values, other Ops; writes into a tree of one's own.
-/
namespace Go.Proofs.YtmcjnnkjdeofhaaGreat
open Go.ChangeShapes Go.WideShapes Go.ChangeAt Go.RowKit Cu Vl

def ovV (turn : Int) (v : V) : V :=
  if turn = 1 then v0 else if v.K = 1 then ⟨v.K, wrap64 (v.I + 1), v.b, v.s⟩ else if v.K = 2 ∧ v.s.size < 60000 then ⟨v.K, v.I, v.b, v.s ++ ⟨#[97]⟩⟩ else v
def ovO (turn K op : Int) : Int := if K = 1 then (if turn = 1 then 0 else wrap64 (7 - op)) else op
def ovH (turn : Int) (h : Hd) : Hd := ⟨h.K, h.c, h.op, h.v, h.l.map (ovV turn)⟩
def T.setO (t : T) (o : Int) : T := .mk ⟨t.h.K, t.h.c, o, t.h.v, t.h.l⟩ t.la t.lc t.kb t.kc t.ks
def T.setL (t : T) (l : List V) : T := .mk ⟨t.h.K, t.h.c, t.h.op, t.h.v, l⟩ t.la t.lc t.kb t.kc t.ks
def T.setK (t : T) (ks : List T) : T := .mk t.h t.la t.lc t.kb t.kc ks
def opT (turn : Int) (t : T) : T := t.setO (ovO turn t.h.K t.h.op)
mutual
def ovT (turn : Int) : T → T
  | .mk h la lc kb kc ks => .mk (ovH turn h) la lc kb kc (ovTL turn ks)
def ovTL (turn : Int) : List T → List T
  | [] => []
  | k :: r => opT turn (ovT turn k) :: ovTL turn r
end
theorem ovTL_map (turn : Int) : ∀ (ks : List T), ovTL turn ks = ks.map fun k => opT turn (ovT turn k)
  | [] => rfl
  | k :: r => by rw [ovTL, ovTL_map turn r]; rfl
theorem ov_op (turn : Int) (t : T) : ovT turn (opT turn t) = opT turn (ovT turn t) := by cases t; rfl
theorem ovT_ks (turn : Int) (t : T) : (ovT turn t).ks = t.ks.map fun k => ovT turn (opT turn k) := by
  cases t
  simp only [ovT, T.ks, ovTL_map, ov_op]
theorem ovT_eq (turn : Int) (t : T) : ovT turn t = (t.setL (t.h.l.map (ovV turn))).setK (t.ks.map fun k => ovT turn (opT turn k)) := by
  cases t
  simp only [ovT, T.setL, T.setK, T.ks, T.h, T.la, T.lc, T.kb, T.kc, ovTL_map, ov_op, ovH]
theorem blk_setO (t : T) (o : Int) : (t.setO o).blk = t.blk := by cases t; rfl
theorem blk_setL (t : T) (l : List V) : (t.setL l).blk = t.blk := by cases t; rfl
theorem blk_ovT (turn : Int) : ∀ (t : T), (ovT turn t).blk = t.blk := by
  refine T.ind fun t ih => ?_
  rw [blk_eq, blk_eq t, ovT_ks]
  have e : ∀ (ks : List T), (∀ k ∈ ks, (ovT turn k).blk = k.blk) → blkL (ks.map fun k => ovT turn (opT turn k)) = blkL ks := by
    intro ks
    induction ks with
    | nil => intro _; rfl
    | cons k r ih2 =>
      intro h
      simp only [List.map_cons, blkL]
      rw [ih2 fun x hx => h x (List.mem_cons_of_mem _ hx), ov_op, opT, blk_setO, h k List.mem_cons_self]
  rw [e t.ks ih]
  cases t; rfl
theorem sz_opT (turn : Int) (t : T) : (opT turn t).abs.sz = t.abs.sz := by cases t; rfl
theorem sz_ovT (turn : Int) : ∀ (t : T), (ovT turn t).abs.sz = t.abs.sz := by
  refine T.ind fun t ih => ?_
  rw [Q.sz_eq, Q.sz_eq t.abs, T.abs_ks, T.abs_ks, ovT_ks]
  have e : ∀ (ks : List T), (∀ k ∈ ks, (ovT turn k).abs.sz = k.abs.sz) → szL (absL (ks.map fun k => ovT turn (opT turn k))) = szL (absL ks) := by
    intro ks
    induction ks with
    | nil => intro _; rfl
    | cons k r ih2 =>
      intro h
      simp only [List.map_cons, absL, szL]
      rw [ih2 fun x hx => h x (List.mem_cons_of_mem _ hx), ov_op, sz_opT, h k List.mem_cons_self]
  rw [e t.ks ih]
theorem in64_wrapQ (x : Int) : In64 (wrap64 x) := by
  rw [← IntWalk.i64_left, IntKind.wrap_i64]; constructor <;> omega
theorem VOk.ov {v : V} (h : VOk v) (turn : Int) : VOk (ovV turn v) := by
  unfold ovV
  split
  · exact v0_okN
  split
  · exact ⟨h.k, in64_wrapQ _, h.b, h.s⟩
  split
  · rename_i h1
    exact ⟨h.k, h.i, h.b, by show (v.s ++ ⟨#[97]⟩ : ByteArray).size ≤ _; rw [ByteArray.size_append]; have := h1.2; show v.s.size + 1 ≤ _; omega⟩
  · exact h
/-! ### A tree of one's own, marks behind its lists -/
structure GT (w : World) (B : Nat) (t : T) : Prop where
  ft : FT w B t
  ln : LenT w t
  hi : B ≤ w.heap.size
/-- Only these blocks were written; new ones are there. -/
structure Fr (bl : List Nat) (B : Nat) (w w' : World) : Prop where
  below : Below B w w'
  same : ∀ b, b < w.heap.size → b ∉ bl → w'.heap[b]? = w.heap[b]?
theorem Fr.refl (bl : List Nat) (B : Nat) (w : World) : Fr bl B w w := ⟨Below.refl _ _, fun _ _ _ => rfl⟩
theorem Fr.trans {bl : List Nat} {B : Nat} {a b c : World} (h : Fr bl B a b) (k : Fr bl B b c) : Fr bl B a c := ⟨h.below.trans k.below, fun g hg hn => (k.same g (Nat.lt_of_lt_of_le hg h.below.size) hn).trans (h.same g hg hn)⟩
theorem Fr.sub {bl bl' : List Nat} {B : Nat} {a b : World} (h : Fr bl B a b) (hs : ∀ x ∈ bl, x ∈ bl') : Fr bl' B a b := ⟨h.below, fun g hg hn => h.same g hg fun hm => hn (hs g hm)⟩
theorem Fr.new {bl : List Nat} {B : Nat} {a b : World} (h : Below a.heap.size a b) (hB : B ≤ a.heap.size) : Fr bl B a b := ⟨h.mono hB, fun g hg _ => h.block g hg⟩
theorem Fr.set {bl : List Nat} {B g : Nat} (w : World) (i : Nat) (u : Value) (hg : g ∈ bl) (hB : B ≤ g) : Fr bl B w (w.setCell ⟨g, i, none⟩ u) := ⟨(Below.refl B w).setCell (p := ⟨g, i, none⟩) hB u, fun b _ hn => Below.heap_setCell _ _ _ _ (by show b ≠ g; rintro rfl; exact hn hg)⟩
theorem GT.later {w w' : World} {B : Nat} {t : T} (h : GT w B t) (hb : Below w.heap.size w w') : GT w' B t := ⟨⟨NT.later hb h.ft.1, h.ft.2⟩, LenT.later hb t h.ln, Nat.le_trans h.hi hb.size⟩
theorem GT.kept {w w' : World} {B : Nat} {t : T} (h : GT w B t) {bl : List Nat} (hf : Fr bl B w w') (hn : ∀ b ∈ t.blk, b ∉ bl) : GT w' B t :=
  ⟨⟨NT.kept t (fun b hb => hf.same b (NT.lt t h.ft.1 b hb).2 (hn b hb)) h.ft.1, h.ft.2⟩, LenT.kept hf.below.size t (fun b hb => hf.same b (NT.lt t h.ft.1 b hb).2 (hn b hb)) h.ln, Nat.le_trans h.hi hf.below.size⟩
theorem GT.mt {w : World} {B : Nat} {t : T} (h : GT w B t) : MT w w.heap.size t := NT.mt t h.ft.1
theorem GT.kid {w : World} {B : Nat} {t : T} (h : GT w B t) {k : T} (hk : k ∈ t.ks) : GT w B k := by
  refine ⟨⟨(NT_iff.1 h.ft.1).2.2.2 k hk, ?_⟩, (LenT_iff.1 h.ln).2.2 k hk, h.hi⟩
  have hd := h.ft.2
  rw [blk_eq] at hd
  have hd := (List.nodup_append.1 (List.nodup_append.1 hd).2.1).2.1
  obtain ⟨i, hi, rfl⟩ := List.getElem_of_mem hk
  have e : t.ks = t.ks.take i ++ t.ks[i] :: t.ks.drop (i + 1) := by simp
  rw [e, blkL_app] at hd
  exact (List.nodup_append.1 (List.nodup_append.1 hd).2.1).1
theorem MarkAt.set {w : World} {g n c k : Nat} {m : Int} (h : MarkAt w (some ⟨g, 0, none⟩) n c k m) {i : Nat} (hi : i < n * k) (u : Value) : MarkAt (w.setCell ⟨g, i, none⟩ u) (some ⟨g, 0, none⟩) n c k m := by
  obtain ⟨g', o, e, hg, hc, hn⟩ := h
  cases e
  refine ⟨g, 0, rfl, by simpa using hg, ?_, hn⟩
  have hne : (⟨g, i, none⟩ : Addr) ≠ ⟨g, 0 + n * k, none⟩ := by intro e; have e2 : i = 0 + n * k := congrArg Addr.off e; omega
  rw [World.cell?_setCell_other (h := hne)]
  exact hc
theorem MarkAt.far {w : World} {a : Option Addr} {n c k : Nat} {m : Int} (h : MarkAt w a n c k m) {g : Nat} (hg : g ∉ blkO a) (i : Nat) (u : Value) : MarkAt (w.setCell ⟨g, i, none⟩ u) a n c k m :=
  h.kept (fun b hb => Below.heap_setCell _ _ _ _ (by show b ≠ g; rintro rfl; exact hg hb)) (by simp)
/-- A cell of a value of the list is written. -/
theorem GT.setV {w : World} {B : Nat} {t : T} (h : GT w B t) {j : Nat} (hj : j < t.h.l.length) {i : Nat} (hi : i < 4) (u : Value) (y : V) (hy : vc y = (vc t.h.l[j]).set i u) (hv : VOk y) :
    ∃ g, t.la = some ⟨g, 0, none⟩ ∧ g < w.heap.size ∧ w.frozen? ⟨g, j * 4 + i, none⟩ = false ∧ GT (w.setCell ⟨g, j * 4 + i, none⟩ u) B (t.setL (t.h.l.set j y)) ∧ Fr t.blk B w (w.setCell ⟨g, j * 4 + i, none⟩ u) := by
  have hh := NT_iff.1 h.ft.1
  have hd := h.ft.2
  rw [blk_eq] at hd
  obtain ⟨g, c, e, hB, hg, _, hz, ho⟩ := OwnL.at vc_len hh.2.1 (List.getElem?_eq_getElem hj) hi u y hy
  simp only [Value.slice.injEq, true_and] at e
  obtain ⟨e1, e2⟩ := e
  have hgb : g ∈ t.blk := by rw [blk_eq, e1]; simp [blkO]
  have hne : ∀ b ∈ blkO t.kb ++ blkL t.ks, b ≠ g := fun b hb e => (List.nodup_append.1 hd).2.2 g (by rw [e1]; simp [blkO]) b hb e.symm
  refine ⟨g, e1, hg, hz, ⟨⟨?_, by rw [blk_setL]; exact h.ft.2⟩, ?_, by simpa using h.hi⟩, Fr.set w _ u hgb hB⟩
  · rw [NT_iff]
    refine ⟨⟨⟨hh.1.1.K, hh.1.1.op, hh.1.1.c, hh.1.1.v, fun x hx => ?_, by show (t.h.l.set j y).length * 40 ≤ _; rw [List.length_set]; exact hh.1.1.n⟩, hh.1.2⟩, ?_, ?_, fun k hk => ?_⟩
    · rcases List.mem_or_eq_of_mem_set hx with hx | rfl
      · exact hh.1.1.l x hx
      · exact hv
    · show OwnL vc 4 _ B _ (.slice t.la (t.h.l.set j y).length t.lc) (t.h.l.set j y)
      rw [List.length_set]
      exact ho
    · exact hh.2.2.1.kept fun b hb => Below.heap_setCell _ _ _ _ (hne b (List.mem_append_left _ (blk_own hb)))
    · exact NT.kept k (fun b hb => Below.heap_setCell _ _ _ _ (hne b (List.mem_append_right _ (blkL_mem.2 ⟨k, hk, hb⟩)))) (hh.2.2.2 k hk)
  · have hl := LenT_iff.1 h.ln
    rw [LenT_iff]
    refine ⟨?_, hl.2.1.far (fun hb => hne g (List.mem_append_left _ hb) rfl) _ _, fun k hk => ?_⟩
    · have h1 := hl.1
      show MarkAt _ t.la (t.h.l.set j y).length t.lc 4 71
      rw [List.length_set]
      rw [e1] at h1 ⊢
      exact h1.set (by have := Nat.mul_le_mul_right 4 hj; simp only [Nat.succ_eq_add_one, Nat.add_mul] at this; omega) u
    · exact LenT.kept (by simp) k (fun b hb => Below.heap_setCell _ _ _ _ (hne b (List.mem_append_right _ (blkL_mem.2 ⟨k, hk, hb⟩)))) (hl.2.2 k hk)
/-- A cell of a kid is written. -/
theorem GT.setC {w : World} {B : Nat} {t : T} (h : GT w B t) {j : Nat} (hj : j < t.ks.length) (o : Int) (ho : In64 o) :
    ∃ g, t.kb = some ⟨g, 0, none⟩ ∧ g < w.heap.size ∧ w.frozen? ⟨g, j * 9 + 2, none⟩ = false ∧ GT (w.setCell ⟨g, j * 9 + 2, none⟩ (.int .i64 o)) B (t.setK (t.ks.set j (t.ks[j].setO o))) ∧ Fr t.blk B w (w.setCell ⟨g, j * 9 + 2, none⟩ (.int .i64 o)) := by
  have hh := NT_iff.1 h.ft.1
  have hd := h.ft.2
  rw [blk_eq] at hd
  have hk9 : tc (t.ks[j].setO o) = (tc t.ks[j]).set 2 (.int .i64 o) := by
    generalize t.ks[j] = x
    obtain ⟨⟨xK, xc, xo, ⟨xvK, xvI, xvb, xvs⟩, xl⟩, xla, xlc, xkb, xkc, xks⟩ := x
    rfl
  obtain ⟨g, c, e, hB, hg, _, hz, hw⟩ := OwnL.at tc_len hh.2.2.1 (List.getElem?_eq_getElem hj) (by omega : 2 < 9) (.int .i64 o) _ hk9
  simp only [Value.slice.injEq, true_and] at e
  obtain ⟨e1, e2⟩ := e
  have hgb : g ∈ t.blk := by rw [blk_eq, e1]; simp [blkO]
  have hn1 : ∀ b ∈ blkO t.la, b ≠ g := fun b hb e => (List.nodup_append.1 hd).2.2 b hb g (by rw [e1]; simp [blkO]) e
  have hn2 : ∀ b ∈ blkL t.ks, b ≠ g := fun b hb e => (List.nodup_append.1 (List.nodup_append.1 hd).2.1).2.2 g (by rw [e1]; simp [blkO]) b hb e.symm
  have hbl : blkL (t.ks.set j (t.ks[j].setO o)) = blkL t.ks := by
    rw [List.set_eq_take_append_cons_drop, if_pos hj, blkL_app, blkL, blk_setO]
    conv => rhs; rw [show t.ks = t.ks.take j ++ t.ks[j] :: t.ks.drop (j + 1) by simp, blkL_app, blkL]
  refine ⟨g, e1, hg, hz, ⟨⟨?_, by rw [blk_eq]; show (blkO t.la ++ (blkO t.kb ++ blkL (t.ks.set j (t.ks[j].setO o)))).Nodup; rw [hbl]; exact hd⟩, ?_, by simpa using h.hi⟩, Fr.set w _ _ hgb hB⟩
  · rw [NT_iff]
    refine ⟨⟨hh.1.1, by show (t.ks.set j (t.ks[j].setO o)).length * 120 ≤ _; rw [List.length_set]; exact hh.1.2⟩, ?_, ?_, fun k hk => ?_⟩
    · exact hh.2.1.kept fun b hb => Below.heap_setCell _ _ _ _ (hn1 b (blk_own hb))
    · show OwnL tc 9 _ B _ (.slice t.kb (t.ks.set j (t.ks[j].setO o)).length t.kc) (t.ks.set j (t.ks[j].setO o))
      rw [List.length_set]
      exact hw
    · have hk' : k ∈ t.ks.set j (t.ks[j].setO o) := hk
      rcases List.mem_or_eq_of_mem_set hk' with hm | rfl
      · exact NT.kept k (fun b hb => Below.heap_setCell _ _ _ _ (hn2 b (blkL_mem.2 ⟨k, hm, hb⟩))) (hh.2.2.2 k hm)
      · have h9 := hh.2.2.2 _ (List.getElem_mem hj)
        have h9 := NT.kept (w' := w.setCell ⟨g, j * 9 + 2, none⟩ (.int .i64 o)) _ (fun b hb => Below.heap_setCell _ _ _ _ (hn2 b (blkL_mem.2 ⟨_, List.getElem_mem hj, hb⟩))) h9
        rw [NT_iff] at h9 ⊢
        exact ⟨⟨⟨h9.1.1.K, ho, h9.1.1.c, h9.1.1.v, h9.1.1.l, h9.1.1.n⟩, h9.1.2⟩, h9.2⟩
  · have hl := LenT_iff.1 h.ln
    rw [LenT_iff]
    refine ⟨hl.1.far (fun hb => hn1 g hb rfl) _ _, ?_, fun k hk => ?_⟩
    · have h1 := hl.2.1
      show MarkAt _ t.kb (t.ks.set j (t.ks[j].setO o)).length t.kc 9 72
      rw [List.length_set]
      rw [e1] at h1 ⊢
      exact h1.set (by have := Nat.mul_le_mul_right 9 hj; simp only [Nat.succ_eq_add_one, Nat.add_mul] at this; omega) _
    · have hk' : k ∈ t.ks.set j (t.ks[j].setO o) := hk
      rcases List.mem_or_eq_of_mem_set hk' with hm | rfl
      · exact LenT.kept (by simp) k (fun b hb => Below.heap_setCell _ _ _ _ (hn2 b (blkL_mem.2 ⟨k, hm, hb⟩))) (hl.2.2 k hm)
      · have h9 := LenT.kept (w' := w.setCell ⟨g, j * 9 + 2, none⟩ (.int .i64 o)) (by simp) _ (fun b hb => Below.heap_setCell _ _ _ _ (hn2 b (blkL_mem.2 ⟨_, List.getElem_mem hj, hb⟩))) (hl.2.2 _ (List.getElem_mem hj))
        rw [LenT_iff] at h9 ⊢
        exact h9
/-- A kid is another one, in the same memory. -/
theorem GT.swap {w w' : World} {B : Nat} {t : T} (h : GT w B t) {j : Nat} (hj : j < t.ks.length) {k : T} (hf : Fr t.ks[j].blk B w w') (hk : GT w' B k) (hb : k.blk = t.ks[j].blk) (hc : tc k = tc t.ks[j]) : GT w' B (t.setK (t.ks.set j k)) ∧ Fr t.blk B w w' := by
  have hh := NT_iff.1 h.ft.1
  have hd := h.ft.2
  rw [blk_eq] at hd
  have hsub : ∀ b ∈ t.ks[j].blk, b ∈ blkL t.ks := fun b hb => blkL_mem.2 ⟨_, List.getElem_mem hj, hb⟩
  have hn1 : ∀ b ∈ blkO t.la, b ∉ t.ks[j].blk := fun b hb hm => (List.nodup_append.1 hd).2.2 b hb b (List.mem_append_right _ (hsub b hm)) rfl
  have hn2 : ∀ b ∈ blkO t.kb, b ∉ t.ks[j].blk := fun b hb hm => (List.nodup_append.1 (List.nodup_append.1 hd).2.1).2.2 b hb b (hsub b hm) rfl
  have hdk := (List.nodup_append.1 (List.nodup_append.1 hd).2.1).2.1
  have e : t.ks = t.ks.take j ++ t.ks[j] :: t.ks.drop (j + 1) := by simp
  have e' : t.ks.set j k = t.ks.take j ++ k :: t.ks.drop (j + 1) := by rw [List.set_eq_take_append_cons_drop, if_pos hj]
  have hbl : blkL (t.ks.set j k) = blkL t.ks := by
    rw [e', blkL_app, blkL, hb]
    conv => rhs; rw [e, blkL_app, blkL]
  have hoth : ∀ x ∈ t.ks.set j k, x = k ∨ (x ∈ t.ks ∧ ∀ b ∈ x.blk, b ∉ t.ks[j].blk) := fun x hx => by
    rw [e'] at hx
    rw [e, blkL_app, blkL] at hdk
    have d1 := List.nodup_append.1 hdk
    have d2 := List.nodup_append.1 d1.2.1
    rcases List.mem_append.1 hx with hx | hx
    · refine .inr ⟨List.mem_of_mem_take hx, fun b hb hm => ?_⟩
      exact d1.2.2 b (blkL_mem.2 ⟨x, hx, hb⟩) b (List.mem_append_left _ hm) rfl
    · rcases List.mem_cons.1 hx with rfl | hx
      · exact .inl rfl
      · refine .inr ⟨List.mem_of_mem_drop hx, fun b hb hm => ?_⟩
        exact d2.2.2 b hm b (blkL_mem.2 ⟨x, hx, hb⟩) rfl
  have hlt := NT.lt t h.ft.1
  rw [blk_eq] at hlt
  have hcs : (t.ks.set j k).flatMap tc = t.ks.flatMap tc := by
    rw [e', List.flatMap_append, List.flatMap_cons, hc]
    conv => rhs; rw [e, List.flatMap_append, List.flatMap_cons]
  refine ⟨⟨⟨?_, by rw [blk_eq]; show (blkO t.la ++ (blkO t.kb ++ blkL (t.ks.set j k))).Nodup; rw [hbl]; exact hd⟩, ?_, Nat.le_trans h.hi hf.below.size⟩, hf.sub fun b hb => by rw [blk_eq]; exact List.mem_append_right _ (List.mem_append_right _ (hsub b hb))⟩
  · rw [NT_iff]
    refine ⟨⟨hh.1.1, by show (t.ks.set j k).length * 120 ≤ _; rw [List.length_set]; exact hh.1.2⟩, ?_, ?_, fun x hx => ?_⟩
    · exact hh.2.1.kept fun b hb => hf.same b (hh.2.1.lt b hb).2 (hn1 b (blk_own hb))
    · show OwnL tc 9 _ B _ (.slice t.kb (t.ks.set j k).length t.kc) (t.ks.set j k)
      unfold OwnL
      rw [List.length_set, hcs]
      exact hh.2.2.1.kept fun b hb => hf.same b (hh.2.2.1.lt b hb).2 (hn2 b (blk_own hb))
    · rcases hoth x hx with rfl | ⟨hm, hne⟩
      · exact hk.ft.1
      · exact NT.kept x (fun b hb => hf.same b (NT.lt x (hh.2.2.2 x hm) b hb).2 (hne b hb)) (hh.2.2.2 x hm)
  · have hl := LenT_iff.1 h.ln
    rw [LenT_iff]
    refine ⟨hl.1.kept (fun b hb => hf.same b (hlt b (List.mem_append_left _ hb)).2 (hn1 b hb)) hf.below.size, ?_, fun x hx => ?_⟩
    · show MarkAt _ t.kb (t.ks.set j k).length t.kc 9 72
      rw [List.length_set]
      exact hl.2.1.kept (fun b hb => hf.same b (hlt b (List.mem_append_right _ (List.mem_append_left _ hb))).2 (hn2 b hb)) hf.below.size
    · rcases hoth x hx with rfl | ⟨hm, hne⟩
      · exact hk.ln
      · exact LenT.kept hf.below.size x (fun b hb => hf.same b (NT.lt x (hh.2.2.2 x hm) b hb).2 (hne b hb)) (hl.2.2 x hm)
theorem mix_set {α : Type} (f : α → α) (l : List α) {i : Nat} (hi : i < l.length) : ((l.take i).map f ++ l.drop i).set i (f l[i]) = (l.take (i + 1)).map f ++ l.drop (i + 1) := by
  rw [List.set_append_right _ _ (by simp; omega)]
  simp only [List.length_map, List.length_take, Nat.min_eq_left (Nat.le_of_lt hi), Nat.sub_self]
  rw [List.drop_eq_getElem_cons hi, List.set_cons_zero, List.take_add_one, List.getElem?_eq_getElem hi]
  simp only [List.map_append, Option.toList_some, List.map_cons, List.map_nil, List.append_assoc, List.cons_append, List.nil_append]
theorem mix_get {α : Type} (f : α → α) (l : List α) {i : Nat} (hi : i < l.length) (h : i < ((l.take i).map f ++ l.drop i).length) : ((l.take i).map f ++ l.drop i)[i] = l[i] := by
  rw [List.getElem_append_right (by simp; omega)]
  simp [Nat.min_eq_left (Nat.le_of_lt hi)]
end Go.Proofs.YtmcjnnkjdeofhaaGreat

/-
  The document's Over: what stands in a predicate's lists is written over in its place. (Written by mkover.py.)
-/
namespace Go.Proofs.YtmcjnnkjdeofhaaGreat
open Go.ChangeShapes Go.WideShapes Go.ChangeAt Go.RowKit Cu Vl
attribute [local go_sem] run_store_float

theorem GT.cells4 {w : World} {B : Nat} {t : T} (h : GT w B t) {j : Nat} (hj : j < t.h.l.length) : ∃ g, t.la = some ⟨g, 0, none⟩ ∧ g < w.heap.size ∧ (∀ k, k < 4 → w.frozen? ⟨g, j * 4 + k, none⟩ = false) ∧ w.cell? ⟨g, j * 4, none⟩ = some (.int .i64 t.h.l[j].K) ∧ w.cell? ⟨g, j * 4 + 1, none⟩ = some (.int .i64 t.h.l[j].I) ∧ w.cell? ⟨g, j * 4 + 2, none⟩ = some (.float .f64 t.h.l[j].b) ∧ w.cell? ⟨g, j * 4 + 3, none⟩ = some (.string t.h.l[j].s) := by
  have hh := NT_iff.1 h.ft.1
  obtain ⟨a, c, e, _, _, _, hl, hb⟩ := hh.2.1.form vc_len
  simp only [Value.slice.injEq] at e
  obtain ⟨g, o, e2, hg, k0, k1, k2, k3⟩ := hl.cell4 hj
  obtain ⟨_, _, e3⟩ := hb _ e2
  simp only [Addr.mk.injEq, true_and, and_true] at e3
  subst e3
  simp only [Nat.zero_add] at k0 k1 k2 k3
  refine ⟨g, e.1.trans e2, hg, fun k hk => ?_, k0, k1, k2, k3⟩
  have h4 : (vc t.h.l[j])[k]? = some ((vc t.h.l[j])[k]'(by rw [vc_len]; exact hk)) := List.getElem?_eq_getElem _
  obtain ⟨g', c', e', _, _, _, hz, _⟩ := OwnL.at vc_len hh.2.1 (List.getElem?_eq_getElem hj) hk ((vc t.h.l[j])[k]'(by rw [vc_len]; exact hk)) t.h.l[j] (by rw [List.set_getElem_self])
  simp only [Value.slice.injEq, true_and] at e'
  have : g' = g := by
    have := e'.1.symm.trans (e.1.trans e2)
    simpa using this
  rw [← this]
  exact hz
theorem GT.cells9 {w : World} {B : Nat} {t : T} (h : GT w B t) {j : Nat} (hj : j < t.ks.length) : ∃ g, t.kb = some ⟨g, 0, none⟩ ∧ g < w.heap.size ∧ (∀ k, k < 9 → w.frozen? ⟨g, j * 9 + k, none⟩ = false) ∧ ∀ k u, (tc t.ks[j])[k]? = some u → w.cell? ⟨g, j * 9 + k, none⟩ = some u := by
  have hh := NT_iff.1 h.ft.1
  obtain ⟨a, c, e, _, _, _, hl, hb⟩ := hh.2.2.1.form tc_len
  simp only [Value.slice.injEq] at e
  obtain ⟨g, o, e2, hg, hc⟩ := hl j t.ks[j] (List.getElem?_eq_getElem hj)
  obtain ⟨_, _, e3⟩ := hb _ e2
  simp only [Addr.mk.injEq, true_and, and_true] at e3
  subst e3
  simp only [Nat.zero_add] at hc
  refine ⟨g, e.1.trans e2, hg, fun k hk => ?_, hc⟩
  have h4 : (tc t.ks[j])[k]? = some ((tc t.ks[j])[k]'(by rw [tc_len]; exact hk)) := List.getElem?_eq_getElem _
  obtain ⟨g', c', e', _, _, _, hz, _⟩ := OwnL.at tc_len hh.2.2.1 (List.getElem?_eq_getElem hj) hk ((tc t.ks[j])[k]'(by rw [tc_len]; exact hk)) t.ks[j] (by rw [List.set_getElem_self])
  simp only [Value.slice.injEq, true_and] at e'
  have : g' = g := by
    have := e'.1.symm.trans (e.1.trans e2)
    simpa using this
  rw [← this]
  exact hz
theorem setL_len {t : T} {l : List V} : (t.setL l).h.l = l := rfl
theorem setL_setL (t : T) (l l' : List V) : (t.setL l).setL l' = t.setL l' := rfl
theorem GT.zero4 {w : World} {B : Nat} {t : T} (h : GT w B t) {j : Nat} (hj : j < t.h.l.length) :
    ∃ g, t.la = some ⟨g, 0, none⟩ ∧ GT ((((w.setCell ⟨g, j * 4, none⟩ (.int .i64 0)).setCell ⟨g, j * 4 + 1, none⟩ (.int .i64 0)).setCell ⟨g, j * 4 + 2, none⟩ (.float .f64 0)).setCell ⟨g, j * 4 + 3, none⟩ (.string ⟨#[]⟩)) B (t.setL (t.h.l.set j v0)) ∧ Fr t.blk B w ((((w.setCell ⟨g, j * 4, none⟩ (.int .i64 0)).setCell ⟨g, j * 4 + 1, none⟩ (.int .i64 0)).setCell ⟨g, j * 4 + 2, none⟩ (.float .f64 0)).setCell ⟨g, j * 4 + 3, none⟩ (.string ⟨#[]⟩)) := by
  have hx := (NT_iff.1 h.ft.1).1.1.l _ (List.getElem_mem hj)
  have z64 : In64 0 := ⟨by decide, by decide⟩
  obtain ⟨g, e, _, _, h1, f1⟩ := h.setV hj (i := 0) (by omega) (.int .i64 0) ⟨0, t.h.l[j].I, t.h.l[j].b, t.h.l[j].s⟩ rfl ⟨z64, hx.i, hx.b, hx.s⟩
  have hj1 : j < (t.setL (t.h.l.set j ⟨0, t.h.l[j].I, t.h.l[j].b, t.h.l[j].s⟩)).h.l.length := by rw [setL_len, List.length_set]; exact hj
  have e1 : (t.setL (t.h.l.set j ⟨0, t.h.l[j].I, t.h.l[j].b, t.h.l[j].s⟩)).h.l[j] = ⟨0, t.h.l[j].I, t.h.l[j].b, t.h.l[j].s⟩ := by simp only [setL_len, List.getElem_set_self]
  obtain ⟨g', e', _, _, h2, f2⟩ := h1.setV hj1 (i := 1) (by omega) (.int .i64 0) ⟨0, 0, t.h.l[j].b, t.h.l[j].s⟩ (by rw [e1]; rfl) ⟨z64, z64, hx.b, hx.s⟩
  obtain rfl : g = g' := by have := e.symm.trans e'; simpa using this
  rw [setL_setL, setL_len, List.set_set] at h2
  have hj2 : j < (t.setL (t.h.l.set j ⟨0, 0, t.h.l[j].b, t.h.l[j].s⟩)).h.l.length := by rw [setL_len, List.length_set]; exact hj
  have e2 : (t.setL (t.h.l.set j ⟨0, 0, t.h.l[j].b, t.h.l[j].s⟩)).h.l[j] = ⟨0, 0, t.h.l[j].b, t.h.l[j].s⟩ := by simp only [setL_len, List.getElem_set_self]
  obtain ⟨g', e', _, _, h3, f3⟩ := h2.setV hj2 (i := 2) (by omega) (.float .f64 0) ⟨0, 0, 0, t.h.l[j].s⟩ (by rw [e2]; rfl) ⟨z64, z64, (by show (0 : Nat) < _; decide), hx.s⟩
  obtain rfl : g = g' := by have := e.symm.trans e'; simpa using this
  rw [setL_setL, setL_len, List.set_set] at h3
  have hj3 : j < (t.setL (t.h.l.set j ⟨0, 0, 0, t.h.l[j].s⟩)).h.l.length := by rw [setL_len, List.length_set]; exact hj
  have e3 : (t.setL (t.h.l.set j ⟨0, 0, 0, t.h.l[j].s⟩)).h.l[j] = ⟨0, 0, 0, t.h.l[j].s⟩ := by simp only [setL_len, List.getElem_set_self]
  obtain ⟨g', e', _, _, h4, f4⟩ := h3.setV hj3 (i := 3) (by omega) (.string ⟨#[]⟩) v0 (by rw [e3]; rfl) v0_okN
  obtain rfl : g = g' := by have := e.symm.trans e'; simpa using this
  rw [setL_setL, setL_len, List.set_set] at h4
  rw [blk_setL] at f2 f3 f4
  exact ⟨g, e, h4, f1.trans (f2.trans (f3.trans f4))⟩
theorem nine_of {W : World} {g j : Nat} {kt : T} {o : Int} (h : ∀ k u, (tc (kt.setO o))[k]? = some u → W.cell? ⟨g, j * 9 + k, none⟩ = some u) : W.cell? ⟨g, j * 9, none⟩ = some (.int .i64 kt.h.K) ∧ W.cell? ⟨g, j * 9 + 1, none⟩ = some (.string kt.h.c) ∧ W.cell? ⟨g, j * 9 + 2, none⟩ = some (.int .i64 o) ∧ W.cell? ⟨g, j * 9 + 3, none⟩ = some (.int .i64 kt.h.v.K) ∧ W.cell? ⟨g, j * 9 + 4, none⟩ = some (.int .i64 kt.h.v.I) ∧ W.cell? ⟨g, j * 9 + 5, none⟩ = some (.float .f64 kt.h.v.b) ∧ W.cell? ⟨g, j * 9 + 6, none⟩ = some (.string kt.h.v.s) ∧ W.cell? ⟨g, j * 9 + 7, none⟩ = some (.slice kt.la kt.h.l.length kt.lc) ∧ W.cell? ⟨g, j * 9 + 8, none⟩ = some (.slice kt.kb kt.ks.length kt.kc) :=
  ⟨h 0 _ rfl, h 1 _ rfl, h 2 _ rfl, h 3 _ rfl, h 4 _ rfl, h 5 _ rfl, h 6 _ rfl, h 7 _ rfl, h 8 _ rfl⟩
def OverOk (t : T) : Prop := ∀ (turn : Int) (w : World) (B : Nat), GT w B t →
  Calls Tryz.prog 16 #[tv t, .int .i64 turn] w fun r w' => r = .returned (.tuple #[]) ∧ GT w' B (ovT turn t) ∧ Fr t.blk B w w'
def mixV (turn : Int) (l : List V) (i : Nat) : List V := (l.take i).map (ovV turn) ++ l.drop i
def mixK (turn : Int) (ks : List T) (i : Nat) : List T := (ks.take i).map (fun k => ovT turn (opT turn k)) ++ ks.drop i
theorem mixV_len (turn : Int) (l : List V) (i : Nat) (hi : i ≤ l.length) : (mixV turn l i).length = l.length := by simp [mixV]; omega
theorem mixK_len (turn : Int) (l : List T) (i : Nat) (hi : i ≤ l.length) : (mixK turn l i).length = l.length := by simp [mixK]; omega
theorem setK_setK (t : T) (l l' : List T) : (t.setK l).setK l' = t.setK l' := rfl
theorem setK_ks {t : T} {l : List T} : (t.setK l).ks = l := rfl
theorem blk_setK {t : T} {l : List T} (h : blkL l = blkL t.ks) : (t.setK l).blk = t.blk := by rw [blk_eq, blk_eq t]; show blkO t.la ++ (blkO t.kb ++ blkL l) = _; rw [h]
theorem blk_mixK (turn : Int) (ks : List T) (i : Nat) : blkL (mixK turn ks i) = blkL ks := by
  unfold mixK
  rw [blkL_app]
  conv => rhs; rw [← List.take_append_drop i ks, blkL_app]
  congr 1
  induction ks.take i with
  | nil => rfl
  | cons k r ih => simp only [List.map_cons, blkL]; rw [ih, blk_ovT, opT, blk_setO]
theorem tc_ovT (turn : Int) (t : T) : tc (ovT turn t) = tc t := by
  obtain ⟨⟨K, c, op, v, l⟩, la, lc, kb, kc, ks⟩ := t
  simp only [ovT, tc, ta, T.pr, T.h, T.la, T.lc, T.kb, T.kc, T.ks, prH, pa, ovH, ovTL_map, List.length_map]
set_option maxRecDepth 60000 in
set_option maxHeartbeats 16000000 in
theorem over_all : ∀ t : T, ∀ o, OverOk (t.setO o) := by
  refine T.ind (P := fun t => ∀ o, OverOk (t.setO o)) fun t ih => ?_
  intro o
  have ih' : ∀ k ∈ (t.setO o).ks, ∀ o, OverOk (k.setO o) := ih
  clear ih
  revert ih'
  generalize t.setO o = t
  intro ih
  intro turn w B hg
  have hb := below_new w (.cells (ta t) 29)
  have X1 := hid (Bx.new w (ta t) 29)
  have G1 := hid (hg.later hb)
  have F1 : Hid (Fr t.blk B w (w.alloc (.cells (ta t) 29))) := Fr.new hb hg.hi
  have HI := hid ih
  have HLt := hid (NT.lt t hg.ft.1)
  have HN := hid (NT_iff.1 hg.ft.1).1
  have hvn : t.h.l.length ≤ 140737488355328 := by have := HN.out.1.n; omega
  have hkn : t.ks.length ≤ 140737488355328 := by have := HN.out.2; omega
  clear ih hb hg
  obtain ⟨p0, p1, p2, p3, p4, p5, p6, p7, p8⟩ := X1.out.prd
  have fx := X1.out.frz
  obtain ⟨w1, hw1⟩ : ∃ w1, w.alloc (.cells (ta t) 29) = w1 := ⟨_, rfl⟩
  rw [hw1] at X1 G1 F1 p0 p1 p2 p3 p4 p5 p6 p7 p8 fx
  obtain ⟨tt, htt⟩ : ∃ tt, t = tt := ⟨_, rfl⟩
  have HT := hid htt
  obtain ⟨⟨K, c, op, ⟨vK, vI, vb, vs⟩, l⟩, la, lc, kb, kc, kk⟩ := t
  rw [htt] at X1 G1 F1 HI HLt HN
  have GG : Hid (GT w1 B (tt.setL (mixV turn l 0))) := by
    have : tt.setL (mixV turn l 0) = tt := by rw [← HT.out]; rfl
    show GT _ _ _
    rw [this]; exact G1.out
  clear G1 htt
  simp only [T.h, T.la, T.lc, T.kb, T.kc, T.ks, tv, ta, T.pr, pv, pa, prH] at hw1 p0 p1 p2 p3 p4 p5 p6 p7 p8 hvn hkn ⊢
  go_enter Tryz.func16, Tryz.ntmps16
  go_wp2_with fail
  clear hw1 p0 p1 p2 p3 p4 p5 p6 p7 p8 fx
  have HXX : Hid (∀ W, Fr tt.blk B w1 W → Bx W w.heap.size #[.int .i64 K, .string c, .int .i64 op, .int .i64 vK, .int .i64 vI, .float .f64 vb, .string vs, .slice la l.length lc, .slice kb kk.length kc] 29) := by
    intro W hW
    have h := X1.out
    rw [← HT.out] at h
    refine (hW.same _ h.lt fun hm => ?_).trans h
    have := (HLt.out _ hm).2
    omega
  clear X1
  have F2 : Hid (Fr tt.blk B w1 w1) := Fr.refl _ _ _
  go_loopw [4] (fun ix wr => ∃ i : Nat, i ≤ l.length ∧ ix = .int .i64 i ∧ Hid (GT wr B (tt.setL (mixV turn l i))) ∧ Hid (Fr tt.blk B w1 wr)) (fun ix _ => l.length - (intOf ix).toNat)
  case atStart => exact ⟨0, Nat.zero_le _, rfl, GG, F2⟩
  case round =>
    clear GG F2
    obtain ⟨i, hi, rfl, HG, HF⟩ := hrel
    rename World => wr
    obtain ⟨q0, q1, q2, q3, q4, q5, q6, q7, q8⟩ := (HXX.out wr HF.out).nine'
    have fx := (HXX.out wr HF.out).frz
    by_cases hlt : i < l.length
    · have hii : (i : Int) < (l.length : Int) := by omega
      have hlm : i < (mixV turn l i).length := by rw [mixV_len turn l i hi]; exact hlt
      have hlm2 : i < (tt.setL (mixV turn l i)).h.l.length := hlm
      obtain ⟨g, e, hgw, hfz, k0, k1, k2, k3⟩ := HG.out.cells4 (j := i) hlm2
      have hla : la = some ⟨g, 0, none⟩ := by
        have e2 : tt.la = some ⟨g, 0, none⟩ := e
        rw [← HT.out] at e2; exact e2
      subst hla
      have hx : (tt.setL (mixV turn l i)).h.l[i] = l[i] := mix_get _ _ hlt hlm
      rw [hx] at k0 k1 k2 k3
      have hfz0 : wr.frozen? ⟨g, i * 4, none⟩ = false := hfz 0 (by omega)
      have hfz1 := hfz 1 (by omega)
      have hfz2 := hfz 2 (by omega)
      have hfz3 := hfz 3 (by omega)
      have HVK : Hid (VOk l[i]) := by
        show VOk _
        have hm := (NT_iff.1 HG.out.ft.1).1.1.l _ (List.getElem_mem hlm2)
        rwa [hx] at hm
      have HSET : ∀ y, y = ovV turn l[i] → (mixV turn l i).set i y = mixV turn l (i + 1) := fun y hy => by rw [hy]; exact mix_set _ _ hlt
      have HNX : Hid (∀ (W : World) (y : V), y = ovV turn l[i] → GT W B ((tt.setL (mixV turn l i)).setL ((tt.setL (mixV turn l i)).h.l.set i y)) → GT W B (tt.setL (mixV turn l (i + 1)))) := fun W y hy h => by
        rw [setL_setL, setL_len, HSET y hy] at h; exact h
      have HBLK : Hid ((tt.setL (mixV turn l i)).blk = tt.blk) := blk_setL _ _
      clear HSET hfz hlm e
      have HE : Hid ((tt.setL (mixV turn l i)).la = some ⟨g, 0, none⟩) := by
        show tt.la = _
        rw [← HT.out]; rfl
      have HXE := hid hx
      clear hx
      by_cases ht1 : turn = 1
      · subst ht1
        obtain ⟨g', e', h4, f4⟩ := HG.out.zero4 (j := i) hlm2
        obtain rfl : g = g' := by have := HE.out.symm.trans e'; simpa using this
        have HG2 := hid (HNX.out _ _ (by simp [ovV]) h4)
        rw [HBLK.out] at f4
        have HF2 := hid (HF.out.trans f4)
        clear h4 f4 e'
        go_wp2_with fail
        exact ⟨⟨i + 1, by omega, by go_num, HG2, HF2⟩, by simp [intOf]; omega⟩
      · have htb : (turn == 1) = false := by simpa using ht1
        by_cases hK1 : l[i].K = 1
        · obtain ⟨g', e', _, _, h4, f4⟩ := HG.out.setV (j := i) hlm2 (i := 1) (by omega) (.int .i64 (wrap64 (l[i].I + 1))) ⟨l[i].K, wrap64 (l[i].I + 1), l[i].b, l[i].s⟩ (by rw [HXE.out]; rfl) ⟨HVK.out.k, in64_wrapQ _, HVK.out.b, HVK.out.s⟩
          obtain rfl : g = g' := by have := HE.out.symm.trans e'; simpa using this
          have h4 := HNX.out _ _ (by rw [ovV, if_neg ht1, if_pos hK1]) h4
          have HG2 := hid (h4.later (Below.refl _ _).drew)
          rw [HBLK.out] at f4
          have HF2 := hid ((HF.out.trans f4).trans (Fr.new (Below.refl _ _).drew h4.hi))
          rw [hK1] at k0
          clear h4 f4 e'
          generalize l[i] = x at *
          obtain ⟨xK, xI, xb, xs⟩ := x
          dsimp only at *
          go_wp2_with fail
          go_region_with fail
          all_goals go_wp2_with fail
          all_goals exact ⟨⟨i + 1, by omega, by go_num, HG2, HF2⟩, by simp [intOf]; omega⟩
        · have hKb : (l[i].K == 1) = false := by simpa using hK1
          by_cases hK2 : l[i].K = 2 ∧ l[i].s.size < 60000
          · obtain ⟨g', e', _, _, h4, f4⟩ := HG.out.setV (j := i) hlm2 (i := 3) (by omega) (.string (l[i].s ++ ⟨#[97]⟩)) ⟨l[i].K, l[i].I, l[i].b, l[i].s ++ ⟨#[97]⟩⟩ (by rw [HXE.out]; rfl) (by
              have h := HVK.out.ov turn
              rwa [ovV, if_neg ht1, if_neg hK1, if_pos hK2] at h)
            obtain rfl : g = g' := by have := HE.out.symm.trans e'; simpa using this
            have h4 := HNX.out _ _ (by rw [ovV, if_neg ht1, if_neg hK1, if_pos hK2]) h4
            have HG2 := hid (h4.later (Below.refl _ _).drew)
            rw [HBLK.out] at f4
            have HF2 := hid ((HF.out.trans f4).trans (Fr.new (Below.refl _ _).drew h4.hi))
            obtain ⟨hKK, hss⟩ := hK2
            rw [hKK] at k0
            have hsi : ((l[i].s.size : Nat) : Int) < 60000 := by omega
            have hcat : ¬ 9223372036854775807 < l[i].s.size + 1 := by omega
            clear h4 f4 e' hss
            generalize l[i] = x at *
            obtain ⟨xK, xI, xb, xs⟩ := x
            dsimp only at *
            go_wp2_with fail
            clear hsi HNX HXE HVK htb hKb ht1 hK1 hKK
            go_region_with fail
            all_goals go_wp2_with fail
            all_goals exact ⟨⟨i + 1, by omega, by go_num, HG2, HF2⟩, by simp [intOf]; omega⟩
          · have HG2 : Hid (GT wr B (tt.setL (mixV turn l (i + 1)))) := by
              have h := HNX.out wr l[i] (by rw [ovV, if_neg ht1, if_neg hK1, if_neg hK2])
              refine h ?_
              rw [← HXE.out, List.set_getElem_self]
              exact HG.out
            have hsz : Hid (l[i].K = 2 → ¬ ((l[i].s.size : Nat) : Int) < 60000) := fun h h2 => hK2 ⟨h, by omega⟩
            generalize l[i] = x at *
            obtain ⟨xK, xI, xb, xs⟩ := x
            dsimp only at *
            clear hK2
            by_cases hKK : xK = 2
            · subst hKK
              have hs2 := hsz.out rfl
              go_wp2_with fail
              exact ⟨⟨i + 1, by omega, by go_num, HG2, HF⟩, by simp [intOf]; omega⟩
            · have hKc : (xK == 2) = false := by simpa using hKK
              go_wp2_with fail
              exact ⟨⟨i + 1, by omega, by go_num, HG2, HF⟩, by simp [intOf]; omega⟩
    · obtain rfl : i = l.length := by omega
      have HG1 : Hid (GT wr B ((tt.setL (l.map (ovV turn))).setK (mixK turn kk 0))) := by
        have h := HG.out
        have e1 : mixV turn l l.length = l.map (ovV turn) := by simp [mixV]
        have e2 : (tt.setL (l.map (ovV turn))).setK (mixK turn kk 0) = tt.setL (l.map (ovV turn)) := by rw [← HT.out]; rfl
        rw [e1] at h
        show GT _ _ _
        rw [e2]; exact h
      obtain ⟨tl, htl⟩ : ∃ tl, tt.setL (l.map (ovV turn)) = tl := ⟨_, rfl⟩
      have HTL := hid htl
      have HBL : Hid (tl.blk = tt.blk) := by show _ = _; rw [← htl, blk_setL]
      have HKS : Hid (tl.ks = kk) := by show _ = _; rw [← htl, ← HT.out]; rfl
      have HKB : Hid (tl.kb = kb) := by show _ = _; rw [← htl, ← HT.out]; rfl
      rw [htl] at HG1
      have HEND : Hid (tl.setK (mixK turn kk kk.length) = ovT turn tt) := by
        show _ = _
        have e1 : mixK turn kk kk.length = kk.map fun k => ovT turn (opT turn k) := by simp [mixK]
        rw [e1, ← htl, ovT_eq, ← HT.out]; rfl
      clear htl HG
      go_wp2_with fail
      clear q0 q1 q2 q3 q4 q5 q6 q7 q8 fx
      go_loopw [5] (fun ix ws => ∃ j : Nat, j ≤ kk.length ∧ ix = .int .i64 j ∧ Hid (GT ws B (tl.setK (mixK turn kk j))) ∧ Hid (Fr tt.blk B w1 ws)) (fun ix _ => kk.length - (intOf ix).toNat)
      case atStart => exact ⟨0, Nat.zero_le _, rfl, HG1, HF⟩
      case round =>
        clear HG1 HF
        obtain ⟨j, hj, rfl, HG, HF⟩ := hrel
        rename World => ws
        obtain ⟨q0, q1, q2, q3, q4, q5, q6, q7, q8⟩ := (HXX.out ws HF.out).nine'
        have fx := (HXX.out ws HF.out).frz
        by_cases hlt : j < kk.length
        · have hii : (j : Int) < (kk.length : Int) := by omega
          have hlm : j < (mixK turn kk j).length := by rw [mixK_len turn kk j hj]; exact hlt
          have hlm2 : j < (tl.setK (mixK turn kk j)).ks.length := hlm
          have hx : (tl.setK (mixK turn kk j)).ks[j] = kk[j] := mix_get _ _ hlt hlm
          have HBLK : Hid ((tl.setK (mixK turn kk j)).blk = tt.blk) := by
            show _ = _
            rw [blk_setK (by rw [blk_mixK, HKS.out]), HBL.out]
          have HB4 : Hid (∀ o, (tl.setK ((mixK turn kk j).set j (kk[j].setO o))).blk = tt.blk) := fun o => by
            rw [blk_eq]
            show blkO tl.la ++ (blkO tl.kb ++ blkL ((mixK turn kk j).set j (kk[j].setO o))) = _
            rw [List.set_eq_take_append_cons_drop, if_pos hlm, blkL_app, blkL, blk_setO]
            have e5 : blkL (mixK turn kk j) = blkL ((mixK turn kk j).take j) ++ (kk[j].blk ++ blkL ((mixK turn kk j).drop (j + 1))) := by
              have e6 : (mixK turn kk j)[j]'hlm = kk[j] := hx
              conv => lhs; rw [show mixK turn kk j = (mixK turn kk j).take j ++ (mixK turn kk j)[j]'hlm :: (mixK turn kk j).drop (j + 1) by simp, blkL_app, blkL, e6]
            rw [← e5, blk_mixK, ← HBL.out, blk_eq tl, HKS.out]
          have HJ2 : Hid (∀ x, j < (tl.setK ((mixK turn kk j).set j x)).ks.length) := fun x => by
            show j < ((mixK turn kk j).set j x).length
            rw [List.length_set]; exact hlm
          -- once the Op is what it is to be
          have HREC : Hid (∀ (W : World), GT W B (tl.setK ((mixK turn kk j).set j (opT turn kk[j]))) → Fr tt.blk B w1 W → Calls Tryz.prog 16 #[tv (opT turn kk[j]), .int .i64 turn] W fun r W' => r = .returned (.tuple #[]) ∧ GT W' B (tl.setK (mixK turn kk (j + 1))) ∧ Fr tt.blk B w1 W') := fun W hW hF => by
            have hj2 := HJ2.out (opT turn kk[j])
            have ek : (tl.setK ((mixK turn kk j).set j (opT turn kk[j]))).ks[j] = opT turn kk[j] := List.getElem_set_self hj2
            have hkid : GT W B (opT turn kk[j]) := ek ▸ hW.kid (List.getElem_mem hj2)
            have hov : OverOk (opT turn kk[j]) := HI.out _ (by
              have e2 : tt.ks = kk := by rw [← HT.out]; rfl
              rw [e2]; exact List.getElem_mem hlt) _
            refine (hov turn W B hkid).mono ?_
            rintro e W' ⟨rfl, hg', hf'⟩
            obtain ⟨h1, h2⟩ := hW.swap hj2 (by rw [ek]; exact hf') hg' (by rw [ek, blk_ovT]) (by rw [ek, tc_ovT])
            rw [setK_setK, setK_ks, List.set_set] at h1
            have e3 : (mixK turn kk j).set j (ovT turn (opT turn kk[j])) = mixK turn kk (j + 1) := mix_set (fun k => ovT turn (opT turn k)) kk hlt
            rw [e3] at h1
            have e4 := HB4.out (ovO turn kk[j].h.K kk[j].h.op)
            exact ⟨rfl, h1, hF.trans (h2.sub fun b hb => by rw [← e4]; exact hb)⟩
          obtain ⟨g, e, hgw, hfz, hc⟩ := HG.out.cells9 (j := j) hlm2
          have hkb : kb = some ⟨g, 0, none⟩ := by
            have e2 : tl.kb = some ⟨g, 0, none⟩ := e
            rw [HKB.out] at e2; exact e2
          subst hkb
          have HOP : Hid (In64 kk[j].h.op) := by
            show In64 _
            have hm := (NT_iff.1 (HG.out.kid (List.getElem_mem hlm2)).ft.1).1.1.op
            rwa [hx] at hm
          have HSC : Hid (∀ (W : World) (o o' : Int), In64 o' → GT W B (tl.setK ((mixK turn kk j).set j (kk[j].setO o))) → (∀ k, k < 9 → W.frozen? ⟨g, j * 9 + k, none⟩ = false) ∧ (∀ k u, (tc (kk[j].setO o))[k]? = some u → W.cell? ⟨g, j * 9 + k, none⟩ = some u) ∧ GT (W.setCell ⟨g, j * 9 + 2, none⟩ (.int .i64 o')) B (tl.setK ((mixK turn kk j).set j (kk[j].setO o'))) ∧ Fr tt.blk B W (W.setCell ⟨g, j * 9 + 2, none⟩ (.int .i64 o'))) := fun W o o' ho hW => by
            have hj2 := HJ2.out (kk[j].setO o)
            have ek : (tl.setK ((mixK turn kk j).set j (kk[j].setO o))).ks[j] = kk[j].setO o := List.getElem_set_self hj2
            obtain ⟨g1, e1, _, _, h2, f2⟩ := hW.setC hj2 o' ho
            obtain ⟨g3, e3, _, hz, hcc⟩ := hW.cells9 hj2
            have e1' : tl.kb = some ⟨g1, 0, none⟩ := e1
            have e3' : tl.kb = some ⟨g3, 0, none⟩ := e3
            rw [HKB.out] at e1' e3'
            simp only [Option.some.injEq, Addr.mk.injEq, and_true] at e1' e3'
            subst e1' e3'
            rw [ek] at h2 hcc
            rw [HB4.out] at f2
            rw [setK_setK, setK_ks, List.set_set] at h2
            exact ⟨hz, hcc, h2, f2⟩
          have HG0 : Hid (GT ws B (tl.setK ((mixK turn kk j).set j (kk[j].setO kk[j].h.op)))) := by
            have h := HG.out
            have e1 : kk[j].setO kk[j].h.op = (mixK turn kk j)[j]'hlm := by
              have e2 : (mixK turn kk j)[j]'hlm = kk[j] := hx
              rw [e2]; cases kk[j]; rfl
            have e3 : (mixK turn kk j).set j (kk[j].setO kk[j].h.op) = mixK turn kk j := by rw [e1]; exact List.set_getElem_self hlm
            show GT _ _ _
            rw [e3]
            exact h
          have HOPT : Hid (opT turn kk[j] = kk[j].setO (ovO turn kk[j].h.K kk[j].h.op)) := rfl
          obtain ⟨op2, hop2⟩ : ∃ o, ovO turn kk[j].h.K kk[j].h.op = o := ⟨_, rfl⟩
          rw [hop2] at HOPT
          rw [HOPT.out] at HREC
          clear e hfz hc hx hlm hlm2 HG HB4 HJ2 HOPT HI
          generalize mixK turn kk j = mk at *
          generalize kk[j] = kt at *
          by_cases hK : kt.h.K = 1
          ·
            obtain ⟨f0, c0, h1, e1⟩ := HSC.out ws kt.h.op (wrap64 (7 - kt.h.op)) (in64_wrapQ _) HG0.out
            obtain ⟨m0, m1, m2, m3, m4, m5, m6, m7, m8⟩ := nine_of c0
            have z2 : ws.frozen? ⟨g, j * 9 + 2, none⟩ = false := f0 2 (by omega)
            obtain ⟨W1, hW1⟩ : ∃ W1, (ws.setCell ⟨g, j * 9 + 2, none⟩ (.int .i64 (wrap64 (7 - kt.h.op)))).drew = W1 := ⟨_, rfl⟩
            have hF1 : Fr tt.blk B w1 W1 := by rw [← hW1]; exact (HF.out.trans e1).trans (Fr.new (Below.refl _ _).drew h1.hi)
            have hG1 : GT W1 B (tl.setK (mk.set j (kt.setO (wrap64 (7 - kt.h.op))))) := by rw [← hW1]; exact h1.later (Below.refl _ _).drew
            have HN1 := hid (HXX.out W1 hF1).nine'
            have HX1 := hid (HXX.out W1 hF1).frz
            obtain ⟨f1, c1, h2, e2⟩ := HSC.out W1 (wrap64 (7 - kt.h.op)) 0 ⟨by decide, by decide⟩ hG1
            have HC1 := hid (nine_of c1)
            have z3 : W1.frozen? ⟨g, j * 9 + 2, none⟩ = false := f1 2 (by omega)
            have HF1 := hid hF1
            have HG1 := hid hG1
            have HF2 := hid (hF1.trans e2)
            have HN2 := hid (HXX.out _ HF2.out).nine'
            have HX2 := hid (HXX.out _ HF2.out).frz
            have HG2 := hid h2
            have HC2 := hid (nine_of (HSC.out _ 0 0 ⟨by decide, by decide⟩ h2).2.1)
            clear f0 c0 h1 e1 hF1 hG1 f1 c1 h2 e2 HG0 HSC HF
            rw [hK] at hop2 m0
            obtain ⟨⟨kK, kcc, kop, ⟨kvK, kvI, kvb, kvs⟩, kl⟩, kla, klc, kkb, kkc, kks⟩ := kt
            simp only [T.setO, T.h, T.la, T.lc, T.kb, T.kc, T.ks, tv, T.pr, pv, pa, prH] at *
            subst hK
            by_cases ht1 : turn = 1
            · subst ht1
              have ho2 : op2 = 0 := by rw [← hop2]; rfl
              subst ho2
              go_wp2_with fail
              go_region_with fail
              all_goals simp only [IntWalk.i64_left, hW1]
              all_goals clear q0 q1 q2 q3 q4 q5 q6 q7 q8 fx m0 m1 m2 m3 m4 m5 m6 m7 m8 z2
              all_goals obtain ⟨q0, q1, q2, q3, q4, q5, q6, q7, q8⟩ := HN1.out
              all_goals obtain ⟨m0, m1, m2, m3, m4, m5, m6, m7, m8⟩ := HC1.out
              all_goals obtain ⟨r0, r1, r2, r3, r4, r5, r6, r7, r8⟩ := HN2.out
              all_goals obtain ⟨n0, n1, n2, n3, n4, n5, n6, n7, n8⟩ := HC2.out
              all_goals have fx := HX1.out
              all_goals have fy := HX2.out
              all_goals go_wp2_with fail
              all_goals refine (HREC.out _ HG2.out HF2.out).mono ?_
              all_goals rintro e W' ⟨rfl, hg', hf'⟩
              all_goals have HG' := hid hg'
              all_goals have HF' := hid hf'
              all_goals clear hg' hf'
              all_goals go_wp2_with fail
              all_goals exact ⟨⟨j + 1, by omega, by go_num, HG', HF'⟩, by simp [intOf]; omega⟩
            · have htb : (turn == 1) = false := by simpa using ht1
              have ho2 : op2 = wrap64 (7 - kop) := by rw [← hop2, ovO, if_pos rfl, if_neg ht1]
              subst ho2
              clear hop2 HN2 HX2 HC2 HG2 HF2
              go_wp2_with fail
              go_region_with fail
              all_goals simp only [IntWalk.i64_left, hW1]
              all_goals clear q0 q1 q2 q3 q4 q5 q6 q7 q8 fx m0 m1 m2 m3 m4 m5 m6 m7 m8 z2
              all_goals obtain ⟨q0, q1, q2, q3, q4, q5, q6, q7, q8⟩ := HN1.out
              all_goals obtain ⟨m0, m1, m2, m3, m4, m5, m6, m7, m8⟩ := HC1.out
              all_goals have fx := HX1.out
              all_goals go_wp2_with fail
              all_goals refine (HREC.out _ HG1.out HF1.out).mono ?_
              all_goals rintro e W' ⟨rfl, hg', hf'⟩
              all_goals have HG' := hid hg'
              all_goals have HF' := hid hf'
              all_goals clear hg' hf'
              all_goals go_wp2_with fail
              all_goals exact ⟨⟨j + 1, by omega, by go_num, HG', HF'⟩, by simp [intOf]; omega⟩
          ·
            have hKb : (kt.h.K == 1) = false := by simpa using hK
            have ho2 : op2 = kt.h.op := by rw [← hop2, ovO, if_neg hK]
            subst ho2
            obtain ⟨m0, m1, m2, m3, m4, m5, m6, m7, m8⟩ := nine_of (HSC.out ws kt.h.op 0 ⟨by decide, by decide⟩ HG0.out).2.1
            clear HSC hop2
            obtain ⟨⟨kK, kcc, kop, ⟨kvK, kvI, kvb, kvs⟩, kl⟩, kla, klc, kkb, kkc, kks⟩ := kt
            simp only [T.setO, T.h, T.la, T.lc, T.kb, T.kc, T.ks, tv, T.pr, pv, pa, prH] at *
            go_wp2_with fail
            refine (HREC.out _ HG0.out HF.out).mono ?_
            rintro e W' ⟨rfl, hg', hf'⟩
            have HG' := hid hg'
            have HF' := hid hf'
            clear hg' hf'
            go_wp2_with fail
            exact ⟨⟨j + 1, by omega, by go_num, HG', HF'⟩, by simp [intOf]; omega⟩
        · obtain rfl : j = kk.length := by omega
          have HG2 := HG
          go_wp2_with fail
          have h := HG2.out
          rw [HEND.out] at h
          rw [HT.out]
          have hres : Tryz.f16.results = #[] := by kernel_rfl
          refine bodyPost_end (v := .tuple #[]) ?_ rfl ⟨rfl, h, F1.out.trans HF.out⟩
          simp only [results, hres]
          go_simp
theorem over_any (t : T) : OverOk t := by
  have h := over_all t t.h.op
  have e : t.setO t.h.op = t := by cases t; rfl
  rwa [e] at h
end Go.Proofs.YtmcjnnkjdeofhaaGreat
