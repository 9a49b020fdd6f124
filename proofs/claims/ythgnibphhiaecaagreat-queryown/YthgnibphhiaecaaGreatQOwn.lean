/-
  Predicates in memory of their own. (Written by mkown.py.)
-/
import Derived.Test.YthgnibphhiaecaaGreatQArg
import Derived.Test.YthgnibphhiaecaaGreatANot
namespace Go.Proofs.YthgnibphhiaecaaGreat
open Go.ChangeShapes Go.WideShapes Go.ChangeAt Go.RowKit Cu Vl

def blkO (a : Option Addr) : List Nat := (a.map Addr.block).toList
mutual
def T.blk : T → List Nat
  | .mk _ la _ kb _ ks => blkO la ++ (blkO kb ++ blkL ks)
def blkL : List T → List Nat
  | [] => []
  | k :: r => k.blk ++ blkL r
end
theorem blk_eq (t : T) : t.blk = blkO t.la ++ (blkO t.kb ++ blkL t.ks) := by cases t; simp [T.blk, T.la, T.kb, T.ks]
theorem blkL_app : ∀ (a b : List T), blkL (a ++ b) = blkL a ++ blkL b
  | [], b => by simp [blkL]
  | k :: r, b => by simp only [List.cons_append, blkL]; rw [blkL_app r b, List.append_assoc]
theorem blkL_mem {ks : List T} {b : Nat} : b ∈ blkL ks ↔ ∃ k ∈ ks, b ∈ k.blk := by
  induction ks with
  | nil => simp [blkL]
  | cons k r ih => simp [blkL, ih]
structure HdN (h : Hd) : Prop where
  K : In64 h.K
  op : In64 h.op
  c : h.c.size ≤ 281474976710656
  v : VOk h.v
  l : ∀ x ∈ h.l, VOk x
  n : h.l.length * 40 ≤ 140737488351232
theorem HdOk.new {h : Hd} {la : Option Addr} {lc : Nat} (k : HdOk h la lc) : HdN h := ⟨k.K, k.op, k.c, k.v, k.l, k.n⟩
mutual
/-- A predicate whose lists are owned, in blocks from B on. -/
def NT (w : World) (B : Nat) : T → Prop
  | .mk h la lc kb kc ks => (HdN h ∧ ks.length * 120 ≤ 140737488351232) ∧ OwnL vc 4 w B 25 (.slice la h.l.length lc) h.l ∧ OwnL tc 9 w B 29 (.slice kb ks.length kc) ks ∧ NTL w B ks
def NTL (w : World) (B : Nat) : List T → Prop
  | [] => True
  | k :: r => NT w B k ∧ NTL w B r
end
theorem NTL_iff {w : World} {B : Nat} : ∀ {ks : List T}, NTL w B ks ↔ ∀ k ∈ ks, NT w B k
  | [] => by simp [NTL]
  | k :: r => by simp only [NTL, List.forall_mem_cons]; rw [NTL_iff]
theorem NT_iff {w : World} {B : Nat} {t : T} : NT w B t ↔ (HdN t.h ∧ t.ks.length * 120 ≤ 140737488351232) ∧ OwnL vc 4 w B 25 (.slice t.la t.h.l.length t.lc) t.h.l ∧ OwnL tc 9 w B 29 (.slice t.kb t.ks.length t.kc) t.ks ∧ ∀ k ∈ t.ks, NT w B k := by
  cases t
  rw [NT, NTL_iff]
  rfl
theorem own_blk {a : Option Addr} {n c b : Nat} (h : b ∈ blkO a) : (Value.slice a n c).ownBlock = some b := by
  cases a with
  | none => simp [blkO] at h
  | some x => simp [blkO] at h; subst h; rfl
theorem blk_own {a : Option Addr} {n c b : Nat} (h : (Value.slice a n c).ownBlock = some b) : b ∈ blkO a := by
  cases a with
  | none => cases h
  | some x => cases h; simp [blkO]
theorem NT.kept {w w' : World} {B : Nat} : ∀ (t : T), (∀ b ∈ t.blk, w'.heap[b]? = w.heap[b]?) → NT w B t → NT w' B t := by
  refine T.ind fun t ih hb h => ?_
  rw [NT_iff] at *
  rw [blk_eq] at hb
  refine ⟨h.1, h.2.1.kept fun g hg => hb g ?_, h.2.2.1.kept fun g hg => hb g ?_, fun k hk => ih k hk (fun b hbk => hb b ?_) (h.2.2.2 k hk)⟩
  · exact List.mem_append_left _ (blk_own hg)
  · exact List.mem_append_right _ (List.mem_append_left _ (blk_own hg))
  · exact List.mem_append_right _ (List.mem_append_right _ (blkL_mem.2 ⟨k, hk, hbk⟩))
theorem NT.lt {w : World} {B : Nat} : ∀ (t : T), NT w B t → ∀ b ∈ t.blk, B ≤ b ∧ b < w.heap.size := by
  refine T.ind fun t ih h b hb => ?_
  rw [NT_iff] at h
  rw [blk_eq] at hb
  rcases List.mem_append.1 hb with hb | hb
  · exact h.2.1.lt b (own_blk hb)
  · rcases List.mem_append.1 hb with hb | hb
    · exact h.2.2.1.lt b (own_blk hb)
    · obtain ⟨k, hk, hbk⟩ := blkL_mem.1 hb
      exact ih k hk (h.2.2.2 k hk) b hbk
theorem NT.later {w w' : World} {B : Nat} {t : T} (hb : Below w.heap.size w w') (h : NT w B t) : NT w' B t := NT.kept t (fun b hbk => hb.block b (NT.lt t h b hbk).2) h
theorem NT.low {w : World} {B C : Nat} (hC : C ≤ B) : ∀ (t : T), NT w B t → NT w C t := by
  refine T.ind fun t ih h => ?_
  rw [NT_iff] at *
  exact ⟨h.1, h.2.1.low hC, h.2.2.1.low hC, fun k hk => ih k hk (h.2.2.2 k hk)⟩
theorem NT.mt {w : World} {B : Nat} : ∀ (t : T), NT w B t → MT w w.heap.size t := by
  refine T.ind fun t ih h => ?_
  rw [NT_iff] at h
  rw [MT_iff]
  obtain ⟨⟨h1, h2⟩, h3, h4, h5⟩ := h
  obtain ⟨a1, c1, e1, _, _, z1, l1, _⟩ := h3.form vc_len
  obtain ⟨a2, c2, e2, _, _, z2, l2, _⟩ := h4.form tc_len
  simp only [Value.slice.injEq, true_and] at e1 e2
  obtain ⟨r1, r2⟩ := e1
  obtain ⟨r3, r4⟩ := e2
  subst r1 r2 r3 r4
  exact ⟨⟨h1.K, h1.op, h1.c, h1.v, h1.l, h1.n, z1⟩, LstB.of l1 (Nat.le_refl _), ⟨h2, z2⟩, LstB.of l2 (Nat.le_refl _), fun k hk => ih k hk (h5 k hk)⟩
/-- New memory, each list in a block of its own. -/
def FT (w : World) (B : Nat) (t : T) : Prop := NT w B t ∧ t.blk.Nodup
/-- The zero predicate. -/
def zT : T := .mk ⟨0, ⟨#[]⟩, 0, v0, []⟩ none 0 none 0 []
theorem infoPr : (Tryz.prog.info? 29).map (fun i => (i.zero, i.size, i.bytes)) = some (some (tv zT), 9, 120) := by kernel_rfl
/-- append of one element that lies in a block anywhere. -/
theorem app_one {w : World} {B : Nat} {v : Value} {ts : List T} {g0 : Nat} {x : T} (ho : OwnL tc 9 w B 29 v ts) (hx : Lst tc 9 w (some ⟨g0, 0, none⟩) [x]) (hn : (ts.length + 1) * 120 ≤ 140737488355328) (hB : B ≤ w.heap.size) :
    ∃ g c w', (Builtin.append_ #[27, 27] 27 #[v, .slice (some ⟨g0, 0, none⟩) 1 1]).run Tryz.prog w = .ok (.slice (some ⟨g, 0, none⟩) (ts.length + 1) c) w' ∧ OwnL tc 9 w' B 29 (.slice (some ⟨g, 0, none⟩) (ts.length + 1) c) (ts ++ [x]) ∧ w.grownBy w' v.ownBlock ∧ (v.ownBlock = some g ∨ g = w.heap.size) := by
  obtain ⟨i0, hi0, hz0, hz1, hz2⟩ := info_parts infoPr
  obtain ⟨g', o', e, _, hc⟩ := hx 0 x rfl
  simp only [Option.some.injEq, Addr.mk.injEq, and_true] at e
  obtain ⟨rfl, rfl⟩ := e
  have hnews : ∀ j u, (tc x)[j]? = some u → w.cell? ((⟨g0, 0, none⟩ : Addr).add j) = some u := fun j u hu => by
    rw [add_plain]
    have := hc j u hu
    simpa using this
  obtain ⟨v', w', hrun, q1, q2, _, q4⟩ := run_append_own_at (P := Tryz.prog) w B 27 27 29 i0 (tv zT) 9 120 Tryz.underlying27 hi0 hz0 hz1 hz2 rfl (by decide) v ts.length _ ho ⟨g0, 0, none⟩ 1 1 (tc x) rfl hnews (tc_one x) (by simp only [maxLen]; omega) hn hB
  have ho' : OwnL tc 9 w' B 29 v' (ts ++ [x]) := by
    unfold OwnL
    rw [List.length_append, List.length_singleton, List.flatMap_append, show List.flatMap tc [x] = tc x by simp]
    exact q1
  rcases ho'.2 with ⟨_, e⟩ | ⟨g, cap, cur, hv, _, _, _⟩
  · simp at e
  · rw [List.length_append, List.length_singleton] at hv
    subst hv
    refine ⟨g, cap, w', hrun, ho', q2, ?_⟩
    rcases q4 with q4 | q4
    · exact .inl q4.symm
    · cases q4; exact .inr rfl
/-- Nine cells are stored. -/
def put9 (w : World) (g o : Nat) (t : T) : World :=
  ((((((((w.setCell ⟨g, o, none⟩ (.int .i64 t.h.K)).setCell ⟨g, o + 1, none⟩ (.string t.h.c)).setCell ⟨g, o + 2, none⟩ (.int .i64 t.h.op)).setCell ⟨g, o + 3, none⟩ (.int .i64 t.h.v.K)).setCell ⟨g, o + 4, none⟩ (.int .i64 t.h.v.I)).setCell ⟨g, o + 5, none⟩ (.float .f64 t.h.v.b)).setCell ⟨g, o + 6, none⟩ (.string t.h.v.s)).setCell ⟨g, o + 7, none⟩ (.slice t.la t.h.l.length t.lc)).setCell ⟨g, o + 8, none⟩ (.slice t.kb t.ks.length t.kc)
theorem put9_far {w : World} {g o b : Nat} {t : T} (h : b ≠ g) : (put9 w g o t).heap[b]? = w.heap[b]? := by
  unfold put9
  exact (Below.heap_setCell _ _ _ _ h).trans ((Below.heap_setCell _ _ _ _ h).trans ((Below.heap_setCell _ _ _ _ h).trans ((Below.heap_setCell _ _ _ _ h).trans ((Below.heap_setCell _ _ _ _ h).trans ((Below.heap_setCell _ _ _ _ h).trans ((Below.heap_setCell _ _ _ _ h).trans ((Below.heap_setCell _ _ _ _ h).trans (Below.heap_setCell _ _ _ _ h))))))))
theorem put9_size {w : World} {g o : Nat} {t : T} : (put9 w g o t).heap.size = w.heap.size := by unfold put9; simp
theorem put9_below {B : Nat} {a w : World} (h : Below B a w) {g o : Nat} (hg : B ≤ g) (t : T) : Below B a (put9 w g o t) :=
  ((((((((h.setCell (p := ⟨g, o, none⟩) hg _).setCell (p := ⟨g, o + 1, none⟩) hg _).setCell (p := ⟨g, o + 2, none⟩) hg _).setCell (p := ⟨g, o + 3, none⟩) hg _).setCell (p := ⟨g, o + 4, none⟩) hg _).setCell (p := ⟨g, o + 5, none⟩) hg _).setCell (p := ⟨g, o + 6, none⟩) hg _).setCell (p := ⟨g, o + 7, none⟩) hg _).setCell (p := ⟨g, o + 8, none⟩) hg _
theorem slice_inj {g g' n n' c c' : Nat} (h : Value.slice (some ⟨g, 0, none⟩) n c = .slice (some ⟨g', 0, none⟩) n' c') : g' = g ∧ c' = c := by
  simp only [Value.slice.injEq, Option.some.injEq, Addr.mk.injEq, and_true] at h
  exact ⟨h.1.symm, h.2.2.symm⟩
set_option maxHeartbeats 1000000 in
/-- A predicate of an owned list is written over. -/
theorem OwnL.put9 {w : World} {B g c : Nat} {ts : List T} (h : OwnL tc 9 w B 29 (.slice (some ⟨g, 0, none⟩) ts.length c) ts) {j : Nat} (hj : j < ts.length) (t : T) :
    (∀ i, i < 9 → w.frozen? ⟨g, j * 9 + i, none⟩ = false) ∧ B ≤ g ∧ OwnL tc 9 (Go.Proofs.YthgnibphhiaecaaGreat.put9 w g (j * 9) t) B 29 (.slice (some ⟨g, 0, none⟩) (ts.set j t).length c) (ts.set j t) := by
  obtain ⟨x, hx⟩ : ∃ x, ts[j]? = some x := ⟨_, List.getElem?_eq_getElem hj⟩
  obtain ⟨⟨xK, xc, xo, ⟨xvK, xvI, xvb, xvs⟩, xl⟩, xla, xlc, xkb, xkc, xks⟩ := x
  obtain ⟨⟨tK, tcc, to', ⟨tvK, tvI, tvb, tvs⟩, tl⟩, tla, tlc, tkb, tkc, tks⟩ := t
  have e0 : tc (T.mk ⟨tK, xc, xo, ⟨xvK, xvI, xvb, xvs⟩, xl⟩ xla xlc xkb xkc xks) = (tc (T.mk ⟨xK, xc, xo, ⟨xvK, xvI, xvb, xvs⟩, xl⟩ xla xlc xkb xkc xks)).set 0 (.int .i64 tK) := rfl
  have e1 : tc (T.mk ⟨tK, tcc, xo, ⟨xvK, xvI, xvb, xvs⟩, xl⟩ xla xlc xkb xkc xks) = (tc (T.mk ⟨tK, xc, xo, ⟨xvK, xvI, xvb, xvs⟩, xl⟩ xla xlc xkb xkc xks)).set 1 (.string tcc) := rfl
  have e2 : tc (T.mk ⟨tK, tcc, to', ⟨xvK, xvI, xvb, xvs⟩, xl⟩ xla xlc xkb xkc xks) = (tc (T.mk ⟨tK, tcc, xo, ⟨xvK, xvI, xvb, xvs⟩, xl⟩ xla xlc xkb xkc xks)).set 2 (.int .i64 to') := rfl
  have e3 : tc (T.mk ⟨tK, tcc, to', ⟨tvK, xvI, xvb, xvs⟩, xl⟩ xla xlc xkb xkc xks) = (tc (T.mk ⟨tK, tcc, to', ⟨xvK, xvI, xvb, xvs⟩, xl⟩ xla xlc xkb xkc xks)).set 3 (.int .i64 tvK) := rfl
  have e4 : tc (T.mk ⟨tK, tcc, to', ⟨tvK, tvI, xvb, xvs⟩, xl⟩ xla xlc xkb xkc xks) = (tc (T.mk ⟨tK, tcc, to', ⟨tvK, xvI, xvb, xvs⟩, xl⟩ xla xlc xkb xkc xks)).set 4 (.int .i64 tvI) := rfl
  have e5 : tc (T.mk ⟨tK, tcc, to', ⟨tvK, tvI, tvb, xvs⟩, xl⟩ xla xlc xkb xkc xks) = (tc (T.mk ⟨tK, tcc, to', ⟨tvK, tvI, xvb, xvs⟩, xl⟩ xla xlc xkb xkc xks)).set 5 (.float .f64 tvb) := rfl
  have e6 : tc (T.mk ⟨tK, tcc, to', ⟨tvK, tvI, tvb, tvs⟩, xl⟩ xla xlc xkb xkc xks) = (tc (T.mk ⟨tK, tcc, to', ⟨tvK, tvI, tvb, xvs⟩, xl⟩ xla xlc xkb xkc xks)).set 6 (.string tvs) := rfl
  have e7 : tc (T.mk ⟨tK, tcc, to', ⟨tvK, tvI, tvb, tvs⟩, tl⟩ tla tlc xkb xkc xks) = (tc (T.mk ⟨tK, tcc, to', ⟨tvK, tvI, tvb, tvs⟩, xl⟩ xla xlc xkb xkc xks)).set 7 (.slice tla tl.length tlc) := rfl
  have e8 : tc (T.mk ⟨tK, tcc, to', ⟨tvK, tvI, tvb, tvs⟩, tl⟩ tla tlc tkb tkc tks) = (tc (T.mk ⟨tK, tcc, to', ⟨tvK, tvI, tvb, tvs⟩, tl⟩ tla tlc xkb xkc xks)).set 8 (.slice tkb tks.length tkc) := rfl
  obtain ⟨g0, c0, q0, hBg, _, _, _, h0⟩ := OwnL.at tc_len h hx (by omega : 0 < 9) _ _ e0
  obtain ⟨rfl, rfl⟩ := slice_inj q0
  obtain ⟨g0, c0, q0, _, _, _, _, h1⟩ := OwnL.at tc_len h0 (by rw [List.getElem?_set_self (by simpa using hj)]) (by omega : 1 < 9) _ _ e1
  obtain ⟨rfl, rfl⟩ := slice_inj q0
  obtain ⟨g0, c0, q0, _, _, _, _, h2⟩ := OwnL.at tc_len h1 (by rw [List.getElem?_set_self (by simpa using hj)]) (by omega : 2 < 9) _ _ e2
  obtain ⟨rfl, rfl⟩ := slice_inj q0
  obtain ⟨g0, c0, q0, _, _, _, _, h3⟩ := OwnL.at tc_len h2 (by rw [List.getElem?_set_self (by simpa using hj)]) (by omega : 3 < 9) _ _ e3
  obtain ⟨rfl, rfl⟩ := slice_inj q0
  obtain ⟨g0, c0, q0, _, _, _, _, h4⟩ := OwnL.at tc_len h3 (by rw [List.getElem?_set_self (by simpa using hj)]) (by omega : 4 < 9) _ _ e4
  obtain ⟨rfl, rfl⟩ := slice_inj q0
  obtain ⟨g0, c0, q0, _, _, _, _, h5⟩ := OwnL.at tc_len h4 (by rw [List.getElem?_set_self (by simpa using hj)]) (by omega : 5 < 9) _ _ e5
  obtain ⟨rfl, rfl⟩ := slice_inj q0
  obtain ⟨g0, c0, q0, _, _, _, _, h6⟩ := OwnL.at tc_len h5 (by rw [List.getElem?_set_self (by simpa using hj)]) (by omega : 6 < 9) _ _ e6
  obtain ⟨rfl, rfl⟩ := slice_inj q0
  obtain ⟨g0, c0, q0, _, _, _, _, h7⟩ := OwnL.at tc_len h6 (by rw [List.getElem?_set_self (by simpa using hj)]) (by omega : 7 < 9) _ _ e7
  obtain ⟨rfl, rfl⟩ := slice_inj q0
  obtain ⟨g0, c0, q0, _, _, _, _, h8⟩ := OwnL.at tc_len h7 (by rw [List.getElem?_set_self (by simpa using hj)]) (by omega : 8 < 9) _ _ e8
  obtain ⟨rfl, rfl⟩ := slice_inj q0
  simp only [List.set_set] at h8
  refine ⟨fun i hi => ?_, hBg, ?_⟩
  · rcases h.2 with ⟨h1, _⟩ | ⟨g1, cap, cur, hv, _, hg, _⟩
    · cases h1
    · obtain ⟨rfl, rfl⟩ := slice_inj hv
      simp [World.frozen?, hg]
  · unfold Go.Proofs.YthgnibphhiaecaaGreat.put9
    simp only [T.h, T.la, T.lc, T.kb, T.kc, T.ks]
    have hl : (ts.set j (T.mk ⟨tK, tcc, to', ⟨tvK, tvI, tvb, tvs⟩, tl⟩ tla tlc tkb tkc tks)).length = ts.length := by simp
    rw [hl]
    exact h8
end Go.Proofs.YthgnibphhiaecaaGreat
