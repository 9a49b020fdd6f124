import Derived.Test.YthgnibphhiaecaaGreatQFr
import Derived.Test.YthgnibphhiaecaaGreatQCoAll
/-
  Writes into trees of one's own: lists whose elements are written over whole; blocks that are apart.
-/
namespace Go.Proofs.YthgnibphhiaecaaGreat
open Go.ChangeShapes Go.WideShapes Go.ChangeAt Go.RowKit Cu Vl

theorem blkL_dis {ks : List T} (h : (blkL ks).Nodup) {i j : Nat} (hi : i < ks.length) (hj : j < ks.length) (hne : i ≠ j) : ∀ b ∈ ks[i].blk, b ∉ ks[j].blk := by
  induction ks generalizing i j with
  | nil => simp at hi
  | cons k r ih =>
    simp only [blkL] at h
    obtain ⟨_, h2, h3⟩ := List.nodup_append.1 h
    intro b hb hb2
    cases i with
    | zero =>
      cases j with
      | zero => exact hne rfl
      | succ j => exact h3 b hb b (blkL_mem.2 ⟨_, List.getElem_mem (by simpa using hj), hb2⟩) rfl
    | succ i =>
      cases j with
      | zero => exact h3 b hb2 b (blkL_mem.2 ⟨_, List.getElem_mem (by simpa using hi), hb⟩) rfl
      | succ j => exact ih h2 (by simpa using hi) (by simpa using hj) (by omega) b hb hb2
theorem blkL_kid {ks : List T} (h : (blkL ks).Nodup) {k : T} (hk : k ∈ ks) : k.blk.Nodup := by
  induction ks with
  | nil => cases hk
  | cons x r ih =>
    simp only [blkL] at h
    obtain ⟨h1, h2, _⟩ := List.nodup_append.1 h
    rcases List.mem_cons.1 hk with rfl | hk
    · exact h1
    · exact ih h2 hk
/-- What a tree's blocks are apart from. -/
structure Dis (la kb : Option Addr) (ks : List T) : Prop where
  lk : ∀ b ∈ blkO la, b ∉ blkO kb
  lt : ∀ b ∈ blkO la, ∀ k ∈ ks, b ∉ k.blk
  kt : ∀ b ∈ blkO kb, ∀ k ∈ ks, b ∉ k.blk
  kk : ∀ i j (hi : i < ks.length) (hj : j < ks.length), i ≠ j → ∀ b ∈ ks[i].blk, b ∉ ks[j].blk
  kn : ∀ k ∈ ks, k.blk.Nodup
theorem Dis.of {t : T} (h : t.blk.Nodup) : Dis t.la t.kb t.ks := by
  rw [blk_eq] at h
  obtain ⟨_, h2, h3⟩ := List.nodup_append.1 h
  obtain ⟨_, h5, h6⟩ := List.nodup_append.1 h2
  exact ⟨fun b hb hb2 => h3 b hb b (List.mem_append_left _ hb2) rfl, fun b hb k hk hb2 => h3 b hb b (List.mem_append_right _ (blkL_mem.2 ⟨k, hk, hb2⟩)) rfl, fun b hb k hk hb2 => h6 b hb b (blkL_mem.2 ⟨k, hk, hb2⟩) rfl, fun i j hi hj hne => blkL_dis h5 hi hj hne, fun k hk => blkL_kid h5 hk⟩
theorem own_some {β : Type} {f : β → List Value} {k : Nat} (hf : ∀ x, (f x).length = k) {w : World} {B n c : Nat} {a : Option Addr} {e : TypeId} {l : List β} (h : OwnL f k w B e (.slice a n c) l) (hn : 0 < l.length) : ∃ g, a = some ⟨g, 0, none⟩ ∧ B ≤ g ∧ g < w.heap.size ∧ n = l.length := by
  obtain ⟨a0, c0, ef, -, -, hz, -, hb⟩ := h.form hf
  simp only [Value.slice.injEq] at ef
  obtain ⟨rfl, rfl, -⟩ := ef
  cases a with
  | none => have := (hz rfl).1; omega
  | some x => exact ⟨x.block, by rw [← (hb x rfl).2.2], (hb x rfl).1, (hb x rfl).2.1, rfl⟩
theorem own_frz {β : Type} {f : β → List Value} {k : Nat} {w : World} {B g n c : Nat} {e : TypeId} {l : List β} (h : OwnL f k w B e (.slice (some ⟨g, 0, none⟩) n c) l) (j : Nat) : w.frozen? ⟨g, j, none⟩ = false := by
  rcases h.2 with ⟨hv, e⟩ | ⟨g', cap, cur, hv, hb, hg, _⟩
  · cases hv
  · cases hv
    simp [World.frozen?, hg]
theorem own_cells {β : Type} {f : β → List Value} {k : Nat} (hf : ∀ x, (f x).length = k) {w : World} {B g n c : Nat} {e : TypeId} {l : List β} (h : OwnL f k w B e (.slice (some ⟨g, 0, none⟩) n c) l) {j : Nat} (hj : j < l.length) : ∀ i u, (f l[j])[i]? = some u → w.cell? ⟨g, j * k + i, none⟩ = some u := by
  obtain ⟨a0, c0, ef, -, -, -, hl, -⟩ := h.form hf
  simp only [Value.slice.injEq] at ef
  rw [← ef.1] at hl
  obtain ⟨g', o, e2, _, hc⟩ := hl j l[j] (List.getElem?_eq_getElem hj)
  cases e2
  intro i u hu
  have := hc i u hu
  rwa [Nat.zero_add] at this
/-- A value is written over, whole. -/
def put4 (w : World) (g o : Nat) (v : V) : World := (((w.setCell ⟨g, o, none⟩ (.int .i64 v.K)).setCell ⟨g, o + 1, none⟩ (.int .i64 v.I)).setCell ⟨g, o + 2, none⟩ (.float .f64 v.b)).setCell ⟨g, o + 3, none⟩ (.string v.s)
theorem own_put4 {w : World} {B g n c : Nat} {L : List V} (h : OwnL vc 4 w B 25 (.slice (some ⟨g, 0, none⟩) n c) L) {j : Nat} (hj : j < L.length) (v : V) :
    OwnL vc 4 (put4 w g (j * 4) v) B 25 (.slice (some ⟨g, 0, none⟩) n c) (L.set j v) := by
  obtain ⟨x, hx⟩ : ∃ x, L[j]? = some x := ⟨_, List.getElem?_eq_getElem hj⟩
  have e0 : vc ⟨v.K, x.I, x.b, x.s⟩ = (vc x).set 0 (.int .i64 v.K) := rfl
  have e1 : vc ⟨v.K, v.I, x.b, x.s⟩ = (vc ⟨v.K, x.I, x.b, x.s⟩).set 1 (.int .i64 v.I) := rfl
  have e2 : vc ⟨v.K, v.I, v.b, x.s⟩ = (vc ⟨v.K, v.I, x.b, x.s⟩).set 2 (.float .f64 v.b) := rfl
  have e3 : vc ⟨v.K, v.I, v.b, v.s⟩ = (vc ⟨v.K, v.I, v.b, x.s⟩).set 3 (.string v.s) := rfl
  obtain ⟨g0, c0, q0, _, _, _, _, h1⟩ := OwnL.at vc_len h hx (by omega : 0 < 4) _ _ e0
  cases q0
  obtain ⟨g0, c0, q0, _, _, _, _, h2⟩ := OwnL.at vc_len h1 (by rw [List.getElem?_set_self hj]) (by omega : 1 < 4) _ _ e1
  simp only [Value.slice.injEq, Option.some.injEq, Addr.mk.injEq, and_true] at q0
  obtain ⟨rfl, _⟩ := q0
  rw [List.set_set] at h2
  obtain ⟨g0, c0, q0, _, _, _, _, h3⟩ := OwnL.at vc_len h2 (by rw [List.getElem?_set_self hj]) (by omega : 2 < 4) _ _ e2
  simp only [Value.slice.injEq, Option.some.injEq, Addr.mk.injEq, and_true] at q0
  obtain ⟨rfl, _⟩ := q0
  rw [List.set_set] at h3
  obtain ⟨g0, c0, q0, _, _, _, _, h4⟩ := OwnL.at vc_len h3 (by rw [List.getElem?_set_self hj]) (by omega : 3 < 4) _ _ e3
  simp only [Value.slice.injEq, Option.some.injEq, Addr.mk.injEq, and_true] at q0
  obtain ⟨rfl, _⟩ := q0
  rw [List.set_set] at h4
  exact h4
theorem put4_far {w : World} {g o b : Nat} {v : V} (h : b ≠ g) : (put4 w g o v).heap[b]? = w.heap[b]? := by
  unfold put4
  exact (Below.heap_setCell _ _ _ _ h).trans ((Below.heap_setCell _ _ _ _ h).trans ((Below.heap_setCell _ _ _ _ h).trans (Below.heap_setCell _ _ _ _ h)))
theorem put4_fr {w : World} {g o B : Nat} {v : V} {bl : List Nat} (hg : g ∈ bl) (hB : B ≤ g) : Fr bl B w (put4 w g o v) :=
  (((Fr.set w _ _ hg hB).trans (Fr.set _ _ _ hg hB)).trans (Fr.set _ _ _ hg hB)).trans (Fr.set _ _ _ hg hB)
theorem put9_fr {w : World} {g o B : Nat} {t : T} {bl : List Nat} (hg : g ∈ bl) (hB : B ≤ g) : Fr bl B w (put9 w g o t) :=
  ⟨put9_below (Below.refl B w) hB t, fun b _ hn => put9_far (by rintro rfl; exact hn hg)⟩
theorem FT.fr {w w' : World} {B : Nat} {t : T} (h : FT w B t) {bl : List Nat} (hf : Fr bl B w w') (hn : ∀ b ∈ t.blk, b ∉ bl) : FT w' B t := ⟨NT.kept t (fun b hb => hf.same b (NT.lt t h.1 b hb).2 (hn b hb)) h.1, h.2⟩
theorem OwnL.fr {β : Type} {f : β → List Value} {k : Nat} {w w' : World} {B n c : Nat} {a : Option Addr} {e : TypeId} {l : List β} (h : OwnL f k w B e (.slice a n c) l) {bl : List Nat} (hf : Fr bl B w w') (hn : ∀ b ∈ blkO a, b ∉ bl) : OwnL f k w' B e (.slice a n c) l := h.kept fun g hg => hf.same g (h.lt g hg).2 (hn g (blk_own hg))
end Go.Proofs.YthgnibphhiaecaaGreat

/-
  append of one element to an owned list: the list that was there stays owned as it was (its room too).
-/
namespace Go.Proofs.YthgnibphhiaecaaGreat
open Go.ChangeShapes Go.WideShapes Go.ChangeAt Go.RowKit Cu Vl

theorem own_pre {β : Type} {f : β → List Value} {k : Nat} (hf : ∀ x, (f x).length = k) {w : World} {B c : Nat} {a : Addr} {e : TypeId} {l r : List β} (h : OwnL f k w B e (.slice (some a) (l.length + r.length) c) (l ++ r)) : OwnL f k w B e (.slice (some a) l.length c) l := by
  rcases h.2 with ⟨hv, _⟩ | ⟨g, cap, cur, hv, hb, hg, hn, hm, hs, ht⟩
  · cases hv
  · simp only [Value.slice.injEq, Option.some.injEq] at hv
    obtain ⟨rfl, _, rfl⟩ := hv
    refine ⟨flat_len hf l, .inr ⟨g, c, cur, rfl, hb, hg, by simp at hn; omega, hm, hs, ?_⟩⟩
    have h2 := congrArg (List.take (l.length * k)) ht
    rw [List.take_take, Nat.min_eq_left (Nat.mul_le_mul_right _ (by simp)), List.flatMap_append, List.take_append_of_le_length (by rw [flat_len hf]; exact Nat.le_refl _)] at h2
    rw [h2]
    exact List.take_of_length_le (by rw [flat_len hf]; exact Nat.le_refl _)
theorem app_keep {β : Type} {f : β → List Value} {k : Nat} (hf : ∀ x, (f x).length = k) (hk : 0 < k) (h1 : ∀ x, ∀ u ∈ f x, u.oneCell' = true) {t e : TypeId} {z : Value} {by0 : Nat}
    (ht : Tryz.prog.underlying t = some (.slice e)) (hi : (Tryz.prog.info? e).map (fun i => (i.zero, i.size, i.bytes)) = some (some z, k, by0)) (hzs : z.cells.size = k) {w : World} {B n c : Nat} {a0 : Option Addr} {l : List β} (ho : OwnL f k w B e (.slice a0 n c) l)
    {g0 : Nat} {x : β} (hx : Lst f k w (some ⟨g0, 0, none⟩) [x]) (hb : (l.length + 1) * by0 ≤ 140737488355328) (hp : 0 < by0) (hB : B ≤ w.heap.size) :
    ∃ g c' w', (Builtin.append_ #[t, t] t #[.slice a0 n c, .slice (some ⟨g0, 0, none⟩) 1 1]).run Tryz.prog w = .ok (.slice (some ⟨g, 0, none⟩) (n + 1) c') w' ∧ OwnL f k w' B e (.slice (some ⟨g, 0, none⟩) (n + 1) c') (l ++ [x]) ∧ OwnL f k w' B e (.slice a0 n c) l ∧ Fr (blkO a0) B w w' ∧ (g ∈ blkO a0 ∨ g = w.heap.size) := by
  obtain ⟨i0, hi0, hz0, hz1, hz2⟩ := info_parts hi
  have hnm : l.length + 1 ≤ 140737488355328 := Nat.le_trans (Nat.le_mul_of_pos_right _ hp) hb
  obtain rfl : n = l.length := by
    obtain ⟨_, _, ef, _⟩ := ho.form hf
    simp only [Value.slice.injEq] at ef
    exact ef.2.1
  have hnews : ∀ j u, (f x)[j]? = some u → w.cell? ((⟨g0, 0, none⟩ : Addr).add j) = some u := fun j u hu => by
    obtain ⟨g', o', e', _, hc⟩ := hx 0 x rfl
    cases e'
    rw [add_plain]
    have := hc j u hu
    simpa using this
  have hl1 : (f x).length = 1 * i0.size := by rw [hf, hz1, Nat.one_mul]
  obtain ⟨v', w', hrun, q1, q2, -, q4⟩ := run_append_own_at (P := Tryz.prog) w B t t e i0 z k by0 ht hi0 hz0 hz1 hz2 hzs hk (.slice a0 l.length c) l.length _ ho ⟨g0, 0, none⟩ 1 1 (f x) (by rw [hf, Nat.one_mul]) hnews (h1 x) (by simp only [maxLen]; omega) hb hB
  have ho' : OwnL f k w' B e v' (l ++ [x]) := by
    unfold OwnL
    rw [List.length_append, List.length_singleton, List.flatMap_append, show List.flatMap f [x] = f x by simp]
    exact q1
  have hbl : Below B w w' := (Below.refl B w).grown q2 hB (fun j hj => (OwnL.lt ho j hj).1)
  have hsm : ∀ b, b < w.heap.size → b ∉ blkO a0 → w'.heap[b]? = w.heap[b]? := fun b h2 h3 => q2.block b h2 (fun e => h3 (blk_own e.symm))
  obtain ⟨g, cap, hv'⟩ : ∃ g cap, v' = .slice (some ⟨g, 0, none⟩) (l.length + 1) cap := by
    rcases ho'.2 with ⟨_, e⟩ | ⟨g, cap, cur, hv, _, _, _⟩
    · simp at e
    · rw [List.length_append, List.length_singleton] at hv
      exact ⟨g, cap, hv⟩
  subst hv'
  have hgo : g ∈ blkO a0 ∨ g = w.heap.size := by
    rcases q4 with q4 | q4
    · exact .inl (blk_own q4.symm)
    · cases q4; exact .inr rfl
  refine ⟨g, cap, w', hrun, ho', ?_, ⟨hbl, hsm⟩, hgo⟩
  rcases ho.2 with ⟨hv, e0⟩ | ⟨g1, cap1, cur, hv, hbg, hg, hnc, hcm, hcs, htk⟩
  · exact ⟨ho.1, .inl ⟨hv, e0⟩⟩
  · simp only [Value.slice.injEq, true_and] at hv
    obtain ⟨rfl, rfl⟩ := hv
    by_cases hroom : l.length + 1 ≤ c
    · have hr2 := run_append_room (P := Tryz.prog) w t t e i0 ht hi0 g1 l.length c cur hg ⟨g0, 0, none⟩ 1 1 (f x) hl1 hnews (h1 x) hroom (by rw [hl1, hcs, hz1, ← Nat.add_mul]; exact Nat.mul_le_mul_right _ hroom)
      rw [hrun] at hr2
      simp only [Result.ok.injEq, Value.slice.injEq, Option.some.injEq, Addr.mk.injEq, and_true, true_and] at hr2
      obtain ⟨⟨rfl, rfl⟩, _⟩ := hr2
      exact own_pre hf (r := [x]) ho'
    · have hlx : (l.flatMap f).length = l.length * i0.size := by rw [flat_len hf, hz1]
      have hold : ∀ j u, (l.flatMap f)[j]? = some u → w.cell? ((⟨g1, 0, none⟩ : Addr).add j) = some u := World.ownsRow.cells ho rfl
      have hr2 := run_append_grow (P := Tryz.prog) w t t e i0 z ht hi0 hz0 ⟨g1, 0, none⟩ l.length c (l.flatMap f) hlx hold ⟨g0, 0, none⟩ 1 1 (f x) hl1 hnews (by omega) (by omega) (growslice_fits (by omega) (by rw [hz2]; exact hb))
      rw [hrun] at hr2
      simp only [Result.ok.injEq] at hr2
      have hlt := (Array.getElem?_eq_some_iff.1 hg).1
      refine ho.kept fun g2 hg2 => ?_
      cases hg2
      rw [hr2.2]
      exact (below_new w.drew _).block g1 hlt
end Go.Proofs.YthgnibphhiaecaaGreat

/-
  law.spoil: all lists of a predicate are written over. (Written by mkspl.py.)
-/
namespace Go.Proofs.YthgnibphhiaecaaGreat
open Go.ChangeShapes Go.WideShapes Go.ChangeAt Go.RowKit Cu Vl
attribute [local go_sem] run_store_float

def sp77 : V := ⟨1, 77, 0, ⟨#[]⟩⟩
def sp99 : T := .mk ⟨99, ⟨#[]⟩, 0, v0, []⟩ none 0 none 0 []
theorem own_put9 {w : World} {B g n c : Nat} {ts : List T} (h : OwnL tc 9 w B 29 (.slice (some ⟨g, 0, none⟩) n c) ts) {j : Nat} (hj : j < ts.length) (t : T) : OwnL tc 9 (put9 w g (j * 9) t) B 29 (.slice (some ⟨g, 0, none⟩) n c) (ts.set j t) := by
  obtain ⟨_, _, _, _, rfl⟩ := own_some tc_len h (by omega)
  have h2 := (OwnL.put9 h hj t).2.2
  rwa [List.length_set] at h2
def SplOk (t : T) : Prop := ∀ (w : World) (B : Nat), FT w B t → B ≤ w.heap.size → Calls Tryz.prog 9 #[tv t] w fun r w' => r = .returned (.tuple #[]) ∧ Fr t.blk B w w'
set_option maxRecDepth 8000 in
set_option maxHeartbeats 16000000 in
theorem spoil_any : ∀ t, SplOk t := by
  refine T.ind fun t ih => ?_
  intro w B hft hB
  have b1 := below_new w (.cells (ta t) 29)
  have x1 := Bx.new w (ta t) 29
  obtain ⟨w1, hw1⟩ : ∃ w1, w.alloc (.cells (ta t) 29) = w1 := ⟨_, rfl⟩
  rw [hw1] at b1 x1
  have hn1 := NT_iff.1 (NT.later b1 hft.1)
  have HD := hid (Dis.of hft.2)
  have HLt : Hid (∀ b ∈ t.blk, b < w.heap.size) := fun b hb => (NT.lt t hft.1 b hb).2
  have F1 : Hid (Fr t.blk B w w1) := Fr.new b1 hB
  have HX : Hid (∀ W, Fr t.blk B w1 W → Bx W w.heap.size (ta t) 29) := fun W h => (h.same _ x1.lt (fun hm => by have := HLt.out _ hm; omega)).trans x1
  have HBl : Hid ((∀ b ∈ blkO t.la, b ∈ t.blk) ∧ (∀ b ∈ blkO t.kb, b ∈ t.blk) ∧ ∀ k ∈ t.ks, ∀ b ∈ k.blk, b ∈ t.blk) := by
    show _ ∧ _
    rw [blk_eq]
    exact ⟨fun b hb => List.mem_append_left _ hb, fun b hb => List.mem_append_right _ (List.mem_append_left _ hb), fun k hk b hb => List.mem_append_right _ (List.mem_append_right _ (blkL_mem.2 ⟨k, hk, hb⟩))⟩
  have HV0 : Hid (OwnL vc 4 w1 B 25 (.slice t.la t.h.l.length t.lc) t.h.l) := hn1.2.1
  have HK0 : Hid (OwnL tc 9 w1 B 29 (.slice t.kb t.ks.length t.kc) t.ks) := hn1.2.2.1
  have HT0 : Hid (∀ k ∈ t.ks, FT w1 B k) := fun k hk => ⟨hn1.2.2.2 k hk, HD.out.kn k hk⟩
  have HN := hid hn1.1
  have hvn : t.h.l.length ≤ 140737488355328 := by have := hn1.1.1.n; omega
  have hkn : t.ks.length ≤ 140737488355328 := by have := hn1.1.2; omega
  have HI := hid ih
  have F2 : Hid (Fr t.blk B w1 w1) := Fr.refl _ _ _
  obtain ⟨p0, p1, p2, p3, p4, p5, p6, p7, p8⟩ := Bx.prd x1
  have fx := Bx.frz x1
  clear b1 x1 hn1 hft hB ih
  generalize t.blk = bl at *
  obtain ⟨⟨K, c, op, ⟨vK, vI, vb, vs⟩, l⟩, la, lc, kb, kc, kk⟩ := t
  dsimp only [T.h, T.la, T.lc, T.kb, T.kc, T.ks, tv, ta, T.pr, pv, pa, prH] at *
  go_enter Tryz.func9, Tryz.ntmps9
  go_wp2_with fail
  clear hw1 p0 p1 p2 p3 p4 p5 p6 p7 p8 fx
  go_loopw [2] (fun ix wr => ∃ i : Nat, i ≤ l.length ∧ ix = .int .i64 i ∧ ∃ l' : List V, l'.length = l.length ∧ Hid (OwnL vc 4 wr B 25 (.slice la l.length lc) l') ∧ Hid (OwnL tc 9 wr B 29 (.slice kb kk.length kc) kk) ∧ Hid (∀ k ∈ kk, FT wr B k) ∧ Hid (Fr bl B w1 wr)) (fun ix _ => l.length - (intOf ix).toNat)
  case atStart => exact ⟨0, Nat.zero_le _, rfl, l, rfl, HV0, HK0, HT0, F2⟩
  case round =>
    clear HV0 HK0 HT0 F2
    obtain ⟨i, hi, rfl, l', hl', HV, HK, HT, HF⟩ := hrel
    rename World => wr
    obtain ⟨q0, q1, q2, q3, q4, q5, q6, q7, q8⟩ := (HX.out wr HF.out).nine'
    have fx := (HX.out wr HF.out).frz
    by_cases hlt : i < l.length
    · have hii : (i : Int) < (l.length : Int) := by omega
      have hil : i < l'.length := by omega
      obtain ⟨g, rfl, hg1, hg2, -⟩ := own_some vc_len HV.out (by omega)
      have hz := own_frz HV.out
      have hc := own_cells vc_len HV.out hil
      generalize l'[i] = y at hc
      obtain ⟨yK, yI, yb, ys⟩ := y
      have k0 := hc 0 _ rfl
      have k1 := hc 1 _ rfl
      have k2 := hc 2 _ rfl
      have k3 := hc 3 _ rfl
      rw [Nat.add_zero] at k0
      have hgb : g ∈ blkO (some (⟨g, 0, none⟩ : Addr)) := by simp [blkO]
      have hfr : Fr (blkO (some (⟨g, 0, none⟩ : Addr))) B wr (put4 wr g (i * 4) sp77) := put4_fr hgb hg1
      have HV2 := hid (own_put4 HV.out hil sp77)
      have HK2 := hid (HK.out.fr hfr fun b hb hb2 => HD.out.lk b hb2 hb)
      have HT2 : Hid (∀ k ∈ kk, FT (put4 wr g (i * 4) sp77) B k) := fun k hk => (HT.out k hk).fr hfr fun b hb hb2 => HD.out.lt b hb2 k hk hb
      have HF2 := hid (HF.out.trans (hfr.sub HBl.out.1))
      have hl2 : (l'.set i sp77).length = l.length := by rw [List.length_set]; exact hl'
      clear hc hfr HV HK HT HF
      go_wp2_with fail
      exact ⟨⟨i + 1, by omega, by go_num, l'.set i sp77, hl2, HV2, HK2, HT2, HF2⟩, by simp [intOf]; omega⟩
    · obtain rfl : i = l.length := by omega
      have HK0 : Hid (OwnL tc 9 wr B 29 (.slice kb kk.length kc) ((kk.take 0).map (fun _ => sp99) ++ kk.drop 0)) := by
        show OwnL _ _ _ _ _ _ _
        simpa using HK.out
      have HT0 : Hid (∀ m (hm : m < kk.length), 0 ≤ m → FT wr B kk[m]) := fun m hm _ => HT.out _ (List.getElem_mem hm)
      clear HV HK HT hl'
      go_wp2_with fail
      clear q0 q1 q2 q3 q4 q5 q6 q7 q8 fx
      go_loopw [3] (fun ix ws => ∃ j : Nat, j ≤ kk.length ∧ ix = .int .i64 j ∧ Hid (OwnL tc 9 ws B 29 (.slice kb kk.length kc) ((kk.take j).map (fun _ => sp99) ++ kk.drop j)) ∧ Hid (∀ m (hm : m < kk.length), j ≤ m → FT ws B kk[m]) ∧ Hid (Fr bl B w1 ws)) (fun ix _ => kk.length - (intOf ix).toNat)
      case atStart => exact ⟨0, Nat.zero_le _, rfl, HK0, HT0, HF⟩
      case round =>
        clear HK0 HT0 HF
        obtain ⟨j, hj, rfl, HK, HT, HF⟩ := hrel
        rename World => ws
        obtain ⟨q0, q1, q2, q3, q4, q5, q6, q7, q8⟩ := (HX.out ws HF.out).nine'
        have fx := (HX.out ws HF.out).frz
        by_cases hlt : j < kk.length
        · have hjj : (j : Int) < (kk.length : Int) := by omega
          have hjm : j < ((kk.take j).map (fun _ => sp99) ++ kk.drop j).length := by simp; omega
          obtain ⟨g, rfl, hg1, hg2, -⟩ := own_some tc_len HK.out (by omega)
          have hc := own_cells tc_len HK.out hjm
          rw [mix_get (fun _ => sp99) kk hlt hjm] at hc
          have HSet := hid (mix_set (fun _ => sp99) kk hlt)
          have HFj := hid (HT.out j hlt (Nat.le_refl _))
          have HIj := hid (HI.out _ (List.getElem_mem hlt))
          have hkd : ∀ b ∈ blkO (some (⟨g, 0, none⟩ : Addr)), ∀ k ∈ kk, b ∉ k.blk := HD.out.kt
          have HKd := hid (fun b hb => hkd b hb kk[j] (List.getElem_mem hlt))
          have HKk := hid (fun m (hm : m < kk.length) (hne : m ≠ j) => HD.out.kk m j hm hlt hne)
          have HBj := hid (HBl.out.2.2 _ (List.getElem_mem hlt))
          have HKD := hid hkd
          have hc0 := hc 0
          have hc1 := hc 1
          have hc2 := hc 2
          have hc3 := hc 3
          have hc4 := hc 4
          have hc5 := hc 5
          have hc6 := hc 6
          have hc7 := hc 7
          have hc8 := hc 8
          clear hc hkd
          generalize hkt : kk[j] = kt at *
          obtain ⟨tt, htt⟩ : ∃ x, kt = x := ⟨_, rfl⟩
          rw [htt] at HFj HIj HKd HKk HBj
          have HCall := hid (HIj.out ws B HFj.out (by have := hg2; omega))
          clear HIj HFj hkt
          have HTT := hid htt
          obtain ⟨⟨kK, kcc, kop, ⟨kvK, kvI, kvb, kvs⟩, kl⟩, kla, klc, kkb, kkc, kks⟩ := kt
          have m0 := hc0 _ rfl
          have m1 := hc1 _ rfl
          have m2 := hc2 _ rfl
          have m3 := hc3 _ rfl
          have m4 := hc4 _ rfl
          have m5 := hc5 _ rfl
          have m6 := hc6 _ rfl
          have m7 := hc7 _ rfl
          have m8 := hc8 _ rfl
          rw [Nat.add_zero] at m0
          rw [← htt] at HCall
          dsimp only [T.h, T.la, T.lc, T.kb, T.kc, T.ks, tv, T.pr, pv, pa, prH] at HCall
          clear hc0 hc1 hc2 hc3 hc4 hc5 hc6 hc7 hc8 htt
          go_wp2_with fail
          refine HCall.out.mono ?_
          rintro e w2 ⟨rfl, hfr⟩
          rw [show (T.mk ⟨kK, kcc, kop, ⟨kvK, kvI, kvb, kvs⟩, kl⟩ kla klc kkb kkc kks).blk = tt.blk by rw [HTT.out]] at hfr
          have hk2 := HK.out.fr hfr fun b hb hb2 => HKd.out b hb hb2
          have ht2 : ∀ m (hm : m < kk.length), j + 1 ≤ m → FT w2 B kk[m] := fun m hm h => (HT.out m hm (by omega)).fr hfr fun b hb => HKk.out m hm (by omega) b hb
          have hf2 := HF.out.trans (hfr.sub HBj.out)
          have hz := own_frz hk2
          have hc := own_cells tc_len hk2 hjm
          generalize ((kk.take j).map (fun _ => sp99) ++ kk.drop j)[j] = y at hc
          obtain ⟨⟨yK, ycc, yop, ⟨yvK, yvI, yvb, yvs⟩, yl⟩, yla, ylc, ykb, ykc, yks⟩ := y
          have n0 := hc 0 _ rfl
          have n1 := hc 1 _ rfl
          have n2 := hc 2 _ rfl
          have n3 := hc 3 _ rfl
          have n4 := hc 4 _ rfl
          have n5 := hc 5 _ rfl
          have n6 := hc 6 _ rfl
          have n7 := hc 7 _ rfl
          have n8 := hc 8 _ rfl
          rw [Nat.add_zero] at n0
          have hgb : g ∈ blkO (some (⟨g, 0, none⟩ : Addr)) := by simp [blkO]
          have hfr9 : Fr (blkO (some (⟨g, 0, none⟩ : Addr))) B w2 (put9 w2 g (j * 9) sp99) := put9_fr hgb hg1
          have h9 := own_put9 hk2 hjm sp99
          rw [HSet.out] at h9
          have HK9 := hid h9
          have HT9 : Hid (∀ m (hm : m < kk.length), j + 1 ≤ m → FT (put9 w2 g (j * 9) sp99) B kk[m]) := fun m hm h => (ht2 m hm h).fr hfr9 fun b hb hb2 => HKD.out b hb2 _ (List.getElem_mem hm) hb
          have HF9 := hid (hf2.trans (hfr9.sub HBl.out.2.1))
          clear q0 q1 q2 q3 q4 q5 q6 q7 q8 m0 m1 m2 m3 m4 m5 m6 m7 m8 fx
          obtain ⟨q0, q1, q2, q3, q4, q5, q6, q7, q8⟩ := (HX.out w2 hf2).nine'
          have fx := (HX.out w2 hf2).frz
          clear hc hfr hk2 ht2 hf2 hfr9 h9 HK HT HF HCall HKd HKk HBj HKD HSet
          go_wp2_with fail
          exact ⟨⟨j + 1, by omega, by go_num, HK9, HT9, HF9⟩, by simp [intOf]; omega⟩
        · obtain rfl : j = kk.length := by omega
          go_wp2_with fail
          have hres : Tryz.f9.results = #[] := by kernel_rfl
          refine bodyPost_end (v := .tuple #[]) ?_ rfl ⟨rfl, F1.out.trans HF.out⟩
          simp only [results, hres]
          go_simp
end Go.Proofs.YthgnibphhiaecaaGreat

/-
  Stamps: what law.stamp leaves. (Written by mkspl.py.)
-/
namespace Go.Proofs.YthgnibphhiaecaaGreat
open Go.ChangeShapes Go.WideShapes Go.ChangeAt Go.RowKit Cu Vl
attribute [local go_sem] run_store_float

def num (n : Int) : Nat → Int
  | 0 => n
  | i + 1 => wrap64 (num n i + 1)
theorem num_in {n : Int} (h : In64 n) : ∀ i, In64 (num n i)
  | 0 => h
  | _ + 1 => in64_wrapQ _
def stv (n : Int) (i : Nat) : V := ⟨1, num n i, 0, ⟨#[]⟩⟩
def stl (n : Int) (l : List V) (i : Nat) : List V := (List.range i).map (stv n) ++ l.drop i
theorem stl_len (n : Int) (l : List V) {i : Nat} (h : i ≤ l.length) : (stl n l i).length = l.length := by simp [stl]; omega
theorem stl_set (n : Int) (l : List V) {i : Nat} (h : i < l.length) : (stl n l i).set i (stv n i) = stl n l (i + 1) := by
  unfold stl
  rw [List.set_append_right _ _ (by simp), List.length_map, List.length_range, Nat.sub_self, List.drop_eq_getElem_cons h, List.set_cons_zero, List.range_succ, List.map_append, List.append_assoc]
  rfl
mutual
/-- Stamped from n on, up to m. -/
def StOk : T → Int → Int → Prop
  | .mk h _ _ _ _ ks, n, m => (∀ i x, h.l[i]? = some x → x.I = num n i) ∧ StL ks (num n h.l.length) m
def StL : List T → Int → Int → Prop
  | [], n, m => n = m
  | k :: r, n, m => k.h.op = n ∧ ∃ m1, StOk k (wrap64 (n + 1)) m1 ∧ StL r m1 m
end
theorem StOk_iff {t : T} {n m : Int} : StOk t n m ↔ (∀ i x, t.h.l[i]? = some x → x.I = num n i) ∧ StL t.ks (num n t.h.l.length) m := by
  cases t
  rw [StOk]
  rfl
theorem StL_snoc {us : List T} {n m m' : Int} {u : T} (h : StL us n m) (ho : u.h.op = m) (hu : StOk u (wrap64 (m + 1)) m') : StL (us ++ [u]) n m' := by
  induction us generalizing n with
  | nil =>
    rw [StL] at h
    subst h
    rw [List.nil_append, StL]
    exact ⟨ho, m', hu, by rw [StL]⟩
  | cons k r ih =>
    rw [StL] at h
    obtain ⟨h1, m1, h2, h3⟩ := h
    rw [List.cons_append, StL]
    exact ⟨h1, m1, h2, ih h3⟩
theorem blkL_same : ∀ {us ks : List T}, us.map T.blk = ks.map T.blk → blkL us = blkL ks
  | [], [], _ => rfl
  | [], _ :: _, h => by simp at h
  | _ :: _, [], h => by simp at h
  | u :: us, k :: ks, h => by
    simp only [List.map_cons, List.cons.injEq] at h
    rw [blkL, blkL, h.1, blkL_same h.2]
theorem OwnL.congr {β : Type} {f : β → List Value} {k : Nat} {w : World} {B : Nat} {e : TypeId} {v : Value} {l l' : List β} (h : OwnL f k w B e v l) (he : l.map f = l'.map f) : OwnL f k w B e v l' := by
  have h1 : l.length = l'.length := by have := congrArg List.length he; simpa using this
  have h2 : l.flatMap f = l'.flatMap f := by rw [List.flatMap_def, List.flatMap_def, he]
  unfold OwnL at h ⊢
  rwa [h1, h2] at h
theorem tc_op {t : T} : (tc t)[2]? = some (.int .i64 t.h.op) := rfl
theorem tc_len_eq {h : Hd} {l : List V} {la : Option Addr} {lc : Nat} {kb : Option Addr} {kc : Nat} {ks us : List T} (hl : l.length = h.l.length) (hu : us.length = ks.length) : tc (T.mk ⟨h.K, h.c, h.op, h.v, l⟩ la lc kb kc us) = tc (T.mk h la lc kb kc ks) := by
  simp only [tc, ta, T.pr, T.h, T.la, T.lc, T.kb, T.kc, T.ks, prH, pa, hl, hu]
theorem FT.setO {w : World} {B : Nat} {t : T} (h : FT w B t) {o : Int} (ho : In64 o) : FT w B (t.setO o) := by
  refine ⟨?_, by rw [blk_setO]; exact h.2⟩
  have hn := NT_iff.1 h.1
  exact NT_iff.2 ⟨⟨⟨hn.1.1.K, ho, hn.1.1.c, hn.1.1.v, hn.1.1.l, hn.1.1.n⟩, hn.1.2⟩, hn.2.1, hn.2.2.1, hn.2.2.2⟩
end Go.Proofs.YthgnibphhiaecaaGreat

/-
  law.stamp: each value of a list and each predicate gets a number of its own. (Written by mkspl.py.)
-/
namespace Go.Proofs.YthgnibphhiaecaaGreat
open Go.ChangeShapes Go.WideShapes Go.ChangeAt Go.RowKit Cu Vl
attribute [local go_sem] run_store_float

def StpOk (t : T) : Prop := ∀ (n : Int) (w : World) (B : Nat), In64 n → FT w B t → B ≤ w.heap.size → Calls Tryz.prog 11 #[tv t, .int .i64 n] w fun r w' => ∃ u m, r = .returned (.int .i64 m) ∧ In64 m ∧ tc u = tc t ∧ u.blk = t.blk ∧ FT w' B u ∧ StOk u n m ∧ Fr t.blk B w w'
set_option maxRecDepth 8000 in
set_option maxHeartbeats 16000000 in
theorem stamp_all : ∀ t : T, ∀ o, StpOk (t.setO o) := by
  refine T.ind (P := fun t => ∀ o, StpOk (t.setO o)) fun t ih => ?_
  intro o
  have ih' : ∀ k ∈ (t.setO o).ks, ∀ o, StpOk (k.setO o) := ih
  clear ih
  revert ih'
  generalize t.setO o = t
  intro ih
  intro n w B hni hft hB
  have b1 := below_new w (.cells (ta t) 29)
  have x1 := Bx.new w (ta t) 29
  obtain ⟨w1, hw1⟩ : ∃ w1, w.alloc (.cells (ta t) 29) = w1 := ⟨_, rfl⟩
  rw [hw1] at b1 x1
  have hn1 := NT_iff.1 (NT.later b1 hft.1)
  have HD := hid (Dis.of hft.2)
  have HNd0 := hft.2
  have HLt : Hid (∀ b ∈ t.blk, b < w.heap.size) := fun b hb => (NT.lt t hft.1 b hb).2
  have F1 : Hid (Fr t.blk B w w1) := Fr.new b1 hB
  have HX : Hid (∀ W, Fr t.blk B w1 W → Bx W w.heap.size (ta t) 29) := fun W h => (h.same _ x1.lt (fun hm => by have := HLt.out _ hm; omega)).trans x1
  have HBl : Hid ((∀ b ∈ blkO t.la, b ∈ t.blk) ∧ (∀ b ∈ blkO t.kb, b ∈ t.blk) ∧ ∀ k ∈ t.ks, ∀ b ∈ k.blk, b ∈ t.blk) := by
    show _ ∧ _
    rw [blk_eq]
    exact ⟨fun b hb => List.mem_append_left _ hb, fun b hb => List.mem_append_right _ (List.mem_append_left _ hb), fun k hk b hb => List.mem_append_right _ (List.mem_append_right _ (blkL_mem.2 ⟨k, hk, hb⟩))⟩
  have HV0 : Hid (OwnL vc 4 w1 B 25 (.slice t.la t.h.l.length t.lc) t.h.l) := hn1.2.1
  have HK0 : Hid (OwnL tc 9 w1 B 29 (.slice t.kb t.ks.length t.kc) t.ks) := hn1.2.2.1
  have HT0 : Hid (∀ k ∈ t.ks, FT w1 B k) := fun k hk => ⟨hn1.2.2.2 k hk, HD.out.kn k hk⟩
  have HN := hid hn1.1
  have hvn : t.h.l.length ≤ 140737488355328 := by have := hn1.1.1.n; omega
  have hkn : t.ks.length ≤ 140737488355328 := by have := hn1.1.2; omega
  have HI := hid ih
  have F2 : Hid (Fr t.blk B w1 w1) := Fr.refl _ _ _
  obtain ⟨p0, p1, p2, p3, p4, p5, p6, p7, p8⟩ := Bx.prd x1
  have fx := Bx.frz x1
  clear b1 x1 hn1 hft hB ih
  have HND : Hid ((blkO t.la).Nodup ∧ t.blk.Nodup) := And.intro (by have := HNd0; rw [blk_eq] at this; exact (List.nodup_append.1 this).1) HNd0
  obtain ⟨t0, ht0⟩ : ∃ x, t = x := ⟨_, rfl⟩
  have HT00 := hid ht0
  clear ht0
  have HBE : Hid (t.blk = blkO t.la ++ (blkO t.kb ++ blkL t.ks)) := blk_eq t
  generalize hbl : t.blk = bl at *
  obtain ⟨⟨K, c, op, ⟨vK, vI, vb, vs⟩, l⟩, la, lc, kb, kc, kk⟩ := t
  dsimp only [T.h, T.la, T.lc, T.kb, T.kc, T.ks, tv, ta, T.pr, pv, pa, prH] at *
  have HNI := hid hni
  clear hni HNd0 hbl
  go_enter Tryz.func11, Tryz.ntmps11
  go_wp2_with fail
  clear hw1 p0 p1 p2 p3 p4 p5 p6 p7 p8 fx
  go_loopw [1, 5] (fun nx ix wr => ∃ i : Nat, i ≤ l.length ∧ ix = .int .i64 i ∧ nx = .int .i64 (num n i) ∧ Hid (OwnL vc 4 wr B 25 (.slice la l.length lc) (stl n l i)) ∧ Hid (OwnL tc 9 wr B 29 (.slice kb kk.length kc) kk) ∧ Hid (∀ k ∈ kk, FT wr B k) ∧ Hid (Fr bl B w1 wr)) (fun _ ix _ => l.length - (intOf ix).toNat)
  case atStart => exact ⟨0, Nat.zero_le _, rfl, rfl, (by show OwnL _ _ _ _ _ _ _; simpa [stl] using HV0.out), HK0, HT0, F2⟩
  case round =>
    clear HV0 HK0 HT0 F2
    obtain ⟨i, hi, rfl, rfl, HV, HK, HT, HF⟩ := hrel
    rename World => wr
    obtain ⟨q0, q1, q2, q3, q4, q5, q6, q7, q8⟩ := (HX.out wr HF.out).nine'
    have fx := (HX.out wr HF.out).frz
    by_cases hlt : i < l.length
    · have hii : (i : Int) < (l.length : Int) := by omega
      have hil : i < (stl n l i).length := by rw [stl_len n l hi]; exact hlt
      have HSet := hid (stl_set n l hlt)
      obtain ⟨g, rfl, hg1, hg2, -⟩ := own_some vc_len HV.out (by omega)
      have hz := own_frz HV.out
      have hc := own_cells vc_len HV.out hil
      generalize (stl n l i)[i] = y at hc
      obtain ⟨yK, yI, yb, ys⟩ := y
      have k0 := hc 0 _ rfl
      have k1 := hc 1 _ rfl
      have k2 := hc 2 _ rfl
      have k3 := hc 3 _ rfl
      rw [Nat.add_zero] at k0
      have hgb : g ∈ blkO (some (⟨g, 0, none⟩ : Addr)) := by simp [blkO]
      have hfr : Fr (blkO (some (⟨g, 0, none⟩ : Addr))) B wr (put4 wr g (i * 4) (stv n i)) := put4_fr hgb hg1
      have hv2 := own_put4 HV.out hil (stv n i)
      rw [HSet.out] at hv2
      have HV2 := hid hv2
      have HK2 := hid (HK.out.fr hfr fun b hb hb2 => HD.out.lk b hb2 hb)
      have HT2 : Hid (∀ k ∈ kk, FT (put4 wr g (i * 4) (stv n i)) B k) := fun k hk => (HT.out k hk).fr hfr fun b hb hb2 => HD.out.lt b hb2 k hk hb
      have HF2 := hid (HF.out.trans (hfr.sub HBl.out.1))
      have hnx : num n (i + 1) = wrap64 (num n i + 1) := rfl
      unfold stv at HV2 HK2 HT2 HF2
      generalize num n i = ni at *
      clear hc hfr HV HK HT HF hv2 HSet
      go_wp2_with fail
      exact ⟨⟨i + 1, by omega, by go_num, by rw [hnx], HV2, HK2, HT2, HF2⟩, by simp [intOf]; omega⟩
    · obtain rfl : i = l.length := by omega
      have hv3 : OwnL vc 4 wr B 25 (.slice la l.length lc) ((List.range l.length).map (stv n)) := by
        have h := HV.out
        unfold stl at h
        rwa [List.drop_length, List.append_nil] at h
      have HV3 := hid hv3
      have HT0 : Hid (∀ m (hm : m < kk.length), 0 ≤ m → FT wr B kk[m]) := fun m hm _ => HT.out _ (List.getElem_mem hm)
      have HN0 : Hid (In64 (num n l.length)) := num_in HNI.out _
      obtain ⟨n0, hn0⟩ : ∃ x, num n l.length = x := ⟨_, rfl⟩
      rw [hn0] at HN0 ⊢
      have HN00 := hid hn0
      clear HV HT hv3 hn0
      go_wp2_with fail
      clear q0 q1 q2 q3 q4 q5 q6 q7 q8 fx
      go_loopw [1, 6] (fun nx ix ws => ∃ j : Nat, j ≤ kk.length ∧ ix = .int .i64 j ∧ ∃ (us : List T) (m : Int), nx = .int .i64 m ∧ us.length = j ∧ Hid (In64 m) ∧ Hid (StL us n0 m) ∧ Hid (us.map T.blk = (kk.take j).map T.blk) ∧ Hid (∀ u ∈ us, FT ws B u) ∧ Hid (OwnL vc 4 ws B 25 (.slice la l.length lc) ((List.range l.length).map (stv n))) ∧ Hid (OwnL tc 9 ws B 29 (.slice kb kk.length kc) (us ++ kk.drop j)) ∧ Hid (∀ m (hm : m < kk.length), j ≤ m → FT ws B kk[m]) ∧ Hid (Fr bl B w1 ws)) (fun _ ix _ => kk.length - (intOf ix).toNat)
      case atStart => exact ⟨0, Nat.zero_le _, rfl, [], n0, rfl, rfl, HN0, (by show StL _ _ _; rw [StL]), (by show _ = _; simp), (fun u hu => by cases hu), HV3, (by show OwnL _ _ _ _ _ _ _; simpa using HK.out), HT0, HF⟩
      case round =>
        clear HK HT0 HF HV3 HN0
        obtain ⟨j, hj, rfl, us, m, rfl, hul, HNm, HS, HB, HU, HV, HK, HT, HF⟩ := hrel
        rename World => ws
        obtain ⟨q0, q1, q2, q3, q4, q5, q6, q7, q8⟩ := (HX.out ws HF.out).nine'
        have fx := (HX.out ws HF.out).frz
        by_cases hlt : j < kk.length
        · have hjj : (j : Int) < (kk.length : Int) := by omega
          have hjm : j < (us ++ kk.drop j).length := by simp; omega
          obtain ⟨g, rfl, hg1, hg2, -⟩ := own_some tc_len HK.out (by omega)
          have hget : (us ++ kk.drop j)[j]'hjm = kk[j] := by
            rw [List.getElem_append_right (by omega)]
            simp [hul]
          have hget? : (us ++ kk.drop j)[j]? = some kk[j] := by rw [List.getElem?_eq_getElem hjm, hget]
          have hset : ∀ x, (us ++ kk.drop j).set j x = us ++ x :: kk.drop (j + 1) := fun x => by
            rw [List.set_append_right _ _ (by omega), hul, Nat.sub_self, List.drop_eq_getElem_cons hlt, List.set_cons_zero]
          have HSt := hid hset
          have hc := own_cells tc_len HK.out hjm
          rw [hget] at hc
          have hz := own_frz HK.out
          have HFj := hid (HT.out j hlt (Nat.le_refl _))
          have HIj := hid (HI.out _ (List.getElem_mem hlt))
          have hkd : ∀ b ∈ blkO (some (⟨g, 0, none⟩ : Addr)), ∀ k ∈ kk, b ∉ k.blk := HD.out.kt
          have HKd := hid (fun b hb => hkd b hb kk[j] (List.getElem_mem hlt))
          have HKk := hid (fun m (hm : m < kk.length) (hne : m ≠ j) => HD.out.kk m j hm hlt hne)
          have HLt2 := hid (fun b hb => HD.out.lt b hb kk[j] (List.getElem_mem hlt))
          have HBj := hid (HBl.out.2.2 _ (List.getElem_mem hlt))
          have HKD := hid hkd
          have HTk : Hid ((kk.take (j + 1)).map T.blk = (kk.take j).map T.blk ++ [kk[j].blk]) := by
            show _ = _
            rw [List.take_add_one, List.getElem?_eq_getElem hlt, Option.toList_some, List.map_append]
            rfl
          -- an earlier one is one of us
          have HUd : Hid (∀ u ∈ us, ∃ i, ∃ hi : i < kk.length, i ≠ j ∧ u.blk = kk[i].blk) := fun u hu => by
            obtain ⟨i, hi, rfl⟩ := List.getElem_of_mem hu
            have h := congrArg (fun l => l[i]?) HB.out
            simp only [List.getElem?_map, List.getElem?_eq_getElem hi, Option.map_some] at h
            rw [List.getElem?_take, if_pos (by omega), List.getElem?_eq_getElem (by omega)] at h
            exact ⟨i, by omega, by omega, by simpa using h⟩
          have hgb : g ∈ blkO (some (⟨g, 0, none⟩ : Addr)) := by simp [blkO]
          -- the Op is written
          obtain ⟨kt, hkt⟩ : ∃ x, kk[j] = x := ⟨_, rfl⟩
          have htc : tc (kt.setO m) = (tc kt).set 2 (.int .i64 m) := by cases kt; rfl
          rw [hkt] at hget? hc HFj HIj HKd HKk HLt2 HBj HTk
          obtain ⟨g9, c9', e9, -, -, -, hz9, ho9⟩ := OwnL.at tc_len HK.out hget? (by decide : 2 < 9) (.int .i64 m) (kt.setO m) htc
          simp only [Value.slice.injEq, Option.some.injEq, Addr.mk.injEq, and_true] at e9
          obtain ⟨rfl, -, -⟩ := e9
          rw [hset] at ho9
          have hfr2 : Fr (blkO (some (⟨g, 0, none⟩ : Addr))) B ws (ws.setCell ⟨g, j * 9 + 2, none⟩ (.int .i64 m)) := Fr.set ws _ _ hgb hg1
          obtain ⟨z1, hz1⟩ : ∃ z, ws.setCell ⟨g, j * 9 + 2, none⟩ (.int .i64 m) = z := ⟨_, rfl⟩
          rw [hz1] at ho9 hfr2
          have HK1 := hid ho9
          have HV1 := hid (HV.out.fr hfr2 fun b hb hb2 => HD.out.lk b hb hb2)
          have HT1 : Hid (∀ m (hm : m < kk.length), j ≤ m → FT z1 B kk[m]) := fun m hm h => (HT.out m hm h).fr hfr2 fun b hb hb2 => hkd b hb2 _ (List.getElem_mem hm) hb
          have HU1 : Hid (∀ u ∈ us, FT z1 B u) := fun u hu => (HU.out u hu).fr hfr2 fun b hb hb2 => by
            obtain ⟨i, hi, -, e⟩ := HUd.out u hu
            rw [e] at hb
            exact hkd b hb2 _ (List.getElem_mem hi) hb
          have hf1 := HF.out.trans (hfr2.sub HBl.out.2.1)
          have HF1 := hid hf1
          have hft1 : FT z1 B (kt.setO m) := (FT.fr HFj.out hfr2 fun b hb hb2 => HKd.out b hb2 hb).setO HNm.out
          have HCall := hid (HIj.out m (wrap64 (m + 1)) z1 B (in64_wrapQ _) hft1 (by have := hfr2.below.size; omega))
          have hc2 := own_cells tc_len HK1.out (j := j) (by simp; omega)
          rw [List.getElem_append_right (by omega)] at hc2
          simp only [hul, Nat.sub_self, List.getElem_cons_zero] at hc2
          have m02 := hc 2 _ tc_op
          obtain ⟨r0, r1, r2, r3, r4, r5, r6, r7, r8⟩ := (HX.out z1 hf1).nine'
          have fx1 := (HX.out z1 hf1).frz
          have HTO : Hid (tv (kt.setO m) = .agg (ta (kt.setO m))) := rfl
          obtain ⟨to, hto⟩ : ∃ x, kt.setO m = x := ⟨_, rfl⟩
          have htb : to.blk = kt.blk := by rw [← hto, blk_setO]
          have hop : to.h.op = m := by rw [← hto]; rfl
          rw [hto] at hc2 HCall HTO HK1
          have HTB := hid htb
          have HOP := hid hop
          clear hc htc hget hget? hset hfr2 hf1 hft1 ho9 HK HV HT HU HF HFj HIj hkd hto htb hop HI
          obtain ⟨t9, ht9⟩ : ∃ x, to = x := ⟨_, rfl⟩
          rw [ht9] at HTB HOP HK1
          have HT9 := hid ht9
          have q0' := hc2 0
          have q1' := hc2 1
          have q2' := hc2 2
          have q3' := hc2 3
          have q4' := hc2 4
          have q5' := hc2 5
          have q6' := hc2 6
          have q7' := hc2 7
          have q8' := hc2 8
          clear hc2
          obtain ⟨⟨kK, kcc, kop, ⟨kvK, kvI, kvb, kvs⟩, kl⟩, kla, klc, kkb, kkc, kks⟩ := to
          replace q0' := q0' _ rfl
          replace q1' := q1' _ rfl
          replace q2' := q2' _ rfl
          replace q3' := q3' _ rfl
          replace q4' := q4' _ rfl
          replace q5' := q5' _ rfl
          replace q6' := q6' _ rfl
          replace q7' := q7' _ rfl
          replace q8' := q8' _ rfl
          rw [Nat.add_zero] at q0'
          unfold StpOk at *
          rw [show tc (T.mk ⟨kK, kcc, kop, ⟨kvK, kvI, kvb, kvs⟩, kl⟩ kla klc kkb kkc kks) = tc t9 by rw [ht9], show (T.mk ⟨kK, kcc, kop, ⟨kvK, kvI, kvb, kvs⟩, kl⟩ kla klc kkb kkc kks).blk = t9.blk by rw [ht9]] at HCall
          dsimp only [T.h, T.la, T.lc, T.kb, T.kc, T.ks, tv, T.pr, pv, pa, prH] at HCall
          clear ht9 HTO
          go_wp2_with fail
          refine HCall.out.mono ?_
          rintro e w2 ⟨u, m', rfl, hm64, htcu, hbu, hfu, hst, hfr⟩
          have hfr' := hfr
          rw [HTB.out] at hfr'
          have HKd2 := HKd.out
          have hk2 := (HK1.out.fr hfr' fun b hb hb2 => HKd2 b hb hb2).congr (l' := (us ++ [u]) ++ kk.drop (j + 1)) (by simp [htcu])
          have HK2 := hid hk2
          have HV2 := hid (HV1.out.fr hfr' fun b hb hb2 => HLt2.out b hb hb2)
          have HT2 : Hid (∀ m (hm : m < kk.length), j + 1 ≤ m → FT w2 B kk[m]) := fun m hm h => (HT1.out m hm (by omega)).fr hfr' fun b hb => HKk.out m hm (by omega) b hb
          have HU2 : Hid (∀ x ∈ us ++ [u], FT w2 B x) := fun x hx => by
            rcases List.mem_append.1 hx with hx | hx
            · obtain ⟨i, hi, hne, e⟩ := HUd.out x hx
              exact (HU1.out x hx).fr hfr' fun b hb => by
                rw [e] at hb
                exact HKk.out i hi hne b hb
            · rw [List.mem_singleton] at hx
              subst hx
              exact hfu
          have HB2 : Hid ((us ++ [u]).map T.blk = (kk.take (j + 1)).map T.blk) := by
            show _ = _
            rw [HTk.out, List.map_append, HB.out, List.map_singleton, hbu, HTB.out]
          have hou : u.h.op = m := by
            have := congrArg (fun x => x[2]?) htcu
            simp only [tc_op, Option.some.injEq, Value.int.injEq, true_and] at this
            rw [this]; exact HOP.out
          have HS2 := hid (StL_snoc HS.out hou hst)
          have HF2 := hid (HF1.out.trans (hfr'.sub HBj.out))
          have HNm2 := hid hm64
          have hul2 : (us ++ [u]).length = j + 1 := by simp [hul]
          clear hfr hfr' hk2 hfu hst htcu hbu hou hm64 HKd2 HK1 HV1 HT1 HU1 HF1 HCall HUd HB HS HTk HSt
          go_wp2_with fail
          exact ⟨⟨j + 1, by omega, by go_num, us ++ [u], m', rfl, hul2, HNm2, HS2, HB2, HU2, HV2, HK2, HT2, HF2⟩, by simp [intOf]; omega⟩
        · obtain rfl : j = kk.length := by omega
          rw [List.take_length] at HB
          rw [List.drop_length, List.append_nil] at HK
          have HEND : Hid (∃ u : T, tc u = tc t0 ∧ u.blk = bl ∧ FT ws B u ∧ StOk u n m) := by
            have e1 : ((List.range l.length).map (stv n)).length = l.length := by simp
            have hbb : blkL us = blkL kk := blkL_same HB.out
            refine ⟨T.mk ⟨K, c, op, ⟨vK, vI, vb, vs⟩, (List.range l.length).map (stv n)⟩ la lc kb kc us, ?_, ?_, ⟨?_, ?_⟩, ?_⟩
            · rw [← HT00.out]
              exact tc_len_eq (h := ⟨K, c, op, ⟨vK, vI, vb, vs⟩, l⟩) e1 hul
            · rw [blk_eq]
              show blkO la ++ (blkO kb ++ blkL us) = bl
              rw [hbb, ← HBE.out]
            · have hh := HN.out
              refine NT_iff.2 ⟨⟨⟨hh.1.K, hh.1.op, hh.1.c, hh.1.v, ?_, ?_⟩, ?_⟩, ?_, ?_, fun u hu => (HU.out u hu).1⟩
              · intro x hx
                obtain ⟨i, -, rfl⟩ := List.mem_map.1 hx
                exact ⟨(⟨by decide, by decide⟩ : In64 1), num_in HNI.out i, (by show (0 : Nat) < 18446744073709551616; decide), (by show (⟨#[]⟩ : ByteArray).size ≤ 281474976710656; decide)⟩
              · show ((List.range l.length).map (stv n)).length * 40 ≤ _
                rw [e1]; exact hh.1.n
              · show us.length * 120 ≤ _
                rw [hul]; exact hh.2
              · show OwnL _ _ _ _ _ (.slice la ((List.range l.length).map (stv n)).length lc) _
                rw [e1]; exact HV.out
              · show OwnL _ _ _ _ _ (.slice kb us.length kc) _
                rw [hul]; exact HK.out
            · rw [blk_eq]
              show (blkO la ++ (blkO kb ++ blkL us)).Nodup
              rw [hbb, ← HBE.out]
              exact HND.out.2
            · refine StOk_iff.2 ⟨fun i x hx => ?_, ?_⟩
              · have hx : ((List.range l.length).map (stv n))[i]? = some x := hx
                rw [List.getElem?_map] at hx
                by_cases hil : i < l.length
                · rw [List.getElem?_range hil] at hx
                  simp only [Option.map_some, Option.some.injEq] at hx
                  subst hx; rfl
                · rw [List.getElem?_eq_none (by simpa using hil)] at hx
                  cases hx
              · show StL us (num n ((List.range l.length).map (stv n)).length) m
                rw [e1, HN00.out]; exact HS.out
          have HTF := hid HT00.out
          clear HS HB HU HV HK HT
          go_wp2_with fail
          go_ret
          obtain ⟨u, h1, h2, h3, h4⟩ := HEND.out
          exact ⟨u, m, rfl, HNm.out, h1.trans (by rw [HTF.out]), h2, h3, h4, F1.out.trans HF.out⟩
theorem stamp_any (t : T) : StpOk t := by
  have h := stamp_all t t.h.op
  have e : t.setO t.h.op = t := by cases t; rfl
  rwa [e] at h
end Go.Proofs.YthgnibphhiaecaaGreat

/-
  law.stamped: what was stamped still has its numbers. (Written by mkspl.py.)
-/
namespace Go.Proofs.YthgnibphhiaecaaGreat
open Go.ChangeShapes Go.WideShapes Go.ChangeAt Go.RowKit Cu Vl
attribute [local go_sem] run_store_float

theorem results_tmp2S {fn : Func} {t u : Tmp} (h : fn.results = #[.tmp t, .tmp u]) (tmps : Array Value) (P : Program) (w : World) :
    (results fn tmps).run P w = .ok (.tuple #[tmps.getD t undef, tmps.getD u undef]) w := by
  simp [results, h]
def StdOk (t : T) : Prop := ∀ (n m : Int) (w : World), MT w w.heap.size t → StOk t n m → Calls Tryz.prog 12 #[tv t, .int .i64 n] w fun r w' => r = .returned (.tuple #[.int .i64 m, .bool true]) ∧ Below w.heap.size w w'
set_option maxRecDepth 8000 in
set_option maxHeartbeats 16000000 in
theorem stamped_any : ∀ t, StdOk t := by
  refine T.ind fun t ih => ?_
  intro n m w hm hs
  have hres : Tryz.f12.results = #[.tmp 4, .tmp 5] := by kernel_rfl
  have HRES := hid hres
  clear hres
  rw [MT_iff] at hm
  obtain ⟨hH, hV, hKs, hKb, hkm⟩ := hm
  obtain ⟨hs1, hs2⟩ := StOk_iff.1 hs
  have b1 := below_new w (.cells (ta t) 29)
  have x1 := Bx.new w (ta t) 29
  obtain ⟨w1, hw1⟩ : ∃ w1, w.alloc (.cells (ta t) 29) = w1 := ⟨_, rfl⟩
  rw [hw1] at b1 x1
  have TX := hid fun (W : World) (h : Below w1.heap.size w1 W) => (x1.later h).nine'
  have TV := hid fun (W : World) (h : Below w1.heap.size w1 W) => hV.1.later (below_up b1 h)
  have TK := hid fun (W : World) (h : Below w1.heap.size w1 W) => hKb.1.later (below_up b1 h)
  have TM := hid fun (W : World) (h : Below w1.heap.size w1 W) k (hk : k ∈ t.ks) => (hkm k hk).on (below_up b1 h)
  have HS1 := hid hs1
  have HS2 := hid hs2
  have HI := hid ih
  have HB1 := hid b1
  have B1 : Hid (Below w1.heap.size w1 w1) := Below.refl _ _
  have hvn : t.h.l.length ≤ 140737488355328 := by have := hH.n; omega
  have hkn : t.ks.length ≤ 140737488355328 := by have := hKs.n; omega
  obtain ⟨p0, p1, p2, p3, p4, p5, p6, p7, p8⟩ := Bx.prd x1
  clear b1 x1 hH hV hKs hKb hkm hs1 hs2 hs ih
  obtain ⟨⟨K, c, op, ⟨vK, vI, vb, vs⟩, l⟩, la, lc, kb, kc, kk⟩ := t
  dsimp only [T.h, T.la, T.lc, T.kb, T.kc, T.ks, tv, ta, T.pr, pv, pa, prH] at *
  go_enter Tryz.func12, Tryz.ntmps12
  go_wp2_with fail
  clear hw1 p0 p1 p2 p3 p4 p5 p6 p7 p8
  go_loopw [1, 6, 7] (fun nx rx ix wr => ∃ i : Nat, i ≤ l.length ∧ ix = .int .i64 i ∧ nx = .int .i64 (num n i) ∧ rx = .bool true ∧ Hid (Below w1.heap.size w1 wr)) (fun _ _ ix _ => l.length - (intOf ix).toNat)
  case atStart => exact ⟨0, Nat.zero_le _, rfl, rfl, rfl, B1⟩
  case round =>
    clear B1
    obtain ⟨i, hi, rfl, rfl, rfl, HB⟩ := hrel
    rename World => wr
    obtain ⟨q0, q1, q2, q3, q4, q5, q6, q7, q8⟩ := TX.out wr HB.out
    by_cases hlt : i < l.length
    · have hii : (i : Int) < (l.length : Int) := by omega
      obtain ⟨g, o, rfl, hg, k0, k1, k2, k3⟩ := (TV.out wr HB.out).cell4 hlt
      have hI := HS1.out i l[i] (List.getElem?_eq_getElem hlt)
      rw [hI] at k1
      have hnx : num n (i + 1) = wrap64 (num n i + 1) := rfl
      generalize num n i = ni at *
      have hee : (ni == ni) = true := by simp
      clear hI k0 k2 k3
      go_wp2_with fail
      exact ⟨⟨i + 1, by omega, by go_num, by rw [hnx], rfl, HB⟩, by simp [intOf]; omega⟩
    · obtain rfl : i = l.length := by omega
      obtain ⟨n0, hn0⟩ : ∃ x, num n l.length = x := ⟨_, rfl⟩
      rw [hn0] at HS2 ⊢
      have HS0 : Hid (StL (kk.drop 0) n0 m) := by show StL _ _ _; simpa using HS2.out
      clear hn0 HS2
      go_wp2_with fail
      clear q0 q1 q2 q3 q4 q5 q6 q7 q8
      go_loopw [1, 6, 8] (fun nx rx ix ws => ∃ j : Nat, j ≤ kk.length ∧ ix = .int .i64 j ∧ ∃ mj : Int, nx = .int .i64 mj ∧ rx = .bool true ∧ Hid (StL (kk.drop j) mj m) ∧ Hid (Below w1.heap.size w1 ws)) (fun _ _ ix _ => kk.length - (intOf ix).toNat)
      case atStart => exact ⟨0, Nat.zero_le _, rfl, n0, rfl, rfl, HS0, HB⟩
      case round =>
        clear HS0 HB
        obtain ⟨j, hj, rfl, mj, rfl, rfl, HS, HB⟩ := hrel
        rename World => ws
        obtain ⟨q0, q1, q2, q3, q4, q5, q6, q7, q8⟩ := TX.out ws HB.out
        by_cases hlt : j < kk.length
        · have hjj : (j : Int) < (kk.length : Int) := by omega
          have hs := HS.out
          rw [List.drop_eq_getElem_cons hlt, StL] at hs
          obtain ⟨hop, m1, hok, hrest⟩ := hs
          obtain ⟨g, o, rfl, hg, hc⟩ := (TK.out ws HB.out) j kk[j] (List.getElem?_eq_getElem hlt)
          have HCall := hid (HI.out _ (List.getElem_mem hlt) (wrap64 (mj + 1)) m1 ws (TM.out ws HB.out _ (List.getElem_mem hlt)) hok)
          have HRest := hid hrest
          clear hok hrest HS
          generalize kk[j] = kt at *
          obtain ⟨⟨kK, kcc, kop, ⟨kvK, kvI, kvb, kvs⟩, kl⟩, kla, klc, kkb, kkc, kks⟩ := kt
          have k0 := hc 0 _ rfl
          have k1 := hc 1 _ rfl
          have k2 := hc 2 _ rfl
          have k3 := hc 3 _ rfl
          have k4 := hc 4 _ rfl
          have k5 := hc 5 _ rfl
          have k6 := hc 6 _ rfl
          have k7 := hc 7 _ rfl
          have k8 := hc 8 _ rfl
          rw [Nat.add_zero] at k0
          dsimp only [T.h, T.la, T.lc, T.kb, T.kc, T.ks, tv, T.pr, pv, pa, prH] at hop HCall
          subst hop
          have hee : (kop == kop) = true := by simp
          clear hc hg
          go_wp2_with fail
          refine HCall.out.mono ?_
          rintro e w2 ⟨rfl, hb⟩
          have HB2 := hid (below_up HB.out hb)
          clear HCall hb HB q0 q1 q2 q3 q4 q5 q6 q7 q8 k0 k1 k2 k3 k4 k5 k6 k7 k8
          go_wp2_with fail
          exact ⟨⟨j + 1, by omega, by go_num, m1, rfl, rfl, HRest, HB2⟩, by simp [intOf]; omega⟩
        · obtain rfl : j = kk.length := by omega
          have hs := HS.out
          rw [List.drop_length, StL] at hs
          subst hs
          have HE := hid (below_up HB1.out HB.out)
          clear HS
          go_wp2_with fail
          (try simp only [Exit.inBlock, Exit.then])
          refine bodyPost_ret (results_tmp2S HRES.out _ _ _) rfl ?_
          exact ⟨rfl, HE.out⟩
end Go.Proofs.YthgnibphhiaecaaGreat
