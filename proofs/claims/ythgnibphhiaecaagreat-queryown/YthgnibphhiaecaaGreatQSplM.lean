import Derived.Test.YthgnibphhiaecaaGreatQFr
import Derived.Test.YthgnibphhiaecaaGreatQCoAll
/-
  Writes into trees of one's own: lists whose elements are written over whole; blocks that are apart.
-/
namespace Go.Proofs.YthgnibphhiaecaaGreat
open Go.ChangeShapes Go.WideShapes Go.ChangeAt Go.RowKit Cu Vl

theorem blkL_dis {ks : List T} (h : (blkL ks).Nodup) {i j : Nat} (hi : i < ks.length) (hj : j < ks.length) (hne : i ≠ j) : ∀ b ∈ ks[i].blk, b ∉ ks[j].blk := by
  induction ks generalizing i j with
  | nil => simp at hi
  | cons k r ih =>
    simp only [blkL] at h
    obtain ⟨_, h2, h3⟩ := List.nodup_append.1 h
    intro b hb hb2
    cases i with
    | zero =>
      cases j with
      | zero => exact hne rfl
      | succ j => exact h3 b hb b (blkL_mem.2 ⟨_, List.getElem_mem (by simpa using hj), hb2⟩) rfl
    | succ i =>
      cases j with
      | zero => exact h3 b hb2 b (blkL_mem.2 ⟨_, List.getElem_mem (by simpa using hi), hb⟩) rfl
      | succ j => exact ih h2 (by simpa using hi) (by simpa using hj) (by omega) b hb hb2
theorem blkL_kid {ks : List T} (h : (blkL ks).Nodup) {k : T} (hk : k ∈ ks) : k.blk.Nodup := by
  induction ks with
  | nil => cases hk
  | cons x r ih =>
    simp only [blkL] at h
    obtain ⟨h1, h2, _⟩ := List.nodup_append.1 h
    rcases List.mem_cons.1 hk with rfl | hk
    · exact h1
    · exact ih h2 hk
/-- What a tree's blocks are apart from. -/
structure Dis (la kb : Option Addr) (ks : List T) : Prop where
  lk : ∀ b ∈ blkO la, b ∉ blkO kb
  lt : ∀ b ∈ blkO la, ∀ k ∈ ks, b ∉ k.blk
  kt : ∀ b ∈ blkO kb, ∀ k ∈ ks, b ∉ k.blk
  kk : ∀ i j (hi : i < ks.length) (hj : j < ks.length), i ≠ j → ∀ b ∈ ks[i].blk, b ∉ ks[j].blk
  kn : ∀ k ∈ ks, k.blk.Nodup
theorem Dis.of {t : T} (h : t.blk.Nodup) : Dis t.la t.kb t.ks := by
  rw [blk_eq] at h
  obtain ⟨_, h2, h3⟩ := List.nodup_append.1 h
  obtain ⟨_, h5, h6⟩ := List.nodup_append.1 h2
  exact ⟨fun b hb hb2 => h3 b hb b (List.mem_append_left _ hb2) rfl, fun b hb k hk hb2 => h3 b hb b (List.mem_append_right _ (blkL_mem.2 ⟨k, hk, hb2⟩)) rfl, fun b hb k hk hb2 => h6 b hb b (blkL_mem.2 ⟨k, hk, hb2⟩) rfl, fun i j hi hj hne => blkL_dis h5 hi hj hne, fun k hk => blkL_kid h5 hk⟩
theorem own_some {β : Type} {f : β → List Value} {k : Nat} (hf : ∀ x, (f x).length = k) {w : World} {B n c : Nat} {a : Option Addr} {e : TypeId} {l : List β} (h : OwnL f k w B e (.slice a n c) l) (hn : 0 < l.length) : ∃ g, a = some ⟨g, 0, none⟩ ∧ B ≤ g ∧ g < w.heap.size ∧ n = l.length := by
  obtain ⟨a0, c0, ef, -, -, hz, -, hb⟩ := h.form hf
  simp only [Value.slice.injEq] at ef
  obtain ⟨rfl, rfl, -⟩ := ef
  cases a with
  | none => have := (hz rfl).1; omega
  | some x => exact ⟨x.block, by rw [← (hb x rfl).2.2], (hb x rfl).1, (hb x rfl).2.1, rfl⟩
theorem own_frz {β : Type} {f : β → List Value} {k : Nat} {w : World} {B g n c : Nat} {e : TypeId} {l : List β} (h : OwnL f k w B e (.slice (some ⟨g, 0, none⟩) n c) l) (j : Nat) : w.frozen? ⟨g, j, none⟩ = false := by
  rcases h.2 with ⟨hv, e⟩ | ⟨g', cap, cur, hv, hb, hg, _⟩
  · cases hv
  · cases hv
    simp [World.frozen?, hg]
theorem own_cells {β : Type} {f : β → List Value} {k : Nat} (hf : ∀ x, (f x).length = k) {w : World} {B g n c : Nat} {e : TypeId} {l : List β} (h : OwnL f k w B e (.slice (some ⟨g, 0, none⟩) n c) l) {j : Nat} (hj : j < l.length) : ∀ i u, (f l[j])[i]? = some u → w.cell? ⟨g, j * k + i, none⟩ = some u := by
  obtain ⟨a0, c0, ef, -, -, -, hl, -⟩ := h.form hf
  simp only [Value.slice.injEq] at ef
  rw [← ef.1] at hl
  obtain ⟨g', o, e2, _, hc⟩ := hl j l[j] (List.getElem?_eq_getElem hj)
  cases e2
  intro i u hu
  have := hc i u hu
  rwa [Nat.zero_add] at this
/-- A value is written over, whole. -/
def put4 (w : World) (g o : Nat) (v : V) : World := (((w.setCell ⟨g, o, none⟩ (.int .i64 v.K)).setCell ⟨g, o + 1, none⟩ (.int .i64 v.I)).setCell ⟨g, o + 2, none⟩ (.float .f64 v.b)).setCell ⟨g, o + 3, none⟩ (.string v.s)
theorem own_put4 {w : World} {B g n c : Nat} {L : List V} (h : OwnL vc 4 w B 25 (.slice (some ⟨g, 0, none⟩) n c) L) {j : Nat} (hj : j < L.length) (v : V) :
    OwnL vc 4 (put4 w g (j * 4) v) B 25 (.slice (some ⟨g, 0, none⟩) n c) (L.set j v) := by
  obtain ⟨x, hx⟩ : ∃ x, L[j]? = some x := ⟨_, List.getElem?_eq_getElem hj⟩
  have e0 : vc ⟨v.K, x.I, x.b, x.s⟩ = (vc x).set 0 (.int .i64 v.K) := rfl
  have e1 : vc ⟨v.K, v.I, x.b, x.s⟩ = (vc ⟨v.K, x.I, x.b, x.s⟩).set 1 (.int .i64 v.I) := rfl
  have e2 : vc ⟨v.K, v.I, v.b, x.s⟩ = (vc ⟨v.K, v.I, x.b, x.s⟩).set 2 (.float .f64 v.b) := rfl
  have e3 : vc ⟨v.K, v.I, v.b, v.s⟩ = (vc ⟨v.K, v.I, v.b, x.s⟩).set 3 (.string v.s) := rfl
  obtain ⟨g0, c0, q0, _, _, _, _, h1⟩ := OwnL.at vc_len h hx (by omega : 0 < 4) _ _ e0
  cases q0
  obtain ⟨g0, c0, q0, _, _, _, _, h2⟩ := OwnL.at vc_len h1 (by rw [List.getElem?_set_self hj]) (by omega : 1 < 4) _ _ e1
  simp only [Value.slice.injEq, Option.some.injEq, Addr.mk.injEq, and_true] at q0
  obtain ⟨rfl, _⟩ := q0
  rw [List.set_set] at h2
  obtain ⟨g0, c0, q0, _, _, _, _, h3⟩ := OwnL.at vc_len h2 (by rw [List.getElem?_set_self hj]) (by omega : 2 < 4) _ _ e2
  simp only [Value.slice.injEq, Option.some.injEq, Addr.mk.injEq, and_true] at q0
  obtain ⟨rfl, _⟩ := q0
  rw [List.set_set] at h3
  obtain ⟨g0, c0, q0, _, _, _, _, h4⟩ := OwnL.at vc_len h3 (by rw [List.getElem?_set_self hj]) (by omega : 3 < 4) _ _ e3
  simp only [Value.slice.injEq, Option.some.injEq, Addr.mk.injEq, and_true] at q0
  obtain ⟨rfl, _⟩ := q0
  rw [List.set_set] at h4
  exact h4
theorem put4_far {w : World} {g o b : Nat} {v : V} (h : b ≠ g) : (put4 w g o v).heap[b]? = w.heap[b]? := by
  unfold put4
  exact (Below.heap_setCell _ _ _ _ h).trans ((Below.heap_setCell _ _ _ _ h).trans ((Below.heap_setCell _ _ _ _ h).trans (Below.heap_setCell _ _ _ _ h)))
theorem put4_fr {w : World} {g o B : Nat} {v : V} {bl : List Nat} (hg : g ∈ bl) (hB : B ≤ g) : Fr bl B w (put4 w g o v) :=
  (((Fr.set w _ _ hg hB).trans (Fr.set _ _ _ hg hB)).trans (Fr.set _ _ _ hg hB)).trans (Fr.set _ _ _ hg hB)
theorem put9_fr {w : World} {g o B : Nat} {t : T} {bl : List Nat} (hg : g ∈ bl) (hB : B ≤ g) : Fr bl B w (put9 w g o t) :=
  ⟨put9_below (Below.refl B w) hB t, fun b _ hn => put9_far (by rintro rfl; exact hn hg)⟩
theorem FT.fr {w w' : World} {B : Nat} {t : T} (h : FT w B t) {bl : List Nat} (hf : Fr bl B w w') (hn : ∀ b ∈ t.blk, b ∉ bl) : FT w' B t := ⟨NT.kept t (fun b hb => hf.same b (NT.lt t h.1 b hb).2 (hn b hb)) h.1, h.2⟩
theorem OwnL.fr {β : Type} {f : β → List Value} {k : Nat} {w w' : World} {B n c : Nat} {a : Option Addr} {e : TypeId} {l : List β} (h : OwnL f k w B e (.slice a n c) l) {bl : List Nat} (hf : Fr bl B w w') (hn : ∀ b ∈ blkO a, b ∉ bl) : OwnL f k w' B e (.slice a n c) l := h.kept fun g hg => hf.same g (h.lt g hg).2 (hn g (blk_own hg))
end Go.Proofs.YthgnibphhiaecaaGreat
