import Derived.Test.YthgnibphhiaecaaGreatQStAll
import Derived.Test.YthgnibphhiaecaaGreatQNmAll
import Derived.Test.YthgnibphhiaecaaGreatQAskAll
/-
  For QueryOwn: boxes, trees that stay, cells that stay.
-/
namespace Go.Proofs.YthgnibphhiaecaaGreat
open Go.ChangeShapes Go.WideShapes Go.ChangeAt Go.RowKit Cu Vl

theorem put9s {w : World} {g : Nat} {t : TypeId} {e0 e1 e2 e3 e4 e5 e6 e7 e8 : Value} (h : Bx w g #[e0, e1, e2, e3, e4, e5, e6, e7, e8] t) (v0 v1 v2 v3 v4 v5 v6 v7 v8 : Value) (bl : List Nat) (B : Nat) (hg : g ∈ bl) (hB : B ≤ g) :
    ∃ z, ((((((((w.setCell ⟨g, 0, none⟩ v0).setCell ⟨g, 1, none⟩ v1).setCell ⟨g, 2, none⟩ v2).setCell ⟨g, 3, none⟩ v3).setCell ⟨g, 4, none⟩ v4).setCell ⟨g, 5, none⟩ v5).setCell ⟨g, 6, none⟩ v6).setCell ⟨g, 7, none⟩ v7).setCell ⟨g, 8, none⟩ v8 = z ∧ Bx z g #[v0, v1, v2, v3, v4, v5, v6, v7, v8] t ∧ Fr bl B w z := by
  have H := bx_set (i := 8) (bx_set (i := 7) (bx_set (i := 6) (bx_set (i := 5) (bx_set (i := 4) (bx_set (i := 3) (bx_set (i := 2) (bx_set (i := 1) (bx_set (i := 0) h v0) v1) v2) v3) v4) v5) v6) v7) v8
  simp only [List.setIfInBounds_toArray, List.set_cons_zero, List.set_cons_succ] at H
  exact ⟨_, rfl, H, ((((((((Fr.set w 0 v0 hg hB).trans (Fr.set _ 1 v1 hg hB)).trans (Fr.set _ 2 v2 hg hB)).trans (Fr.set _ 3 v3 hg hB)).trans (Fr.set _ 4 v4 hg hB)).trans (Fr.set _ 5 v5 hg hB)).trans (Fr.set _ 6 v6 hg hB)).trans (Fr.set _ 7 v7 hg hB)).trans (Fr.set _ 8 v8 hg hB)⟩
theorem put13s {w : World} {g : Nat} {t : TypeId} {e0 e1 e2 e3 e4 e5 e6 e7 e8 e9 e10 e11 e12 : Value} (h : Bx w g #[e0, e1, e2, e3, e4, e5, e6, e7, e8, e9, e10, e11, e12] t) (v0 v1 v2 v3 v4 v5 v6 v7 v8 v9 v10 v11 v12 : Value) (bl : List Nat) (B : Nat) (hg : g ∈ bl) (hB : B ≤ g) :
    ∃ z, ((((((((((((w.setCell ⟨g, 0, none⟩ v0).setCell ⟨g, 1, none⟩ v1).setCell ⟨g, 2, none⟩ v2).setCell ⟨g, 3, none⟩ v3).setCell ⟨g, 4, none⟩ v4).setCell ⟨g, 5, none⟩ v5).setCell ⟨g, 6, none⟩ v6).setCell ⟨g, 7, none⟩ v7).setCell ⟨g, 8, none⟩ v8).setCell ⟨g, 9, none⟩ v9).setCell ⟨g, 10, none⟩ v10).setCell ⟨g, 11, none⟩ v11).setCell ⟨g, 12, none⟩ v12 = z ∧ Bx z g #[v0, v1, v2, v3, v4, v5, v6, v7, v8, v9, v10, v11, v12] t ∧ Fr bl B w z := by
  have H := bx_set (i := 12) (bx_set (i := 11) (bx_set (i := 10) (bx_set (i := 9) (bx_set (i := 8) (bx_set (i := 7) (bx_set (i := 6) (bx_set (i := 5) (bx_set (i := 4) (bx_set (i := 3) (bx_set (i := 2) (bx_set (i := 1) (bx_set (i := 0) h v0) v1) v2) v3) v4) v5) v6) v7) v8) v9) v10) v11) v12
  simp only [List.setIfInBounds_toArray, List.set_cons_zero, List.set_cons_succ] at H
  exact ⟨_, rfl, H, ((((((((((((Fr.set w 0 v0 hg hB).trans (Fr.set _ 1 v1 hg hB)).trans (Fr.set _ 2 v2 hg hB)).trans (Fr.set _ 3 v3 hg hB)).trans (Fr.set _ 4 v4 hg hB)).trans (Fr.set _ 5 v5 hg hB)).trans (Fr.set _ 6 v6 hg hB)).trans (Fr.set _ 7 v7 hg hB)).trans (Fr.set _ 8 v8 hg hB)).trans (Fr.set _ 9 v9 hg hB)).trans (Fr.set _ 10 v10 hg hB)).trans (Fr.set _ 11 v11 hg hB)).trans (Fr.set _ 12 v12 hg hB)⟩
theorem lst_newV (w : World) (v : V) : Lst vc 4 (w.alloc (.cells #[.int .i64 v.K, .int .i64 v.I, .float .f64 v.b, .string v.s] 25)) (some ⟨w.heap.size, 0, none⟩) [v] := fun j x hj => by
  have hj0 : j = 0 := by have := (List.getElem?_eq_some_iff.1 hj).1; simp at this; exact this
  subst hj0
  simp at hj
  subst hj
  refine ⟨w.heap.size, 0, rfl, by simp, fun i u hu => ?_⟩
  rw [Nat.zero_mul, Nat.zero_add]
  try rw [Nat.zero_add]
  exact cell_of (heap_alloc_new w _) (by rw [← Array.getElem?_toList]; exact hu)
/-- Whole numbers as an owned list of any whole numbers. -/
def in1 (z : Int) : List Value := [.int .i64 z]
theorem in1_len (z : Int) : (in1 z).length = 1 := rfl
theorem in1_one (z : Int) : ∀ u ∈ in1 z, u.oneCell' = true := fun u hu => by
  simp [in1] at hu
  subst hu; rfl
theorem lst_newI (w : World) (z : Int) : Lst in1 1 (w.alloc (.cells #[.int .i64 z] 3)) (some ⟨w.heap.size, 0, none⟩) [z] := fun j x hj => by
  have hj0 : j = 0 := by have := (List.getElem?_eq_some_iff.1 hj).1; simp at this; exact this
  subst hj0
  simp at hj
  subst hj
  refine ⟨w.heap.size, 0, rfl, by simp, fun i u hu => ?_⟩
  rw [Nat.zero_mul, Nat.zero_add]
  try rw [Nat.zero_add]
  exact cell_of (heap_alloc_new w _) (by rw [← Array.getElem?_toList]; exact hu)
theorem lst_newS (w : World) (z : ByteArray) : Lst sc1 1 (w.alloc (.cells #[.string z] 9)) (some ⟨w.heap.size, 0, none⟩) [z] := fun j x hj => by
  have hj0 : j = 0 := by have := (List.getElem?_eq_some_iff.1 hj).1; simp at this; exact this
  subst hj0
  simp at hj
  subst hj
  refine ⟨w.heap.size, 0, rfl, by simp, fun i u hu => ?_⟩
  rw [Nat.zero_mul, Nat.zero_add]
  try rw [Nat.zero_add]
  exact cell_of (heap_alloc_new w _) (by rw [← Array.getElem?_toList]; exact hu)
theorem OwnL.lst_own {β : Type} {f : β → List Value} {k : Nat} (hf : ∀ x, (f x).length = k) {w : World} {B n c : Nat} {a : Option Addr} {e : TypeId} {l : List β} (h : OwnL f k w B e (.slice a n c) l) : Lst f k w a l := by
  obtain ⟨a0, c0, ef, -, -, -, hls, -⟩ := h.form hf
  simp only [Value.slice.injEq] at ef
  rw [ef.1]
  exact hls
theorem needsQ_lenS (cols : List Col) (q : Qy) : (needsQ cols q).length ≤ cols.length := by
  unfold needsQ
  split
  · exact need_len _ _ _
  · simp
theorem FT.laterS {w w' : World} {B : Nat} {t : T} (h : FT w B t) (hb : Below w.heap.size w w') : FT w' B t := ⟨NT.later hb h.1, h.2⟩
theorem FT.lowS {w : World} {B C : Nat} {t : T} (h : FT w B t) (hC : C ≤ B) : FT w C t := ⟨NT.low hC t h.1, h.2⟩
theorem FT.keepK {w w' : World} {B : Nat} {t : T} (h : FT w B t) (hf : Fr (blkO t.kb) B w w') (hk : OwnL tc 9 w' B 29 (.slice t.kb t.ks.length t.kc) t.ks) : FT w' B t := by
  have hn := NT_iff.1 h.1
  have hd := Dis.of h.2
  exact ⟨NT_iff.2 ⟨hn.1, hn.2.1.fr hf (fun b hb => hd.lk b hb), hk, fun k hkm => NT.kept k (fun b hb => hf.same b (NT.lt k (hn.2.2.2 k hkm) b hb).2 (fun hb2 => hd.kt b hb2 k hkm hb)) (hn.2.2.2 k hkm)⟩, h.2⟩
theorem FT.keepL {w w' : World} {B : Nat} {t : T} (h : FT w B t) (hf : Fr (blkO t.la) B w w') (hl : OwnL vc 4 w' B 25 (.slice t.la t.h.l.length t.lc) t.h.l) : FT w' B t := by
  have hn := NT_iff.1 h.1
  have hd := Dis.of h.2
  exact ⟨NT_iff.2 ⟨hn.1, hl, hn.2.2.1.fr hf (fun b hb hb2 => hd.lk b hb2 hb), fun k hkm => NT.kept k (fun b hb => hf.same b (NT.lt k (hn.2.2.2 k hkm) b hb).2 (fun hb2 => hd.lt b hb2 k hkm hb)) (hn.2.2.2 k hkm)⟩, h.2⟩
theorem blk_la {t : T} : ∀ b ∈ blkO t.la, b ∈ t.blk := fun b hb => by rw [blk_eq]; exact List.mem_append_left _ hb
theorem blk_kb {t : T} : ∀ b ∈ blkO t.kb, b ∈ t.blk := fun b hb => by rw [blk_eq]; exact List.mem_append_right _ (List.mem_append_left _ hb)
theorem cell_fr {w w' : World} {bl : List Nat} {B g i : Nat} {v : Value} (hf : Fr bl B w w') (h : w.cell? ⟨g, i, none⟩ = some v) (hg : g < w.heap.size) (hn : g ∉ bl) : w'.cell? ⟨g, i, none⟩ = some v :=
  (World.cell?_of_block (w := w) (a := ⟨g, i, none⟩) (hf.same g hg hn)).trans h
theorem tv_tc {t u : T} (h : tc u = tc t) : tv u = tv t := by
  show Value.agg (ta u) = Value.agg (ta t)
  rw [Array.toList_inj.1 h]
theorem nd_flat : ∀ (l : List Nat), (l.map fun n : Nat => (n : Int)).flatMap in1 = l.flatMap nd1
  | [] => rfl
  | x :: r => by
    rw [List.map_cons, List.flatMap_cons, List.flatMap_cons, nd_flat r]
    rfl
theorem nd_in {w : World} {B : Nat} {e : TypeId} {v : Value} {l : List Nat} (h : OwnL nd1 1 w B e v l) : OwnL in1 1 w B e v (l.map fun n : Nat => (n : Int)) := by
  unfold OwnL at h ⊢
  rw [List.length_map, nd_flat]
  exact h
theorem sc1_lenS (s : ByteArray) : (sc1 s).length = 1 := rfl
theorem sc1_oneS (s : ByteArray) : ∀ u ∈ sc1 s, u.oneCell' = true := fun u hu => by
  simp [sc1] at hu
  subst hu; rfl
end Go.Proofs.YthgnibphhiaecaaGreat
