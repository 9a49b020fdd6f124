/-
  Many answers in memory, each in a block of its own: the law's apart of them.
-/
import Derived.Test.YtjphnkjikemghaaUTApartW
namespace Go.Proofs.Ytjphnkjikemghaa.Ow
open Go.RowKit Cu

theorem heap_set_rowT {w : World} {g i : Nat} {arr : Array Value} {t : TypeId} {fr : Nat × Nat} (h : w.heap[g]? = some (.cells arr t fr)) (u : Value) : (w.setCell ⟨g, i, none⟩ u).heap[g]? = some (.cells (arr.setIfInBounds i u) t fr) := by
  simp only [World.setCell, Array.getElem?_modify]
  simp [h]
theorem heap_new (w : World) (o : Obj) : (w.alloc o).heap[w.heap.size]? = some o := by
  show (w.heap.push o)[w.heap.size]? = some o
  simp
theorem row_kept {w w' : World} {B : Nat} {e : TypeId} {v : Value} {n : Nat} {xs : List Value} (h : w.ownsRow B e 1 v n xs) (hk : ∀ g, v.ownBlock = some g → w'.heap[g]? = w.heap[g]?) : w'.ownsRow B e 1 v n xs := by
  rcases h.2 with h0 | ⟨g, cap, cur, rfl, hb, hg, hr⟩
  · exact ⟨h.1, .inl h0⟩
  · exact ⟨h.1, .inr ⟨g, cap, cur, rfl, hb, (hk g rfl).trans hg, hr⟩⟩
theorem row_later {w w' : World} {B : Nat} {e : TypeId} {v : Value} {n : Nat} {xs : List Value} (h : w.ownsRow B e 1 v n xs) (hb : Below w.heap.size w w') : w'.ownsRow B e 1 v n xs :=
  row_kept h fun g hg => hb.block g (World.ownsRow.lt h g hg).2
theorem row_low {w : World} {B C : Nat} {e : TypeId} {v : Value} {n : Nat} {xs : List Value} (h : w.ownsRow B e 1 v n xs) (hC : C ≤ B) : w.ownsRow C e 1 v n xs :=
  ⟨h.1, h.2.imp id (fun ⟨g, cap, cur, q1, q2, q3⟩ => ⟨g, cap, cur, q1, by omega, q3⟩)⟩
/-- A row, written out. -/
theorem row_parts {w : World} {B : Nat} {e : TypeId} {v : Value} {xs : List Value} (h : w.ownsRow B e 1 v xs.length xs) :
    (v = .slice none 0 0 ∧ xs = []) ∨ ∃ g c, v = .slice (some ⟨g, 0, none⟩) xs.length c ∧ B ≤ g ∧ g < w.heap.size ∧ c ≤ maxLen ∧ VBlk w g e c xs.length (fun j => xs.getD j (.bool false)) := by
  rcases h.2 with ⟨h0, h1⟩ | ⟨g, cap, cur, hv, hb, hg, hn, hm, hs, ht⟩
  · exact .inl ⟨h0, List.eq_nil_of_length_eq_zero h1⟩
  · refine .inr ⟨g, cap, hv, hb, (Array.getElem?_eq_some_iff.1 hg).1, hm, cur, hg, by omega, hn, fun j hj => ?_⟩
    obtain ⟨y, hy⟩ : ∃ y, xs[j]? = some y := ⟨_, List.getElem?_eq_getElem hj⟩
    have e1 := hy
    rw [← ht, List.getElem?_take, if_pos (by omega)] at e1
    show cur[j]? = some (xs.getD j (.bool false))
    rw [List.getD_eq_getElem?_getD, hy]
    simpa using e1
/-- A store into a row. -/
theorem row_store {w : World} {B : Nat} {e : TypeId} {v : Value} {xs : List Value} (h : w.ownsRow B e 1 v xs.length xs) {i : Nat} (hi : i < xs.length) :
    ∃ g c, v = .slice (some ⟨g, 0, none⟩) xs.length c ∧ B ≤ g ∧ w.heap.size > g ∧ w.cell? ⟨g, i, none⟩ = some xs[i] ∧ w.frozen? ⟨g, i, none⟩ = false ∧ (∃ cur, w.heap[g]? = some (.cells cur e (0, 0))) ∧ ∀ x, (w.setCell ⟨g, i, none⟩ x).ownsRow B e 1 v xs.length (xs.set i x) := by
  rcases h.2 with ⟨_, h1⟩ | ⟨g, cap, cur, hv, hb, hg, hn, hm, hs, ht⟩
  · omega
  · obtain ⟨y, hy⟩ : ∃ y, xs[i]? = some y := ⟨_, List.getElem?_eq_getElem hi⟩
    have hxy : xs[i] = y := (List.getElem?_eq_some_iff.1 hy).2
    have e1 := hy
    rw [← ht, List.getElem?_take, if_pos (by omega)] at e1
    rw [hxy]
    refine ⟨g, cap, hv, hb, (Array.getElem?_eq_some_iff.1 hg).1, ?_, by simp [World.frozen?, hg], ⟨cur, hg⟩, fun x => ⟨by simp, .inr ⟨g, cap, cur.setIfInBounds i x, hv, hb, heap_set_rowT hg x, hn, hm, by simpa using hs, ?_⟩⟩⟩
    · simp [World.cell?, hg]
      simpa using e1
    · rw [Array.toList_setIfInBounds, List.take_set, ht]
structure Fam (w : World) (e : TypeId) (lo hi : Nat) (E : List (Value × List Value)) : Prop where
  each : ∀ x ∈ E, w.ownsRow lo e 1 x.1 x.2.length x.2
  lt : ∀ x ∈ E, ∀ g, x.1.ownBlock = some g → g < hi
  apart : E.Pairwise (fun x y => x.1.ownBlock = none ∨ x.1.ownBlock ≠ y.1.ownBlock)
  top : hi ≤ w.heap.size
theorem Fam.nil (w : World) (e : TypeId) (lo : Nat) : Fam w e lo w.heap.size [] := ⟨fun x hx => (by cases hx), fun x hx => (by cases hx), List.Pairwise.nil, Nat.le_refl _⟩
theorem Fam.kept {w w' : World} {e : TypeId} {lo hi : Nat} {E : List (Value × List Value)} (h : Fam w e lo hi E) (hk : ∀ x ∈ E, ∀ g, x.1.ownBlock = some g → w'.heap[g]? = w.heap[g]?) (hs : w.heap.size ≤ w'.heap.size) : Fam w' e lo hi E :=
  ⟨fun x hx => row_kept (h.each x hx) (hk x hx), h.lt, h.apart, Nat.le_trans h.top hs⟩
theorem Fam.later {w w' : World} {e : TypeId} {lo hi : Nat} {E : List (Value × List Value)} (h : Fam w e lo hi E) (hb : Below w.heap.size w w') : Fam w' e lo hi E :=
  h.kept (fun x hx g hg => hb.block g (World.ownsRow.lt (h.each x hx) g hg).2) hb.size
theorem Fam.touch {w w' : World} {e : TypeId} {lo hi : Nat} {E : List (Value × List Value)} {P : Nat → Prop} (h : Fam w e lo hi E) (ht : Touch P w w') (hP : ∀ x ∈ E, ∀ g, x.1.ownBlock = some g → ¬ P g) : Fam w' e lo hi E :=
  h.kept (fun x hx g hg => ht.block g (World.ownsRow.lt (h.each x hx) g hg).2 (hP x hx g hg)) ht.size
theorem Fam.snoc {w w' : World} {e : TypeId} {lo hi : Nat} {E : List (Value × List Value)} {v : Value} {xs : List Value} (h : Fam w e lo hi E) (hb : Below w.heap.size w w') (ho : w'.ownsRow w.heap.size e 1 v xs.length xs) (hlo : lo ≤ w.heap.size) : Fam w' e lo w'.heap.size (E ++ [(v, xs)]) := by
  have h' := h.later hb
  refine ⟨fun x hx => ?_, fun x hx g hg => ?_, ?_, Nat.le_refl _⟩
  · rw [List.mem_append] at hx
    rcases hx with hx | hx
    · exact h'.each x hx
    · simp at hx; subst hx; exact row_low ho hlo
  · rw [List.mem_append] at hx
    rcases hx with hx | hx
    · exact (World.ownsRow.lt (h'.each x hx) g hg).2
    · simp at hx; subst hx; exact (World.ownsRow.lt ho g hg).2
  · rw [List.pairwise_append]
    refine ⟨h.apart, List.pairwise_singleton _ _, fun x hx y hy => ?_⟩
    simp at hy
    subst hy
    cases hxo : x.1.ownBlock with
    | none => exact .inl rfl
    | some g =>
      right
      intro hyo
      have h1 := (World.ownsRow.lt (h.each x hx) g hxo).2
      have h2 := (World.ownsRow.lt ho g hyo.symm).1
      omega
/-- A block of another kind is none of them. -/
theorem Fam.off {w : World} {e e' : TypeId} {lo hi : Nat} {E : List (Value × List Value)} (h : Fam w e lo hi E) {b : Nat} {cur : Array Value} {fr : Nat × Nat} (hb : w.heap[b]? = some (.cells cur e' fr)) (hne : e ≠ e') : ∀ x ∈ E, ∀ g, x.1.ownBlock = some g → ¬ g = b := fun x hx g hg hgb => by
  subst hgb
  rcases (h.each x hx).2 with ⟨h0, _⟩ | ⟨g', cap, cur', hv, _, hg', _⟩
  · rw [h0] at hg; simp [Value.ownBlock] at hg
  · rw [hv] at hg
    simp [Value.ownBlock] at hg
    subst hg
    rw [hg'] at hb
    simp at hb
    exact hne hb.2.1
def memF (E : List (Value × List Value)) (g : Nat) : Prop := ∃ x ∈ E, x.1.ownBlock = some g
theorem Fam.offF {w : World} {e e' : TypeId} {lo hi lo' hi' : Nat} {E E' : List (Value × List Value)} (h : Fam w e lo hi E) (h' : Fam w e' lo' hi' E') (hne : e ≠ e') : ∀ x ∈ E, ∀ g, x.1.ownBlock = some g → ¬ memF E' g := fun x hx g hg ⟨y, hy, hyg⟩ => by
  rcases (h'.each y hy).2 with ⟨h0, _⟩ | ⟨g', cap, cur', hv, _, hg', _⟩
  · rw [h0] at hyg; simp [Value.ownBlock] at hyg
  · rw [hv] at hyg
    simp [Value.ownBlock] at hyg
    subst hyg
    exact h.off hg' hne x hx g' hg rfl
def dflt : Value × List Value := (.bool false, [])
def zOf (E : List (Value × List Value)) (i : Nat) : Bool := ((E.getD i dflt).1.ownBlock).isNone
def gOf (E : List (Value × List Value)) (i : Nat) : Nat := ((E.getD i dflt).1.ownBlock).getD 0
def nOf (E : List (Value × List Value)) (i : Nat) : Nat := (E.getD i dflt).2.length
def cOf (E : List (Value × List Value)) (i : Nat) : Nat := match (E.getD i dflt).1 with | .slice _ _ c => c | _ => 0
theorem getD_in {E : List (Value × List Value)} {i : Nat} (hi : i < E.length) : E.getD i dflt ∈ E ∧ E[i]? = some (E.getD i dflt) := by
  have h : E[i]? = some E[i] := List.getElem?_eq_getElem hi
  rw [List.getD_eq_getElem?_getD, h]
  exact ⟨List.getElem_mem hi, rfl⟩
theorem own_of {w : World} {B : Nat} {e : TypeId} {x : Value × List Value} (h : w.ownsRow B e 1 x.1 x.2.length x.2) : (x.1.ownBlock = none ∧ x.1 = .slice none 0 0 ∧ x.2 = []) ∨ ∃ g c, x.1.ownBlock = some g ∧ x.1 = .slice (some ⟨g, 0, none⟩) x.2.length c ∧ g < w.heap.size ∧ c ≤ maxLen ∧ VBlk w g e c x.2.length (fun j => x.2.getD j (.bool false)) := by
  rcases row_parts h with ⟨h0, h1⟩ | ⟨g, c, hv, _, hg, hc, hb⟩
  · exact .inl ⟨by rw [h0]; rfl, h0, h1⟩
  · exact .inr ⟨g, c, by rw [hv]; rfl, hv, hg, hc, hb⟩
theorem Fam.lists {w : World} {e : TypeId} {lo hi : Nat} {E : List (Value × List Value)} (h : Fam w e lo hi E) (hroom : ∀ x ∈ E, x.2.length ≤ 1099511627776) (t : TypeId) :
    Lists (w.alloc (.cells (E.map (·.1)).toArray t)) E.length w.heap.size (zOf E) (gOf E) (nOf E) (cOf E) ∧ ∀ i, i < E.length → zOf E i = false → VBlk (w.alloc (.cells (E.map (·.1)).toArray t)) (gOf E i) e (cOf E i) (nOf E i) (fun j => (E.getD i dflt).2.getD j (.bool false)) := by
  have hnew : (w.alloc (.cells (E.map (·.1)).toArray t)).heap[w.heap.size]? = some (.cells (E.map (·.1)).toArray t) := heap_new _ _
  have hglt : ∀ i, i < E.length → zOf E i = false → gOf E i < w.heap.size ∧ (E.getD i dflt).1.ownBlock = some (gOf E i) := fun i hi hz => by
    rcases own_of (h.each _ (getD_in hi).1) with ⟨h0, _⟩ | ⟨g, c, ho, _, hg, _⟩
    · unfold zOf at hz; rw [h0] at hz; simp at hz
    · unfold gOf; rw [ho]; exact ⟨hg, rfl⟩
  refine ⟨⟨fun i hi => ?_, by simp, fun i hi hz => ?_, fun i j hi hj hzi hzj hG => ?_, fun i hi hz => ?_, fun i hi => ?_, fun i hi hz => ?_⟩, fun i hi hz => ?_⟩
  · rw [cell_of_row _ _ _ _ _ _ hnew]
    have e1 : (E.map (·.1)).toArray[i]? = some (E.getD i dflt).1 := by rw [List.getElem?_toArray, List.getElem?_map, (getD_in hi).2]; rfl
    rw [e1]
    rcases own_of (h.each _ (getD_in hi).1) with ⟨h0, h1, h2⟩ | ⟨g, c, ho, hv, _⟩
    · unfold adr zOf nOf cOf
      rw [h0, h1, h2]
      rfl
    · unfold adr zOf gOf nOf cOf
      rw [ho, hv]
      rfl
  · have := (hglt i hi hz).1
    simp
    omega
  · have h1 := (hglt i hi hzi).2
    have h2 := (hglt j hj hzj).2
    rw [hG] at h1
    have hp := List.pairwise_iff_getElem.1 h.apart
    rcases Nat.lt_trichotomy i j with hij | hij | hij
    · have := hp i j hi hj hij
      rw [show E[i] = E.getD i dflt by simp [List.getD_eq_getElem?_getD, hi], show E[j] = E.getD j dflt by simp [List.getD_eq_getElem?_getD, hj], h1, h2] at this
      simp at this
    · exact hij
    · have := hp j i hj hi hij
      rw [show E[i] = E.getD i dflt by simp [List.getD_eq_getElem?_getD, hi], show E[j] = E.getD j dflt by simp [List.getD_eq_getElem?_getD, hj], h1, h2] at this
      simp at this
  · have := (hglt i hi hz).1
    omega
  · refine ⟨hroom _ (getD_in hi).1, ?_⟩
    rcases own_of (h.each _ (getD_in hi).1) with ⟨h0, h1, h2⟩ | ⟨g, c, ho, hv, _, hc, _⟩
    · unfold cOf; rw [h1]; exact Nat.zero_le _
    · unfold cOf; rw [hv]; simp only [maxLen] at hc; show c ≤ _; omega
  · rcases own_of (h.each _ (getD_in hi).1) with ⟨h0, h1, h2⟩ | ⟨g, c, ho, hv, _⟩
    · unfold nOf cOf; rw [h1, h2]; exact ⟨rfl, rfl⟩
    · unfold zOf at hz; rw [ho] at hz; simp at hz
  · rcases own_of (h.each _ (getD_in hi).1) with ⟨h0, _⟩ | ⟨g, c, ho, hv, hg, hc, hb⟩
    · unfold zOf at hz; rw [h0] at hz; simp at hz
    · unfold gOf cOf nOf
      rw [ho, hv]
      exact hb.alloc _
theorem touch_fam {w w' : World} {E : List (Value × List Value)} {o : Obj} {e : TypeId} {lo hi : Nat} (h : Fam w e lo hi E) (ht : Touch (isG E.length (zOf E) (gOf E)) (w.alloc o) w') : Touch (memF E) w w' := by
  have hs : w.heap.size ≤ w'.heap.size := by have := ht.size; simp at this; omega
  refine ⟨ht.os, ht.tape, ht.output, hs, fun j hj hn => ?_⟩
  rw [ht.block j (by simp; omega) (fun ⟨i, hi', hz, hG⟩ => hn ⟨E.getD i dflt, (getD_in hi').1, ?_⟩), Below.heap_alloc _ _ _ hj]
  rcases own_of (h.each _ (getD_in hi').1) with ⟨h0, _⟩ | ⟨g, c, ho, _⟩
  · unfold zOf at hz; rw [h0] at hz; simp at hz
  · rw [ho, hG]; unfold gOf; rw [ho]; rfl
theorem apartTexts_fam {w : World} {lo hi : Nat} {E : List (Value × List Value)} (h : Fam w 9 lo hi E) (hN : E.length ≤ 20) (hroom : ∀ x ∈ E, x.2.length ≤ 1099511627776) :
    Calls Try.prog 19 #[.slice (some ⟨w.heap.size, 0, none⟩) E.length E.length] (w.alloc (.cells (E.map (·.1)).toArray 24)) fun e w' => e = .returned (.bool true) ∧ Touch (memF E) w w' := by
  obtain ⟨hL, hb⟩ := h.lists hroom 24
  exact (apartTexts_yes E.length w.heap.size E.length _ _ _ _ _ _ hN hL hb).mono fun e w' ⟨he, ht⟩ => ⟨he, touch_fam h ht⟩
end Go.Proofs.Ytjphnkjikemghaa.Ow
