/-
  Many answers in memory, each in a block of its own, some from within their block on: the law's apart of them; lists beside them that are written over.
-/
import Derived.Test.YtmcegcinccphbaaFApartB
import Derived.Test.YtmcegcinccphbaaFApartI
import Derived.Test.YtmcegcinccphbaaFArgs
import Derived.Laws.IdiomCopy
namespace Go.Proofs.Ytmcegcinccphbaa
open Go.RowKit Fr

theorem row_kept {w w' : World} {B : Nat} {e : TypeId} {v : Value} {n : Nat} {xs : List Value} (h : w.ownsRow B e 1 v n xs) (hk : ∀ g, v.ownBlock = some g → w'.heap[g]? = w.heap[g]?) : w'.ownsRow B e 1 v n xs := by
  rcases h.2 with h0 | ⟨g, cap, cur, rfl, hb, hg, hr⟩
  · exact ⟨h.1, .inl h0⟩
  · exact ⟨h.1, .inr ⟨g, cap, cur, rfl, hb, (hk g rfl).trans hg, hr⟩⟩
theorem row_parts {w : World} {B : Nat} {e : TypeId} {v : Value} {xs : List Value} (h : w.ownsRow B e 1 v xs.length xs) :
    (v = .slice none 0 0 ∧ xs = []) ∨ ∃ g c, v = .slice (some ⟨g, 0, none⟩) xs.length c ∧ B ≤ g ∧ g < w.heap.size ∧ c ≤ maxLen ∧ VBlk w g e c xs.length (fun j => xs.getD j (.bool false)) := by
  rcases h.2 with ⟨h0, h1⟩ | ⟨g, cap, cur, hv, hb, hg, hn, hm, hs, ht⟩
  · exact .inl ⟨h0, List.eq_nil_of_length_eq_zero h1⟩
  · refine .inr ⟨g, cap, hv, hb, (Array.getElem?_eq_some_iff.1 hg).1, hm, cur, hg, by omega, hn, fun j hj => ?_⟩
    obtain ⟨y, hy⟩ : ∃ y, xs[j]? = some y := ⟨_, List.getElem?_eq_getElem hj⟩
    have e1 := hy
    rw [← ht, List.getElem?_take, if_pos (by omega)] at e1
    show cur[j]? = some (xs.getD j (.bool false))
    rw [List.getD_eq_getElem?_getD, hy]
    simpa using e1
/-- An answer: a row of its own, or a list without room within a block of its own. -/
def OwnC (w : World) (lo : Nat) (e : TypeId) (v : Value) (xs : List Value) : Prop :=
  w.ownsRow lo e 1 v xs.length xs ∨ ∃ g o cur, v = .slice (some ⟨g, o, none⟩) xs.length xs.length ∧ lo ≤ g ∧ xs.length ≤ maxLen ∧ w.heap[g]? = some (.cells cur e (0, 0)) ∧ o + xs.length ≤ cur.size ∧ ∀ j x, xs[j]? = some x → cur[o + j]? = some x
theorem OwnC.lt {w : World} {lo : Nat} {e : TypeId} {v : Value} {xs : List Value} (h : OwnC w lo e v xs) : ∀ g, v.ownBlock = some g → lo ≤ g ∧ g < w.heap.size := fun g hg => by
  rcases h with h | ⟨g', o, cur, rfl, hl, _, hh, _⟩
  · exact World.ownsRow.lt h g hg
  · simp [Value.ownBlock] at hg
    subst hg
    exact ⟨hl, (Array.getElem?_eq_some_iff.1 hh).1⟩
theorem OwnC.kept {w w' : World} {lo : Nat} {e : TypeId} {v : Value} {xs : List Value} (h : OwnC w lo e v xs) (hk : ∀ g, v.ownBlock = some g → w'.heap[g]? = w.heap[g]?) : OwnC w' lo e v xs := by
  rcases h with h | ⟨g', o, cur, rfl, hl, hm, hh, hr⟩
  · exact .inl (row_kept h hk)
  · exact .inr ⟨g', o, cur, rfl, hl, hm, (hk g' rfl).trans hh, hr⟩
theorem OwnC.later {w w' : World} {lo : Nat} {e : TypeId} {v : Value} {xs : List Value} (h : OwnC w lo e v xs) (hb : Below w.heap.size w w') : OwnC w' lo e v xs := h.kept fun g hg => hb.block g (h.lt g hg).2
theorem OwnC.low {w : World} {lo l' : Nat} {e : TypeId} {v : Value} {xs : List Value} (h : OwnC w lo e v xs) (hl : l' ≤ lo) : OwnC w l' e v xs := by
  rcases h with h | ⟨g', o, cur, hv, hlo, hr⟩
  · exact .inl ⟨h.1, h.2.imp id (fun ⟨g, cap, cur, q1, q2, q3⟩ => ⟨g, cap, cur, q1, by omega, q3⟩)⟩
  · exact .inr ⟨g', o, cur, hv, by omega, hr⟩
/-- Its block is of its kind. -/
theorem OwnC.kind {w : World} {lo : Nat} {e : TypeId} {v : Value} {xs : List Value} (h : OwnC w lo e v xs) {g : Nat} (hg : v.ownBlock = some g) : ∃ cur, w.heap[g]? = some (.cells cur e (0, 0)) := by
  rcases h with h | ⟨g', o, cur, rfl, hl, _, hh, _⟩
  · rcases h.2 with ⟨h0, _⟩ | ⟨g', cap, cur', hv, _, hg', _⟩
    · rw [h0] at hg; simp [Value.ownBlock] at hg
    · rw [hv] at hg
      simp [Value.ownBlock] at hg
      subst hg
      exact ⟨_, hg'⟩
  · simp [Value.ownBlock] at hg
    subst hg
    exact ⟨_, hh⟩
abbrev Ent := Value × List Value
/-- Answers of one kind, each in a block of its own, none in one of X. -/
structure Fam (w : World) (e : TypeId) (lo : Nat) (X : List Nat) (E : List Ent) : Prop where
  each : ∀ x ∈ E, OwnC w lo e x.1 x.2
  apart : E.Pairwise (fun x y => x.1.ownBlock = none ∨ x.1.ownBlock ≠ y.1.ownBlock)
  off : ∀ x ∈ E, ∀ g, x.1.ownBlock = some g → g ∉ X
  low : ∀ b ∈ X, lo ≤ b ∧ b < w.heap.size
  top : lo ≤ w.heap.size
theorem Fam.nil (w : World) (e : TypeId) (lo : Nat) (h : lo ≤ w.heap.size) : Fam w e lo [] [] := ⟨fun x hx => (by cases hx), List.Pairwise.nil, fun x hx => (by cases hx), fun x hx => (by cases hx), h⟩
theorem Fam.kept {w w' : World} {e : TypeId} {lo : Nat} {X : List Nat} {E : List Ent} (h : Fam w e lo X E) (hk : ∀ x ∈ E, ∀ g, x.1.ownBlock = some g → w'.heap[g]? = w.heap[g]?) (hs : w.heap.size ≤ w'.heap.size) : Fam w' e lo X E :=
  ⟨fun x hx => (h.each x hx).kept (hk x hx), h.apart, h.off, fun b hb => ⟨(h.low b hb).1, Nat.lt_of_lt_of_le (h.low b hb).2 hs⟩, Nat.le_trans h.top hs⟩
theorem Fam.later {w w' : World} {e : TypeId} {lo : Nat} {X : List Nat} {E : List Ent} (h : Fam w e lo X E) (hb : Below w.heap.size w w') : Fam w' e lo X E :=
  h.kept (fun x hx g hg => hb.block g ((h.each x hx).lt g hg).2) hb.size
/-- What is written into a block of X leaves them. -/
theorem Fam.touch {w w' : World} {e : TypeId} {lo : Nat} {X : List Nat} {E : List Ent} {P : Nat → Prop} (h : Fam w e lo X E) (ht : Touch P w w') (hP : ∀ g, P g → g ∈ X) : Fam w' e lo X E :=
  h.kept (fun x hx g hg => ht.block g ((h.each x hx).lt g hg).2 (fun hp => h.off x hx g hg (hP g hp))) ht.size
/-- One block more is to be written over: a new one. -/
theorem Fam.more {w w' : World} {e : TypeId} {lo : Nat} {X : List Nat} {E : List Ent} (h : Fam w e lo X E) (hb : Below w.heap.size w w') {b : Nat} (hlo : w.heap.size ≤ b) (hlt : b < w'.heap.size) : Fam w' e lo (b :: X) E := by
  have h' := h.later hb
  refine ⟨h'.each, h'.apart, fun x hx g hg hm => ?_, fun c hc => ?_, h'.top⟩
  · rcases List.mem_cons.1 hm with rfl | hm
    · have := ((h.each x hx).lt g hg).2; omega
    · exact h.off x hx g hg hm
  · rcases List.mem_cons.1 hc with rfl | hc
    · exact ⟨by have := h.top; omega, hlt⟩
    · exact h'.low c hc
theorem Fam.snoc {w w' : World} {e : TypeId} {lo : Nat} {X : List Nat} {E : List Ent} {v : Value} {xs : List Value} (h : Fam w e lo X E) (hb : Below w.heap.size w w') (ho : OwnC w' w.heap.size e v xs) : Fam w' e lo X (E ++ [(v, xs)]) := by
  have h' := h.later hb
  refine ⟨fun x hx => ?_, ?_, fun x hx g hg => ?_, h'.low, h'.top⟩
  · rw [List.mem_append] at hx
    rcases hx with hx | hx
    · exact h'.each x hx
    · simp at hx; subst hx; exact ho.low h.top
  · rw [List.pairwise_append]
    refine ⟨h.apart, List.pairwise_singleton _ _, fun x hx y hy => ?_⟩
    simp at hy
    subst hy
    cases hxo : x.1.ownBlock with
    | none => exact .inl rfl
    | some g =>
      right
      intro hyo
      have h1 := ((h.each x hx).lt g hxo).2
      have h2 := (ho.lt g hyo.symm).1
      omega
  · rw [List.mem_append] at hx
    rcases hx with hx | hx
    · exact h.off x hx g hg
    · simp at hx; subst hx
      intro hm
      have h1 := (h.low g hm).2
      have h2 := (ho.lt g hg).1
      omega
def memF (E : List Ent) (g : Nat) : Prop := ∃ x ∈ E, x.1.ownBlock = some g
/-- Answers of another kind are elsewhere. -/
theorem Fam.other {w w' : World} {e e' : TypeId} {lo : Nat} {X X' : List Nat} {E E' : List Ent} (h : Fam w e lo X E) (h' : Fam w e' lo X' E') (hne : e ≠ e') (ht : Touch (memF E') w w') : Fam w' e lo X E :=
  h.kept (fun x hx g hg => ht.block g ((h.each x hx).lt g hg).2 (fun ⟨y, hy, hyg⟩ => by
    obtain ⟨c1, e1⟩ := (h.each x hx).kind hg
    obtain ⟨c2, e2⟩ := (h'.each y hy).kind hyg
    rw [e1] at e2
    simp at e2
    exact hne e2.2)) ht.size
def dflt : Ent := (.bool false, [])
def zOf (E : List Ent) (i : Nat) : Bool := ((E.getD i dflt).1.ownBlock).isNone
def gOf (E : List Ent) (i : Nat) : Nat := ((E.getD i dflt).1.ownBlock).getD 0
def oOf (E : List Ent) (i : Nat) : Nat := match (E.getD i dflt).1 with | .slice (some a) _ _ => a.off | _ => 0
def nOf (E : List Ent) (i : Nat) : Nat := (E.getD i dflt).2.length
def cOf (E : List Ent) (i : Nat) : Nat := match (E.getD i dflt).1 with | .slice _ _ c => c | _ => 0
theorem getD_in {E : List Ent} {i : Nat} (hi : i < E.length) : E.getD i dflt ∈ E ∧ E[i]? = some (E.getD i dflt) := by
  have h : E[i]? = some E[i] := List.getElem?_eq_getElem hi
  rw [List.getD_eq_getElem?_getD, h]
  exact ⟨List.getElem_mem hi, rfl⟩
theorem own_of {w : World} {B : Nat} {e : TypeId} {x : Ent} (h : OwnC w B e x.1 x.2) : (x.1.ownBlock = none ∧ x.1 = .slice none 0 0 ∧ x.2 = []) ∨ ∃ g o c, x.1.ownBlock = some g ∧ x.1 = .slice (some ⟨g, o, none⟩) x.2.length c ∧ g < w.heap.size ∧ c ≤ maxLen ∧ OBlk w g o e c x.2.length (fun j => x.2.getD j (.bool false)) := by
  rcases h with h | ⟨g, o, cur, hv, hl, hm, hh, hs, hc⟩
  · rcases row_parts h with ⟨h0, h1⟩ | ⟨g, c, hv, _, hg, hc, hb⟩
    · exact .inl ⟨by rw [h0]; rfl, h0, h1⟩
    · exact .inr ⟨g, 0, c, by rw [hv]; rfl, hv, hg, hc, hb.o⟩
  · refine .inr ⟨g, o, x.2.length, by rw [hv]; rfl, hv, (Array.getElem?_eq_some_iff.1 hh).1, hm, cur, hh, .inr rfl, Nat.le_refl _, hs, fun j hj => ?_⟩
    obtain ⟨y, hy⟩ : ∃ y, x.2[j]? = some y := ⟨_, List.getElem?_eq_getElem hj⟩
    rw [hc j y hy]
    show some y = some (x.2.getD j (.bool false))
    rw [List.getD_eq_getElem?_getD, hy]
    rfl
theorem Fam.lists {w : World} {e : TypeId} {lo : Nat} {X : List Nat} {E : List Ent} (h : Fam w e lo X E) (hroom : ∀ x ∈ E, x.2.length ≤ 1099511627776) (t : TypeId) :
    Lists (w.alloc (.cells (E.map (·.1)).toArray t)) E.length w.heap.size (zOf E) (gOf E) (oOf E) (nOf E) (cOf E) ∧ ∀ i, i < E.length → zOf E i = false → OBlk (w.alloc (.cells (E.map (·.1)).toArray t)) (gOf E i) (oOf E i) e (cOf E i) (nOf E i) (fun j => (E.getD i dflt).2.getD j (.bool false)) := by
  have hnew : (w.alloc (.cells (E.map (·.1)).toArray t)).heap[w.heap.size]? = some (.cells (E.map (·.1)).toArray t) := heap_at_new _ _
  have hglt : ∀ i, i < E.length → zOf E i = false → gOf E i < w.heap.size ∧ (E.getD i dflt).1.ownBlock = some (gOf E i) := fun i hi hz => by
    rcases own_of (h.each _ (getD_in hi).1) with ⟨h0, _⟩ | ⟨g, o, c, ho, _, hg, _⟩
    · unfold zOf at hz; rw [h0] at hz; simp at hz
    · unfold gOf; rw [ho]; exact ⟨hg, rfl⟩
  refine ⟨⟨fun i hi => ?_, by simp, fun i hi hz => ?_, fun i j hi hj hzi hzj hG => ?_, fun i hi hz => ?_, fun i hi => ?_, fun i hi hz => ?_⟩, fun i hi hz => ?_⟩
  · rw [cell_of_row _ _ _ _ _ _ hnew]
    have e1 : (E.map (·.1)).toArray[i]? = some (E.getD i dflt).1 := by rw [List.getElem?_toArray, List.getElem?_map, (getD_in hi).2]; rfl
    rw [e1]
    rcases own_of (h.each _ (getD_in hi).1) with ⟨h0, h1, h2⟩ | ⟨g, o, c, ho, hv, _⟩
    · unfold adr zOf nOf cOf
      rw [h0, h1, h2]
      rfl
    · unfold adr zOf gOf oOf nOf cOf
      rw [ho, hv]
      rfl
  · have := (hglt i hi hz).1
    simp
    omega
  · have h1 := (hglt i hi hzi).2
    have h2 := (hglt j hj hzj).2
    rw [hG] at h1
    have hp := List.pairwise_iff_getElem.1 h.apart
    rcases Nat.lt_trichotomy i j with hij | hij | hij
    · have := hp i j hi hj hij
      rw [show E[i] = E.getD i dflt by simp [List.getD_eq_getElem?_getD, hi], show E[j] = E.getD j dflt by simp [List.getD_eq_getElem?_getD, hj], h1, h2] at this
      simp at this
    · exact hij
    · have := hp j i hj hi hij
      rw [show E[i] = E.getD i dflt by simp [List.getD_eq_getElem?_getD, hi], show E[j] = E.getD j dflt by simp [List.getD_eq_getElem?_getD, hj], h1, h2] at this
      simp at this
  · have := (hglt i hi hz).1
    omega
  · refine ⟨hroom _ (getD_in hi).1, ?_⟩
    rcases own_of (h.each _ (getD_in hi).1) with ⟨h0, h1, h2⟩ | ⟨g, o, c, ho, hv, _, hc, _⟩
    · unfold cOf; rw [h1]; exact Nat.zero_le _
    · unfold cOf; rw [hv]; simp only [maxLen] at hc; show c ≤ _; omega
  · rcases own_of (h.each _ (getD_in hi).1) with ⟨h0, h1, h2⟩ | ⟨g, o, c, ho, hv, _⟩
    · unfold nOf cOf; rw [h1, h2]; exact ⟨rfl, rfl⟩
    · unfold zOf at hz; rw [ho] at hz; simp at hz
  · rcases own_of (h.each _ (getD_in hi).1) with ⟨h0, _⟩ | ⟨g, o, c, ho, hv, hg, hc, hb⟩
    · unfold zOf at hz; rw [h0] at hz; simp at hz
    · unfold gOf oOf cOf nOf
      rw [ho, hv]
      exact hb.alloc _
theorem touch_fam {w w' : World} {E : List Ent} {o : Obj} {e : TypeId} {lo : Nat} {X : List Nat} (h : Fam w e lo X E) (ht : Touch (isG E.length (zOf E) (gOf E)) (w.alloc o) w') : Touch (memF E) w w' := by
  have hs : w.heap.size ≤ w'.heap.size := by have := ht.size; simp at this; omega
  refine ⟨ht.os, ht.tape, ht.output, hs, fun j hj hn => ?_⟩
  rw [ht.block j (by simp; omega) (fun ⟨i, hi', hz, hG⟩ => hn ⟨E.getD i dflt, (getD_in hi').1, ?_⟩), Below.heap_alloc _ _ _ hj]
  rcases own_of (h.each _ (getD_in hi').1) with ⟨h0, _⟩ | ⟨g, o, c, ho, _⟩
  · unfold zOf at hz; rw [h0] at hz; simp at hz
  · rw [ho, hG]; unfold gOf; rw [ho]; rfl
theorem apartB_fam {w : World} {lo : Nat} {X : List Nat} {E : List Ent} (h : Fam w 5 lo X E) (hN : E.length ≤ 20) (hroom : ∀ x ∈ E, x.2.length ≤ 1099511627776) :
    Calls Try.prog 21 #[.slice (some ⟨w.heap.size, 0, none⟩) E.length E.length] (w.alloc (.cells (E.map (·.1)).toArray 26)) fun e w' => e = .returned (.bool true) ∧ Touch (memF E) w w' := by
  obtain ⟨hL, hb⟩ := h.lists hroom 26
  exact (apartB_yes E.length w.heap.size E.length _ _ _ _ _ _ _ hN hL hb).mono fun e w' ⟨he, ht⟩ => ⟨he, touch_fam h ht⟩
theorem apartI_fam {w : World} {lo : Nat} {X : List Nat} {E : List Ent} (h : Fam w 2 lo X E) (hN : E.length ≤ 20) (hroom : ∀ x ∈ E, x.2.length ≤ 1099511627776) :
    Calls Try.prog 22 #[.slice (some ⟨w.heap.size, 0, none⟩) E.length E.length] (w.alloc (.cells (E.map (·.1)).toArray 22)) fun e w' => e = .returned (.bool true) ∧ Touch (memF E) w w' := by
  obtain ⟨hL, hb⟩ := h.lists hroom 22
  exact (apartI_yes E.length w.heap.size E.length _ _ _ _ _ _ _ hN hL hb).mono fun e w' ⟨he, ht⟩ => ⟨he, touch_fam h ht⟩
end Go.Proofs.Ytmcegcinccphbaa
