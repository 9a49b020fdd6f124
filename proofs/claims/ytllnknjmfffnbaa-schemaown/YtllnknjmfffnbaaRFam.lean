/-
  Many answers in memory, each in a block of its own: the law's apart of them (out of wip/plain's PFam).
-/
import Derived.Test.YtllnknjmfffnbaaGrownB
import Derived.Test.YtllnknjmfffnbaaGrownC
namespace Go.Proofs.Ytllnknjmfffnbaa
open Go.ChangeShapes Go.WideShapes Go.ChangeAt Go.RowKit

section
variable {β : Type} {f : β → List Value} {s : Nat}
structure Fam (f : β → List Value) (s : Nat) (w : World) (e : TypeId) (lo hi : Nat) (E : List (Value × List β)) : Prop where
  each : ∀ x ∈ E, OwnL f s w lo e x.1 x.2
  lt : ∀ x ∈ E, ∀ g, x.1.ownBlock = some g → g < hi
  apart : E.Pairwise (fun x y => x.1.ownBlock = none ∨ x.1.ownBlock ≠ y.1.ownBlock)
  top : hi ≤ w.heap.size
theorem Fam.nil (f : β → List Value) (s : Nat) (w : World) (e : TypeId) (lo : Nat) : Fam f s w e lo w.heap.size [] := ⟨fun x hx => (by cases hx), fun x hx => (by cases hx), List.Pairwise.nil, Nat.le_refl _⟩
theorem Fam.kept {w w' : World} {e : TypeId} {lo hi : Nat} {E : List (Value × List β)} (h : Fam f s w e lo hi E) (hk : ∀ x ∈ E, ∀ g, x.1.ownBlock = some g → w'.heap[g]? = w.heap[g]?) (hs : w.heap.size ≤ w'.heap.size) : Fam f s w' e lo hi E :=
  ⟨fun x hx => (h.each x hx).kept (hk x hx), h.lt, h.apart, Nat.le_trans h.top hs⟩
theorem Fam.later {w w' : World} {e : TypeId} {lo hi : Nat} {E : List (Value × List β)} (h : Fam f s w e lo hi E) (hb : Below w.heap.size w w') : Fam f s w' e lo hi E :=
  h.kept (fun x hx g hg => hb.block g ((h.each x hx).lt g hg).2) hb.size
theorem Fam.touch {w w' : World} {e : TypeId} {lo hi : Nat} {E : List (Value × List β)} {P : Nat → Prop} (h : Fam f s w e lo hi E) (ht : Touch P w w') (hP : ∀ x ∈ E, ∀ g, x.1.ownBlock = some g → ¬ P g) : Fam f s w' e lo hi E :=
  h.kept (fun x hx g hg => ht.block g ((h.each x hx).lt g hg).2 (hP x hx g hg)) ht.size
theorem Fam.snoc {w w' : World} {e : TypeId} {lo hi : Nat} {E : List (Value × List β)} {v : Value} {xs : List β} (h : Fam f s w e lo hi E) (hb : Below w.heap.size w w') (ho : OwnL f s w' w.heap.size e v xs) (hlo : lo ≤ w.heap.size) : Fam f s w' e lo w'.heap.size (E ++ [(v, xs)]) := by
  have h' := h.later hb
  refine ⟨fun x hx => ?_, fun x hx g hg => ?_, ?_, Nat.le_refl _⟩
  · rw [List.mem_append] at hx
    rcases hx with hx | hx
    · exact h'.each x hx
    · simp at hx; subst hx; exact OwnL.low ho hlo
  · rw [List.mem_append] at hx
    rcases hx with hx | hx
    · exact ((h'.each x hx).lt g hg).2
    · simp at hx; subst hx; exact (OwnL.lt ho g hg).2
  · rw [List.pairwise_append]
    refine ⟨h.apart, List.pairwise_singleton _ _, fun x hx y hy => ?_⟩
    simp at hy
    subst hy
    cases hxo : x.1.ownBlock with
    | none => exact .inl rfl
    | some g =>
      right
      intro hyo
      have h1 := ((h.each x hx).lt g hxo).2
      have h2 := (OwnL.lt ho g hyo.symm).1
      omega
def memF (E : List (Value × List β)) (g : Nat) : Prop := ∃ x ∈ E, x.1.ownBlock = some g
/-- A block of another kind is none of them. -/
theorem Fam.off {w : World} {e e' : TypeId} {lo hi : Nat} {E : List (Value × List β)} (h : Fam f s w e lo hi E) {b : Nat} {cur : Array Value} {fr : Nat × Nat} (hb : w.heap[b]? = some (.cells cur e' fr)) (hne : e ≠ e') : ∀ x ∈ E, ∀ g, x.1.ownBlock = some g → ¬ g = b := fun x hx g hg hgb => by
  subst hgb
  rcases (h.each x hx).2 with ⟨h0, _⟩ | ⟨g', cap, cur', hv, _, hg', _⟩
  · rw [h0] at hg; simp [Value.ownBlock] at hg
  · rw [hv] at hg
    simp [Value.ownBlock] at hg
    subst hg
    rw [hg'] at hb
    simp at hb
    exact hne hb.2.1
theorem Fam.offF {γ : Type} {f' : γ → List Value} {s' : Nat} {w : World} {e e' : TypeId} {lo hi lo' hi' : Nat} {E : List (Value × List β)} {E' : List (Value × List γ)} (h : Fam f s w e lo hi E) (h' : Fam f' s' w e' lo' hi' E') (hne : e ≠ e') : ∀ x ∈ E, ∀ g, x.1.ownBlock = some g → ¬ memF E' g := fun x hx g hg ⟨y, hy, hyg⟩ => by
  rcases (h'.each y hy).2 with ⟨h0, _⟩ | ⟨g', cap, cur', hv, _, hg', _⟩
  · rw [h0] at hyg; simp [Value.ownBlock] at hyg
  · rw [hv] at hyg
    simp [Value.ownBlock] at hyg
    subst hyg
    exact h.off hg' hne x hx g' hg rfl
def dflt : Value × List β := (.bool false, [])
def zOf (E : List (Value × List β)) (i : Nat) : Bool := ((E.getD i dflt).1.ownBlock).isNone
def gOf (E : List (Value × List β)) (i : Nat) : Nat := ((E.getD i dflt).1.ownBlock).getD 0
def nOf (E : List (Value × List β)) (i : Nat) : Nat := (E.getD i dflt).2.length
def cOf (E : List (Value × List β)) (i : Nat) : Nat := match (E.getD i dflt).1 with | .slice _ _ c => c | _ => 0
def elF (f : β → List Value) (s : Nat) (xs : List β) (j : Nat) : List Value := match xs[j]? with | some x => f x | none => List.replicate s (.bool false)
theorem elF_len (hf : ∀ x, (f x).length = s) (xs : List β) (j : Nat) : (elF f s xs j).length = s := by
  unfold elF
  split
  · exact hf _
  · simp
theorem getD_in {E : List (Value × List β)} {i : Nat} (hi : i < E.length) : E.getD i dflt ∈ E ∧ E[i]? = some (E.getD i dflt) := by
  have h : E[i]? = some E[i] := List.getElem?_eq_getElem hi
  rw [List.getD_eq_getElem?_getD, h]
  exact ⟨List.getElem_mem hi, rfl⟩
theorem own_of (hf : ∀ x, (f x).length = s) {w : World} {B : Nat} {e : TypeId} {x : Value × List β} (h : OwnL f s w B e x.1 x.2) : (x.1.ownBlock = none ∧ x.1 = .slice none 0 0 ∧ x.2 = []) ∨ ∃ g c, x.1.ownBlock = some g ∧ x.1 = .slice (some ⟨g, 0, none⟩) x.2.length c ∧ g < w.heap.size ∧ c ≤ maxLen ∧ KBlk s w g e c x.2.length (elF f s x.2) := by
  rcases h.2 with ⟨h0, h1⟩ | ⟨g, cap, cur, hv, hb, hg, hn, hm, hs, ht⟩
  · exact .inl ⟨by rw [h0]; rfl, h0, List.eq_nil_of_length_eq_zero h1⟩
  · refine .inr ⟨g, cap, by rw [hv]; rfl, hv, (Array.getElem?_eq_some_iff.1 hg).1, hm, cur, hg, hs, hn, fun j hj i u hu => ?_⟩
    have hx : x.2[j]? = some x.2[j] := List.getElem?_eq_getElem hj
    unfold elF at hu
    rw [hx] at hu
    have e1 := flat_get hf hx hu
    have hi : i < s := by rw [← hf x.2[j]]; exact (List.getElem?_eq_some_iff.1 hu).1
    have hlt : j * s + i < x.2.length * s := by
      have : (j + 1) * s ≤ x.2.length * s := Nat.mul_le_mul_right _ hj
      rw [Nat.add_mul] at this; omega
    rw [← ht, List.getElem?_take, if_pos hlt] at e1
    simpa using e1
theorem Fam.lists (hf : ∀ x, (f x).length = s) (f1 : Nat → List Value) {w : World} {e : TypeId} {lo hi : Nat} {E : List (Value × List β)} (h : Fam f s w e lo hi E) (hroom : ∀ x ∈ E, x.2.length ≤ 1099511627776) (t : TypeId) :
    Lists (w.alloc (.cells (E.map (·.1)).toArray t)) E.length w.heap.size (zOf E) (gOf E) (nOf E) (cOf E) ∧ MkS s f1 e (w.alloc (.cells (E.map (·.1)).toArray t)) (w.alloc (.cells (E.map (·.1)).toArray t)) E.length (zOf E) (gOf E) (nOf E) (cOf E) (fun i => elF f s (E.getD i dflt).2) 0 0 := by
  have hnew : (w.alloc (.cells (E.map (·.1)).toArray t)).heap[w.heap.size]? = some (.cells (E.map (·.1)).toArray t) := heap_alloc_new w _
  have hglt : ∀ i, i < E.length → zOf E i = false → gOf E i < w.heap.size ∧ (E.getD i dflt).1.ownBlock = some (gOf E i) := fun i hi hz => by
    rcases own_of hf (h.each _ (getD_in hi).1) with ⟨h0, _⟩ | ⟨g, c, ho, _, hg, _⟩
    · unfold zOf at hz; rw [h0] at hz; simp at hz
    · unfold gOf; rw [ho]; exact ⟨hg, rfl⟩
  refine ⟨⟨fun i hi => ?_, by simp, fun i hi hz => ?_, fun i j hi hj hzi hzj hG => ?_, fun i hi hz => ?_, fun i hi => ?_, fun i hi hz => ?_⟩, ⟨Touch.refl _ _, fun i hi hz => ?_, fun i q => elF_len hf _ q, fun j hj => absurd hj (by omega), fun q hq => absurd hq (by omega)⟩⟩
  · rw [cell_of_row _ _ _ _ _ _ hnew]
    have e1 : (E.map (·.1)).toArray[i]? = some (E.getD i dflt).1 := by rw [List.getElem?_toArray, List.getElem?_map, (getD_in hi).2]; rfl
    rw [e1]
    rcases own_of hf (h.each _ (getD_in hi).1) with ⟨h0, h1, h2⟩ | ⟨g, c, ho, hv, _⟩
    · unfold adr zOf nOf cOf
      rw [h0, h1, h2]
      rfl
    · unfold adr zOf gOf nOf cOf
      rw [ho, hv]
      rfl
  · have := (hglt i hi hz).1
    simp
    omega
  · have h1 := (hglt i hi hzi).2
    have h2 := (hglt j hj hzj).2
    rw [hG] at h1
    have hp := List.pairwise_iff_getElem.1 h.apart
    rcases Nat.lt_trichotomy i j with hij | hij | hij
    · have := hp i j hi hj hij
      rw [show E[i] = E.getD i dflt by simp [List.getD_eq_getElem?_getD, hi], show E[j] = E.getD j dflt by simp [List.getD_eq_getElem?_getD, hj], h1, h2] at this
      simp at this
    · exact hij
    · have := hp j i hj hi hij
      rw [show E[i] = E.getD i dflt by simp [List.getD_eq_getElem?_getD, hi], show E[j] = E.getD j dflt by simp [List.getD_eq_getElem?_getD, hj], h1, h2] at this
      simp at this
  · have := (hglt i hi hz).1
    omega
  · refine ⟨hroom _ (getD_in hi).1, ?_⟩
    rcases own_of hf (h.each _ (getD_in hi).1) with ⟨h0, h1, h2⟩ | ⟨g, c, ho, hv, _, hc, _⟩
    · unfold cOf; rw [h1]; exact Nat.zero_le _
    · unfold cOf; rw [hv]; simp only [maxLen] at hc; show c ≤ _; omega
  · rcases own_of hf (h.each _ (getD_in hi).1) with ⟨h0, h1, h2⟩ | ⟨g, c, ho, hv, _⟩
    · unfold nOf cOf; rw [h1, h2]; exact ⟨rfl, rfl⟩
    · unfold zOf at hz; rw [ho] at hz; simp at hz
  · rcases own_of hf (h.each _ (getD_in hi).1) with ⟨h0, _⟩ | ⟨g, c, ho, hv, hg, hc, hb⟩
    · unfold zOf at hz; rw [h0] at hz; simp at hz
    · unfold gOf cOf nOf
      rw [ho, hv]
      exact hb.alloc _
theorem touch_fam (hf : ∀ x, (f x).length = s) {w w' : World} {E : List (Value × List β)} {o : Obj} {e : TypeId} {lo hi : Nat} (h : Fam f s w e lo hi E) (ht : Touch (isG E.length (zOf E) (gOf E)) (w.alloc o) w') : Touch (memF E) w w' := by
  have hs : w.heap.size ≤ w'.heap.size := by have := ht.size; simp at this; omega
  refine ⟨ht.os, ht.tape, ht.output, hs, fun j hj hn => ?_⟩
  rw [ht.block j (by simp; omega) (fun ⟨i, hi', hz, hG⟩ => hn ⟨E.getD i dflt, (getD_in hi').1, ?_⟩), Below.heap_alloc _ _ _ hj]
  rcases own_of hf (h.each _ (getD_in hi').1) with ⟨h0, _⟩ | ⟨g, c, ho, _⟩
  · unfold zOf at hz; rw [h0] at hz; simp at hz
  · rw [ho, hG]; unfold gOf; rw [ho]; rfl
end
theorem grownB_fam {w : World} {lo hi : Nat} {E : List (Value × List Nat)} (h : Fam (one encB8) 1 w 5 lo hi E) (hN : E.length ≤ 20) (hroom : ∀ x ∈ E, x.2.length ≤ 1099511627776) :
    Calls Try.prog 18 #[.slice (some ⟨w.heap.size, 0, none⟩) E.length E.length] (w.alloc (.cells (E.map (·.1)).toArray 30)) fun e w' => e = .returned (.bool true) ∧ Touch (memF E) w w' := by
  obtain ⟨hL, hb⟩ := h.lists (one_len encB8) faB hroom 30
  exact (grownB E.length w.heap.size E.length _ _ _ _ _ _ hN hL hb).mono fun e w' ⟨he, ht⟩ => ⟨he, touch_fam (one_len encB8) h ht⟩
theorem grownC_fam {w : World} {lo hi : Nat} {E : List (Value × List Col)} (h : Fam cc 3 w 25 lo hi E) (hN : E.length ≤ 20) (hroom : ∀ x ∈ E, x.2.length ≤ 1099511627776) :
    Calls Try.prog 31 #[.slice (some ⟨w.heap.size, 0, none⟩) E.length E.length] (w.alloc (.cells (E.map (·.1)).toArray 22)) fun e w' => e = .returned (.bool true) ∧ Touch (memF E) w w' := by
  obtain ⟨hL, hb⟩ := h.lists cc_len faC hroom 22
  exact (grownC E.length w.heap.size E.length _ _ _ _ _ _ hN hL hb).mono fun e w' ⟨he, ht⟩ => ⟨he, touch_fam cc_len h ht⟩
end Go.Proofs.Ytllnknjmfffnbaa
