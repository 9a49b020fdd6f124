/-
  What BloomMemory and BloomUnion want of memory.
-/
import Derived.Test.YthgbneadmnhhlaaNoneWalk
import Derived.Test.YthgbneadmnhhlaaCFam
namespace Go.Proofs.Ythgbneadmnhhlaa
open Go.RowKit Crc Cu Vl

/-- A value that lies in none of these blocks. -/
def Off (vs : List Value) (u : Value) : Prop := ∀ (i : Nat) (v : Value) (g : Nat), vs[i]? = some v → v.ownBlock = some g → u.ownBlock ≠ some g
theorem Off.new {w : World} {lo : Nat} {vs : List Value} {Ls : List (List Nat)} {u : Value} (h : Fam w lo vs Ls) (hu : ∀ g, u.ownBlock = some g → w.heap.size ≤ g) : Off vs u := fun i v g hv hg e => by
  have h1 := (h.lt hv hg).2
  have h2 := hu g e
  omega
theorem Off.snoc {w : World} {vs : List Value} {u v : Value} (h : Off vs u) (hu : ∀ g, u.ownBlock = some g → g < w.heap.size) (hv : ∀ g, v.ownBlock = some g → w.heap.size ≤ g) : Off (vs ++ [v]) u := fun i x g hx hg e => by
  by_cases hi : i < vs.length
  · rw [List.getElem?_append_left hi] at hx
    exact h i x g hx hg e
  · rw [List.getElem?_append_right (by omega)] at hx
    have hi2 := (List.getElem?_eq_some_iff.1 hx).1
    simp at hi2
    rw [hi2] at hx
    simp at hx
    subst hx
    have h1 := hu g e
    have h2 := hv g hg
    omega
theorem Off.keep {w w' : World} {vs : List Value} {u : Value} (h : Off vs u) (ht : Touch (fun j => ∃ (i : Nat) (v : Value), vs[i]? = some v ∧ v.ownBlock = some j) w w') (hu : ∀ g, u.ownBlock = some g → g < w.heap.size) : ∀ g, u.ownBlock = some g → w'.heap[g]? = w.heap[g]? := fun g hg =>
  ht.block g (hu g hg) fun ⟨i, v, hv, hb⟩ => h i v g hv hb hg
theorem NewL.ltB {w w' : World} {v : Value} {l : List Nat} (h : NewL w w' v l) : ∀ g, v.ownBlock = some g → w.heap.size ≤ g ∧ g < w'.heap.size := h.1.lt
/-- The filter of one is that one. -/
theorem join_one {n : Nat} (hn : isSz (n : Int) = true) {F : List Nat} (hF : F.length = n) : joinE [F] = 0 ∧ joinR [F] = F := by
  have hk : joinOk [F] = true := by simp [joinOk, hF, hn]
  unfold joinE joinR
  rw [if_pos hk, if_pos hk]
  refine ⟨rfl, ?_⟩
  show (List.range F.length).map (orA [F]) = F
  apply List.ext_getElem?
  intro j
  by_cases hj : j < F.length
  · rw [List.getElem?_map, List.getElem?_range hj, ofL_in hj]
    simp [orA]
  · rw [List.getElem?_eq_none (by simp; omega), List.getElem?_eq_none (by omega)]
theorem rwb_one {w : World} {t : TypeId} {a1 : Option Addr} {n c1 : Nat} {F : List Nat} (hF : F.length = n) (h1 : Bytes w a1 F) (z1 : a1 = none → n = 0) (hn : n ≠ 0) :
    RwB (w.alloc (.cells #[.slice a1 n c1] t)) (some ⟨w.heap.size, 0, none⟩) [F] := fun i L hi => by
  have hb := below_new w (.cells #[.slice a1 n c1] t)
  match i, hi with
  | 0, hi => simp at hi; subst hi; exact ⟨_, 0, a1, c1, rfl, by simp, by rw [hF]; exact cell_of_row _ _ _ _ _ _ (heap_alloc_new w _), h1.later hb, fun e => absurd (z1 e) hn⟩
/-- append([]byte(nil), p...). -/
theorem clone_b {w : World} {a : Option Addr} {l : List Nat} (c : Nat) (hB : Bytes w a l) (ha : a = none → l.length = 0 ∧ c = 0) (hl : l.length ≤ 140737488355328) :
    ∃ v' w', (Builtin.append_ #[24, 24] 24 #[.slice none 0 0, .slice a l.length c]).run Try.prog w = .ok v' w' ∧ NewL w w' v' l := by
  obtain ⟨v, w1, hr, ho, hb⟩ := run_appL (l := []) (c := c) (Own.nil w w.heap.size _ _ _) hB ha (by simp; omega) (Nat.le_refl _)
  exact ⟨v, w1, hr, ho, hb w (Below.refl _ _)⟩
end Go.Proofs.Ythgbneadmnhhlaa
