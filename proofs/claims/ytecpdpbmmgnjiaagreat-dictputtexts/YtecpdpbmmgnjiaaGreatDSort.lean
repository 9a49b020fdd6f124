/-
  slices.Sort of whole numbers, out of the shelf (mkshelf.sh lays it ahead).
-/
import Derived.Test.YtecpdpbmmgnjiaaGreatShelf
import Derived.Test.YtecpdpbmmgnjiaaGreatDRow
import Derived.Sort.OwnSortedInts
namespace Go.Proofs.YtecpdpbmmgnjiaaGreat
open Go.ChangeShapes Go.WideShapes Go.ChangeAt Go.RowKit Cu

def sortI (l : List Int) : List Int := l.mergeSort fun x y => decide (x ≤ y)
theorem sortI_perm (l : List Int) : (sortI l).Perm l := List.mergeSort_perm l _
theorem sortI_len (l : List Int) : (sortI l).length = l.length := (sortI_perm l).length_eq
theorem sortI_mem (l : List Int) (x : Int) : x ∈ sortI l ↔ x ∈ l := (sortI_perm l).mem_iff
theorem sortI_rise (l : List Int) : (sortI l).Pairwise (· ≤ ·) := by
  have h := List.pairwise_mergeSort (le := fun x y : Int => decide (x ≤ y)) (fun a b c h1 h2 => by simp at *; omega) (fun a b => by simp; omega) l
  exact h.imp (fun h => by simpa using h)
theorem sort_any (g c : Nat) (ss : List Int) (B : Nat) (w : World) (h : w.ownsRow B 2 1 (.slice (some ⟨g, 0, none⟩) ss.length c) (ivals ss).length (ivals ss)) (hl : ss.length ≤ 1099511627776) :
    Calls Tryz.prog 47 #[.slice (some ⟨g, 0, none⟩) ss.length c] w fun e w' => e = .returned (.tuple #[]) ∧ w'.ownsRow B 2 1 (.slice (some ⟨g, 0, none⟩) ss.length c) (ivals (sortI ss)).length (ivals (sortI ss)) ∧ w.grownBy w' (some g) := by
  have hil : (ivals ss).length = ss.length := by unfold ivals; rw [List.length_map]
  rcases h.2 with ⟨h0, _⟩ | ⟨g', cap, cur, hv, hb, hg, hn, hm, hs, ht⟩
  · cases h0
  simp only [Value.slice.injEq, Option.some.injEq, Addr.mk.injEq, and_true] at hv
  obtain ⟨rfl, -, rfl⟩ := hv
  rw [hil] at hn ht
  rw [Nat.mul_one] at ht
  have hc := AnyG.slices_Sort_int laidSort g 0 c ss w (holds_of_blockI hg ht) (Array.getElem?_eq_some_iff.1 hg).1 (by omega)
  change Calls Tryz.prog 47 _ _ _ at hc
  refine hc.mono ?_
  rintro e w' ⟨rfl, n, os, rfl⟩
  refine ⟨rfl, ?_, grownBy_sortedI _⟩
  have := ownsRow_sortedI (n := n) (os := os) (ts := sortI ss) (ss := ss) (sortI_len ss) hb hg hn hm hs
  have e : (ivals (sortI ss)).length = ss.length := by unfold ivals; rw [List.length_map, sortI_len]
  rw [e]
  exact this
end Go.Proofs.YtecpdpbmmgnjiaaGreat
