/-
  slices.Sort of texts, out of the shelf. (Written by mktextsB.py.)
-/
import Derived.Test.YtcbkoeagfhpghaaGreatDTx
import Derived.Test.YtcbkoeagfhpghaaGreatDSort
import Derived.Test.YtcbkoeagfhpghaaGreatShelfT
import Derived.Sort.OwnSorted
namespace Go.Proofs.YtcbkoeagfhpghaaGreat.Tx
open Go.ChangeShapes Go.WideShapes Go.ChangeAt Go.RowKit Cu
open Classical

def leP (x y : ByteArray) : Prop := leT x y = true
def sortI (l : List ByteArray) : List ByteArray := l.mergeSort fun x y => leT x y
theorem sortI_perm (l : List ByteArray) : (sortI l).Perm l := List.mergeSort_perm l _
theorem sortI_len (l : List ByteArray) : (sortI l).length = l.length := (sortI_perm l).length_eq
theorem sortI_mem (l : List ByteArray) (x : ByteArray) : x ∈ sortI l ↔ x ∈ l := (sortI_perm l).mem_iff
theorem leT_list (x y : ByteArray) : leT x y = decide (x.toList ≤ y.toList) := by
  rw [Bool.eq_iff_iff, leT_iff, tlt_iff, decide_eq_true_eq, List.not_lt]
theorem sortI_rise (l : List ByteArray) : (sortI l).Pairwise leP := by
  have h := List.pairwise_mergeSort (le := fun x y : ByteArray => leT x y) (fun a b c h1 h2 => by rw [leT_list] at *; simp at *; exact List.le_trans h1 h2) (fun a b => by rw [leT_list, leT_list]; simp; exact List.le_total _ _) l
  exact h
theorem leP_antisymm {x y : ByteArray} (h : leP x y) (k : leP y x) : x = y := by
  unfold leP at h k
  rw [leT_list] at h k
  simp at h k
  exact toList_inj (List.le_antisymm h k)
theorem leP_of_tlt {x y : ByteArray} (h : tlt x y) : leP x y := leT_of_tlt h
theorem sort_map (l : List ByteArray) : (l.map ByteArray.toList).mergeSort (fun x y => decide (x ≤ y)) = (sortI l).map ByteArray.toList := by
  have hp : ((l.map ByteArray.toList).mergeSort (fun x y => decide (x ≤ y))).Perm ((sortI l).map ByteArray.toList) := (List.mergeSort_perm _ _).trans ((sortI_perm l).map _).symm
  have h1 := List.pairwise_mergeSort (le := fun x y : List UInt8 => decide (x ≤ y)) (fun a b c h1 h2 => by simp at *; exact List.le_trans h1 h2) (fun a b => by simp; exact List.le_total _ _) (l.map ByteArray.toList)
  have h2 : ((sortI l).map ByteArray.toList).Pairwise (fun x y => decide (x ≤ y) = true) := by
    rw [List.pairwise_map]
    exact (sortI_rise l).imp fun {a b} h => by have : leT a b = true := h; rwa [leT_list] at this
  exact hp.eq_of_pairwise (fun a b _ _ hab hba => by simp at hab hba; exact List.le_antisymm hab hba) h1 h2
theorem encs (l : List ByteArray) : (l.map ByteArray.toList).map encStr = svals l := by
  unfold svals
  rw [List.map_map]
  refine List.map_congr_left fun x _ => ?_
  simp only [Function.comp_apply, Go.ByteArray.toList_eq]
theorem sort_any (g c : Nat) (ss : List ByteArray) (B : Nat) (w : World) (h : w.ownsRow B 9 1 (.slice (some ⟨g, 0, none⟩) ss.length c) (svals ss).length (svals ss)) (hl : ss.length ≤ 1099511627776) :
    Calls Tryz.prog 27 #[.slice (some ⟨g, 0, none⟩) ss.length c] w fun e w' => e = .returned (.tuple #[]) ∧ w'.ownsRow B 9 1 (.slice (some ⟨g, 0, none⟩) ss.length c) (svals (sortI ss)).length (svals (sortI ss)) ∧ w.grownBy w' (some g) := by
  have hil : (svals ss).length = ss.length := by unfold svals; rw [List.length_map]
  have hll : (ss.map ByteArray.toList).length = ss.length := List.length_map _
  rcases h.2 with ⟨h0, _⟩ | ⟨g', cap, cur, hv, hb, hg, hn, hm, hs, ht⟩
  · cases h0
  simp only [Value.slice.injEq, Option.some.injEq, Addr.mk.injEq, and_true] at hv
  obtain ⟨rfl, -, rfl⟩ := hv
  rw [hil] at hn ht
  rw [Nat.mul_one] at ht
  have hc := AnyG.slices_Sort_string laidSortT g 0 c (ss.map ByteArray.toList) w (holds_of_block hg (by rw [hll, encs]; exact ht)) (Array.getElem?_eq_some_iff.1 hg).1 (by rw [hll]; omega)
  rw [hll] at hc
  change Calls Tryz.prog 27 _ _ _ at hc
  refine hc.mono ?_
  rintro e w' ⟨rfl, n, os, rfl⟩
  refine ⟨rfl, ?_, grownBy_sorted _⟩
  rw [sort_map]
  have := ownsRow_sorted (n := n) (os := os) (ts := (sortI ss).map ByteArray.toList) (ss := ss.map ByteArray.toList) (by rw [List.length_map, List.length_map, sortI_len]) hb hg (by rw [hll]; exact hn) hm hs
  have e : (svals (sortI ss)).length = ss.length := by unfold svals; rw [List.length_map, sortI_len]
  rw [encs, hll] at this
  rw [e]
  exact this
end Go.Proofs.YtcbkoeagfhpghaaGreat.Tx
