/-
  The law's grownTexts, grownBytes of a family of answers. (Written by mkgrownT.py.)
-/
import Derived.Test.YtcbmhpdhbmjocaaGreatOFam
import Derived.Test.YtcbmhpdhbmjocaaGreatOGrB
import Derived.Test.YtcbmhpdhbmjocaaGreatOGrS
namespace Go.Proofs.YtcbmhpdhbmjocaaGreat.Ow
open Go.RowKit Cu

theorem grownS_fam {w : World} {lo hi : Nat} {E : List (Value × List Value)} (h : Fam w 9 lo hi E) (hN : E.length ≤ 20) (hroom : ∀ x ∈ E, x.2.length ≤ 1099511627776) :
    Calls Tryz.prog 12 #[.slice (some ⟨w.heap.size, 0, none⟩) E.length E.length] (w.alloc (.cells (E.map (·.1)).toArray 22)) fun e w' => e = .returned (.bool true) ∧ Touch (memF E) w w' := by
  obtain ⟨hL, hb⟩ := h.lists hroom 22
  exact (grownS_yes E.length w.heap.size E.length _ _ _ _ _ _ hN hL hb).mono fun e w' ⟨he, ht⟩ => ⟨he, touch_fam h ht⟩
theorem grownB_fam {w : World} {lo hi : Nat} {E : List (Value × List Value)} (h : Fam w 5 lo hi E) (hN : E.length ≤ 20) (hroom : ∀ x ∈ E, x.2.length ≤ 1099511627776) :
    Calls Tryz.prog 13 #[.slice (some ⟨w.heap.size, 0, none⟩) E.length E.length] (w.alloc (.cells (E.map (·.1)).toArray 29)) fun e w' => e = .returned (.bool true) ∧ Touch (memF E) w w' := by
  obtain ⟨hL, hb⟩ := h.lists hroom 29
  exact (grownB_yes E.length w.heap.size E.length _ _ _ _ _ _ hN hL hb).mono fun e w' ⟨he, ht⟩ => ⟨he, touch_fam h ht⟩
end Go.Proofs.YtcbmhpdhbmjocaaGreat.Ow
