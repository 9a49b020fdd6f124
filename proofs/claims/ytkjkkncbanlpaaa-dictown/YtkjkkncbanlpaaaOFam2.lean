/-
  The law's grownInts, grownBytes, grownCodes of a family of answers. (Written by mkgrownD.py.)
-/
import Derived.Test.YtkjkkncbanlpaaaOFam
import Derived.Test.YtkjkkncbanlpaaaOGrI
import Derived.Test.YtkjkkncbanlpaaaOGrB
import Derived.Test.YtkjkkncbanlpaaaOGrC
namespace Go.Proofs.Ytkjkkncbanlpaaa.Ow
open Go.RowKit Cu

theorem grownI_fam {w : World} {lo hi : Nat} {E : List (Value × List Value)} (h : Fam w 2 lo hi E) (hN : E.length ≤ 20) (hroom : ∀ x ∈ E, x.2.length ≤ 1099511627776) :
    Calls Try.prog 10 #[.slice (some ⟨w.heap.size, 0, none⟩) E.length E.length] (w.alloc (.cells (E.map (·.1)).toArray 22)) fun e w' => e = .returned (.bool true) ∧ Touch (memF E) w w' := by
  obtain ⟨hL, hb⟩ := h.lists hroom 22
  exact (grownI_yes E.length w.heap.size E.length _ _ _ _ _ _ hN hL hb).mono fun e w' ⟨he, ht⟩ => ⟨he, touch_fam h ht⟩
theorem grownB_fam {w : World} {lo hi : Nat} {E : List (Value × List Value)} (h : Fam w 5 lo hi E) (hN : E.length ≤ 20) (hroom : ∀ x ∈ E, x.2.length ≤ 1099511627776) :
    Calls Try.prog 11 #[.slice (some ⟨w.heap.size, 0, none⟩) E.length E.length] (w.alloc (.cells (E.map (·.1)).toArray 28)) fun e w' => e = .returned (.bool true) ∧ Touch (memF E) w w' := by
  obtain ⟨hL, hb⟩ := h.lists hroom 28
  exact (grownB_yes E.length w.heap.size E.length _ _ _ _ _ _ hN hL hb).mono fun e w' ⟨he, ht⟩ => ⟨he, touch_fam h ht⟩
theorem grownC_fam {w : World} {lo hi : Nat} {E : List (Value × List Value)} (h : Fam w 58 lo hi E) (hN : E.length ≤ 20) (hroom : ∀ x ∈ E, x.2.length ≤ 1099511627776) :
    Calls Try.prog 12 #[.slice (some ⟨w.heap.size, 0, none⟩) E.length E.length] (w.alloc (.cells (E.map (·.1)).toArray 25)) fun e w' => e = .returned (.bool true) ∧ Touch (memF E) w w' := by
  obtain ⟨hL, hb⟩ := h.lists hroom 25
  exact (grownC_yes E.length w.heap.size E.length _ _ _ _ _ _ hN hL hb).mono fun e w' ⟨he, ht⟩ => ⟨he, touch_fam h ht⟩
end Go.Proofs.Ytkjkkncbanlpaaa.Ow
