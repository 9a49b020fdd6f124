/-
  The law's known, as mathematics: its bytes and what they are read to.
-/
import Derived.Test.YtlidolocibfbgaaGreatDoorCVals
import Derived.Test.YtlidolocibfbgaaGreatDoorCSameV
import Derived.Test.YtlidolocibfbgaaGreatDoorCValu
namespace Go.Proofs.YtlidolocibfbgaaGreatDoor.Ck
open Go.ChangeShapes Go.WideShapes Go.ChangeAt Go.RowKit Rn Cu

def knL : List V := [iV 5, nullV, iV 5]
theorem kn_enc : encI knL = [3, 0, 1, 2, 1, 2, 10] := by decide
theorem kn_forms : Forms [3, 0, 1, 2, 1, 2, 10] 3 true [2] 1 [(5, 2)] where
  ex := ⟨⟨[3, 0, 1, 2, 1, 2, 10], 1, 0⟩, ⟨[3, 0, 1, 2, 1, 2, 10], 2, 0⟩, ⟨[3, 0, 1, 2, 1, 2, 10], 4, 0⟩, ⟨[3, 0, 1, 2, 1, 2, 10], 7, 0⟩, [1, 2, 10], by kernel_rfl, by kernel_rfl, by decide, by kernel_rfl, rfl, by kernel_rfl, by decide, by decide, by decide⟩
  lt := by decide
  tail := fun i hi => by
    by_cases h8 : i < 8
    · obtain rfl | rfl | rfl | rfl | rfl : i = 3 ∨ i = 4 ∨ i = 5 ∨ i = 6 ∨ i = 7 := by omega
      all_goals decide
    · have h0 : ofL [2] (i / 8) = 0 := by
        unfold ofL
        rw [List.getD_eq_getElem?_getD, List.getElem?_eq_none (by show 1 ≤ i / 8; omega)]
        rfl
      unfold Pk.bitB
      rw [h0]
      exact Nat.zero_testBit _
  cnt := by decide
  small := by decide
  nulls := .inr rfl
  le := by decide
theorem kn_rows : (List.range 3).map (rowV [(5, 2)] (Pk.bitB (ofL [2]))) = knL := by kernel_rfl
end Go.Proofs.YtlidolocibfbgaaGreatDoor.Ck
