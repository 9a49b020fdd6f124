/-
  holds, Test. (Written by mkhold.py.)
-/
import Derived.Test.YtnpabbaplbhejaaAVals
namespace Go.Proofs.Ytnpabbaplbhejaa
open Go.ChangeShapes Go.WideShapes Go.ChangeAt Go.RowKit Cu Vl
attribute [local go_sem] run_store_float

theorem size_list (x : ByteArray) : x.toList.length = x.size := by rw [Go.ByteArray.toList_eq]; rfl
theorem extract_list (x : ByteArray) (n : Nat) : (x.extract 0 n).toList = x.toList.take n := by
  rw [Go.ByteArray.toList_eq, Go.ByteArray.toList_eq, ByteArray.data_extract, Array.toList_extract]
  simp
theorem prf_iff {x v : ByteArray} : prfB x v = true ↔ v.toList <+: x.toList := by unfold prfB; exact List.isPrefixOf_iff_prefix
theorem prf_cut (x v : ByteArray) : ((x.extract 0 v.size).toList == v.toList) = prfB x v := by
  rw [Bool.eq_iff_iff, prf_iff, beq_iff_eq, extract_list, List.prefix_iff_eq_take, size_list]
  exact ⟨fun h => h.symm, fun h => h.symm⟩
theorem prf_long {x v : ByteArray} (h : ¬ v.size ≤ x.size) : prfB x v = false := Bool.not_eq_true _ |>.mp fun hc => by
  have := (prf_iff.1 hc).length_le
  rw [size_list, size_list] at this
  omega
end Go.Proofs.Ytnpabbaplbhejaa
