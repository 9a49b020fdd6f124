/-
  The program's own PutTexts, whole.
-/
import Derived.Test.YtmmdncpiidglcaaPPutT
namespace Go.Proofs.Ytmmdncpiidglcaa
open Go.ChangeShapes Go.WideShapes Go.ChangeAt Go.RowKit Cu

/-- What stands in the block when i texts have been put. -/
def putL (U : List (List Nat)) (i : Nat) : List Nat := flat 4 (sumT U) (i + 1) ++ List.replicate (4 * (U.length - i)) 0 ++ ((U.take i).flatten ++ List.replicate (U.flatten.length - sumT U i) 0)
theorem putL_len {U : List (List Nat)} {i : Nat} (hi : i ≤ U.length) : (putL U i).length = 4 * (U.length + 1) + U.flatten.length := by
  have h1 := sumT_le U i
  have h2 : (U.take i).flatten.length = sumT U i := rfl
  unfold putL
  simp only [List.length_append, List.length_replicate, flat_len, h2]
  omega
theorem putL_zero (U : List (List Nat)) : putL U 0 = List.replicate (4 * (U.length + 1) + U.flatten.length) 0 := by
  unfold putL
  rw [flat_succ, flat_zero, List.nil_append, sumT_zero, List.take_zero, List.flatten_nil, List.nil_append]
  have e : fx 4 0 = List.replicate 4 0 := rfl
  rw [e, List.replicate_append_replicate, List.replicate_append_replicate]
  congr 1
  omega
theorem putL_all (U : List (List Nat)) : putL U U.length = encT U := by
  unfold putL encT endsT
  rw [Nat.sub_self, sumT_all, Nat.sub_self, List.take_of_length_le (Nat.le_refl _)]
  simp
/-- The text, then the end. -/
theorem putL_step {U : List (List Nat)} {i : Nat} {p : List Nat} (hp : U[i]? = some p) : splc (splc (putL U i) (4 * (U.length + 1) + sumT U i) p) (4 * (i + 1)) (fx 4 (sumT U (i + 1))) = putL U (i + 1) := by
  have hi := (List.getElem?_eq_some_iff.1 hp).1
  have h1 := sumT_le U (i + 1)
  have h2 : (U.take i).flatten.length = sumT U i := rfl
  have h3 := sumT_succ U i p hp
  have e1 : splc (putL U i) (4 * (U.length + 1) + sumT U i) p = flat 4 (sumT U) (i + 1) ++ List.replicate (4 * (U.length - i)) 0 ++ ((U.take (i + 1)).flatten ++ List.replicate (U.flatten.length - sumT U (i + 1)) 0) := by
    have hA : (flat 4 (sumT U) (i + 1) ++ List.replicate (4 * (U.length - i)) 0).length = 4 * (U.length + 1) := by
      rw [List.length_append, flat_len, List.length_replicate]; omega
    unfold splc putL
    generalize flat 4 (sumT U) (i + 1) ++ List.replicate (4 * (U.length - i)) 0 = A at *
    rw [← flat_take_next hp]
    generalize (U.take i).flatten = Q at *
    have e2 : (A ++ (Q ++ List.replicate (U.flatten.length - sumT U i) 0)).take (4 * (U.length + 1) + sumT U i) = A ++ Q := by
      rw [← List.append_assoc]
      exact List.take_left' (by rw [List.length_append, hA, h2])
    have e3 : (A ++ (Q ++ List.replicate (U.flatten.length - sumT U i) 0)).drop (4 * (U.length + 1) + sumT U i + p.length) = List.replicate (U.flatten.length - sumT U (i + 1)) 0 := by
      rw [← List.append_assoc, List.drop_append, List.length_append, hA, h2, List.drop_of_length_le (by rw [List.length_append, hA, h2]; omega), List.nil_append, Nat.add_sub_cancel_left, List.drop_replicate, h3]
      congr 1
      omega
    rw [e2, e3]
    simp
  rw [e1]
  unfold splc putL
  generalize (U.take (i + 1)).flatten ++ List.replicate (U.flatten.length - sumT U (i + 1)) 0 = Z
  have hF : (flat 4 (sumT U) (i + 1)).length = 4 * (i + 1) := flat_len _ _ _
  rw [flat_succ 4 (sumT U) (i + 1), fx_len]
  generalize flat 4 (sumT U) (i + 1) = F at *
  rw [List.append_assoc, List.append_assoc, List.take_left' hF, List.drop_append, hF, List.drop_of_length_le (by omega), List.nil_append, show 4 * (i + 1) + 4 - 4 * (i + 1) = 4 by omega, List.drop_append, List.drop_replicate, List.length_replicate, show 4 - 4 * (U.length - i) = 0 by omega, List.drop_zero]
  rw [List.append_assoc, show 4 * (U.length - i) - 4 = 4 * (U.length - (i + 1)) by omega]
  simp
theorem copy_str {w : World} {g o : Nat} {L : List Nat} {s : ByteArray} {dl dc : Nat} (h : FB w g L) (hfit : o + s.size ≤ L.length) (hl : s.size ≤ dl) :
    (Builtin.copy_ #[22, 9] 3 #[.slice (some ⟨g, o, none⟩) dl dc, .string s]).run Try.prog w = .ok (goInt s.size) (w.setRow g (bcells (splc L o (bs s)))) := by
  have e := Lib.run_copy_row_string (P := Try.prog) w 22 9 3 5 g o dl dc s (bcells L) 5 Try.underlying22 sizeU8 h hl (by rw [bcells_size]; exact hfit)
  rw [e]
  congr 2
  unfold splc bcells bs
  simp only [List.map_append, List.map_take, List.map_drop, List.length_map]
  congr 2
  simp [Lib.byteCells]
theorem splc_nil (L : List Nat) (o : Nat) : splc L o [] = L := by unfold splc; simp
end Go.Proofs.Ytmmdncpiidglcaa
