/-
  The document's own functions of chapter 8: texts put.
-/
import Derived.Test.YtmmdncpiidglcaaPTwo
namespace Go.Proofs.Ytmmdncpiidglcaa
open Go.ChangeShapes Go.WideShapes Go.ChangeAt Go.RowKit Cu

def putE (T : List (List Nat)) : Nat := if PutOk T then 0 else 3
def putR (T : List (List Nat)) : List Nat := if PutOk T then encT T else []
theorem put_yes {T : List (List Nat)} (h : PutOk T) : putE T = 0 ∧ putR T = encT T := ⟨if_pos h, if_pos h⟩
theorem put_no {T : List (List Nat)} (h : ¬ PutOk T) : putE T = 3 ∧ putR T = [] := ⟨if_neg h, if_neg h⟩
/-- So far it may be put. -/
def OkTo (U : List (List Nat)) (i : Nat) : Prop := (∀ p ∈ U.take i, p.length ≤ 65535) ∧ sumT U i ≤ 4294967295
theorem okTo_zero (U : List (List Nat)) : OkTo U 0 := ⟨fun p hp => by simp at hp, by rw [sumT_zero]; omega⟩
theorem okTo_next {U : List (List Nat)} {i : Nat} {p : List Nat} (h : OkTo U i) (hp : U[i]? = some p) (h1 : p.length ≤ 65535) (h2 : sumT U i + p.length ≤ 4294967295) : OkTo U (i + 1) := by
  refine ⟨fun q hq => ?_, by rw [sumT_succ U i p hp]; exact h2⟩
  rw [List.take_add_one, hp] at hq
  cases List.mem_append.1 hq with
  | inl h3 => exact h.1 q h3
  | inr h3 => simp at h3; rw [h3]; exact h1
theorem okTo_all {U : List (List Nat)} (h : OkTo U U.length) (hl : U.length ≤ 16777216) : PutOk U := by
  refine ⟨hl, fun p hp => h.1 p (by rw [List.take_of_length_le (Nat.le_refl _)]; exact hp), ?_⟩
  have := h.2
  rwa [sumT_all] at this
theorem not_long {U : List (List Nat)} {i : Nat} {p : List Nat} (hp : U[i]? = some p) (h1 : 65535 < p.length) : ¬ PutOk U := fun h => by
  have := h.2.1 p (List.mem_of_getElem? hp)
  omega
theorem not_sum {U : List (List Nat)} {i : Nat} {p : List Nat} (hp : U[i]? = some p) (h1 : 4294967295 < sumT U i + p.length) : ¬ PutOk U := fun h => by
  have h2 := sumT_le U (i + 1)
  rw [sumT_succ U i p hp] at h2
  have := h.2.2
  omega
theorem flat_take_next {U : List (List Nat)} {i : Nat} {p : List Nat} (hp : U[i]? = some p) : (U.take i).flatten ++ p = (U.take (i + 1)).flatten := by
  rw [List.take_add_one, hp, List.flatten_append]
  simp
theorem map_get {T : List ByteArray} {i : Nat} {s : ByteArray} (h : T[i]? = some s) : (T.map bs)[i]? = some (bs s) := by simp [h]
end Go.Proofs.Ytmmdncpiidglcaa
