/-
  The document's own functions of chapter 7: numbers of a width, blocks, texts.
-/
import Derived.Test.YtjphnkjikemghaaURef
import Derived.Test.YtjphnkjikemghaaUStr
import Derived.Test.YtjphnkjikemghaaUAbs
namespace Go.Proofs.Ytjphnkjikemghaa
open Go.RowKit Cu

theorem fx_snoc (i v : Nat) : fx (i + 1) v = fx i v ++ [v / 256 ^ i % 256] := by
  apply List.ext_getElem?
  intro j
  by_cases h : j < i
  · rw [fx_get _ _ _ (by omega), List.getElem?_append_left (by rw [fx_len]; exact h), fx_get _ _ _ h]
  · by_cases h2 : j = i
    · subst h2
      rw [fx_get _ _ _ (by omega), List.getElem?_append_right (by rw [fx_len]; omega), fx_len]
      simp
    · rw [List.getElem?_eq_none (by rw [fx_len]; omega), List.getElem?_eq_none (by rw [List.length_append, fx_len]; simp; omega)]
/-- Bytes from B on, owned: how PutTexts goes on. -/
theorem encBs_take (T : List (List Nat)) (i : Nat) (p : List Nat) (h : T[i]? = some p) : encBs (T.take (i + 1)) = encBs (T.take i) ++ encB p := by
  rw [List.take_add_one, h]
  simp [encBs]
theorem encBs_le (T : List (List Nat)) (i : Nat) : (encBs (T.take i)).length ≤ (encBs T).length := by
  conv => rhs; rw [← List.take_append_drop i T]
  unfold encBs
  rw [List.flatMap_append, List.length_append]
  omega
theorem encBs_next (T : List (List Nat)) (i : Nat) (p : List Nat) (h : T[i]? = some p) : (encBs (T.take i)).length + p.length ≤ (encBs T).length := by
  have h1 := encBs_le T (i + 1)
  rw [encBs_take T i p h, List.length_append] at h1
  unfold encB at h1
  rw [List.length_append] at h1
  omega
end Go.Proofs.Ytjphnkjikemghaa
