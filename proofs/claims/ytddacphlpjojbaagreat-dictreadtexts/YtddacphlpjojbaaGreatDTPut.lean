import Derived.Test.YtddacphlpjojbaaGreatDTRef
import Derived.Test.YtddacphlpjojbaaGreatQAll
import Derived.Test.YtddacphlpjojbaaGreatDPutAny
/-
  dict.PutTexts of any texts. (Written by mktextsB.py.)
-/
namespace Go.Proofs.YtddacphlpjojbaaGreat.Tx
open Go.ChangeShapes Go.WideShapes Go.ChangeAt Go.RowKit Cu
open Classical


theorem fold_len (l : List ByteArray) : ∀ ks : List ByteArray, ks.length ≤ (l.foldl addK ks).length := by
  induction l with
  | nil => intro ks; exact Nat.le_refl _
  | cons x l ih =>
    intro ks
    have h1 := ih (addK ks x)
    have h2 : ks.length ≤ (addK ks x).length := by unfold addK; split <;> simp
    simp only [List.foldl_cons]
    omega
theorem dk_take (l : List ByteArray) (k : Nat) : (dk (l.take k)).length ≤ (dk l).length := by
  conv => rhs; rw [← List.take_append_drop k l]
  unfold dk
  rw [List.foldl_append]
  exact fold_len _ _
/-- The keys of texts as bytes, and the form. -/
def keyB (l : List ByteArray) : List (List Nat) := (keysI l).map bs
def formT (l : List ByteArray) : List Nat := Cr.Cu.uv (keysI l).length ++ encT (keyB l) ++ packC (wd (keysI l).length) (codesI l)
def putTE (l : List ByteArray) : Int := if 16777216 < l.length then 3 else if 65536 < (keysI l).length then 110 else if PutOk (keyB l) then 0 else 3
def putTR (l : List ByteArray) : List Nat := if 16777216 < l.length then [] else if 65536 < (keysI l).length then [] else if PutOk (keyB l) then formT l else []
theorem keyB_len (l : List ByteArray) : (keyB l).length = (keysI l).length := List.length_map _
theorem encK_len {l : List ByteArray} (h : PutOk (keyB l)) (hK : (keysI l).length ≤ 65536) : (encT (keyB l)).length ≤ 4300000000 := by
  have h2 := h.2.2
  unfold encT endsT
  rw [List.length_append, flat_len, keyB_len]
  omega
end Go.Proofs.YtddacphlpjojbaaGreat.Tx
