/-
  The law's own functions: pick, sameTexts.
-/
import Derived.Test.YtmpogcneilaeaaaUTexts
namespace Go.Proofs.Ytmpogcneilaeaaa
open Go.RowKit Cu

def pickN (k : Int) (n : Nat) : Nat := (k % (n : Int)).toNat
theorem pickN_lt (k : Int) {n : Nat} (h : 0 < n) : pickN k n < n := by
  have h1 := Int.emod_lt_of_pos k (show (0 : Int) < (n : Int) by omega)
  have h0 := Int.emod_nonneg k (show (n : Int) ≠ 0 by omega)
  unfold pickN; omega
theorem strs_cell {w : World} {a : Option Addr} {T : List ByteArray} (h : Strs w a T) {i : Nat} (hi : i < T.length) : ∃ g o, a = some ⟨g, o, none⟩ ∧ g < w.heap.size ∧ w.cell? ⟨g, o + i, none⟩ = some (.string T[i]) := h i _ (List.getElem?_eq_getElem hi)
theorem take_next {T U : List ByteArray} {i : Nat} (h : T.take i = U.take i) (hi : i < T.length) (hj : i < U.length) (e : T[i] = U[i]) : T.take (i + 1) = U.take (i + 1) := by
  rw [List.take_add_one, List.take_add_one, h, List.getElem?_eq_getElem hi, List.getElem?_eq_getElem hj, e]
end Go.Proofs.Ytmpogcneilaeaaa
