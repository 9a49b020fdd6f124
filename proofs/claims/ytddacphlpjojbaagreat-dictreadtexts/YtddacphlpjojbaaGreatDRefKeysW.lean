/-
  The document's Keys of whole numbers: the walk.
-/
import Derived.Test.YtddacphlpjojbaaGreatDRefKeys
namespace Go.Proofs.YtddacphlpjojbaaGreat
open Go.ChangeShapes Go.WideShapes Go.ChangeAt Go.RowKit Cu

theorem TwoI.later {w w' : World} {B : Nat} {v u : Value} {l m : List Int} (h : TwoI w B v l u m) (hb : Below w.heap.size w w') : TwoI w' B v l u m := ⟨h.one.later hb, h.two.later hb, h.ne⟩
theorem scan_next {x : Int} {K : List Int} {j : Nat} {y : Int} (hy : K[j]? = some y) : scanI x (K.take (j + 1)) = stepI x (scanI x (K.take j)) y := by
  rw [List.take_add_one, hy]
  exact scanI_snoc x _ y
end Go.Proofs.YtddacphlpjojbaaGreat
