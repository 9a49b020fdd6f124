/-
  Rows of lists. (Out of wip/cursor/URows.)
-/
import Derived.Test.YthgbneadmnhhlaaCFam
namespace Go.Proofs.Ythgbneadmnhhlaa
open Go.RowKit Cu

theorem Fam.grown {w w' : World} {lo B k : Nat} {vs : List Value} {Ls : List (List Nat)} {vm : Value} {xs : List Value} (h : Fam w lo vs Ls) (hm : w.ownsRow B 24 1 vm k xs) (hg : w.grownBy w' vm.ownBlock) : Fam w' lo vs Ls :=
  ⟨h.len, fun i v L hv hL => World.ownsRow.kept (h.own i v L hv hL) hg (rows_apart (h.own i v L hv hL) hm (by decide)), h.inj⟩
theorem row_kept {w w' : World} {B k : Nat} {e : TypeId} {v : Value} {xs : List Value} (h : w.ownsRow B e 1 v k xs) (hk : ∀ g, v.ownBlock = some g → w'.heap[g]? = w.heap[g]?) : w'.ownsRow B e 1 v k xs := by
  rcases h.2 with ⟨rfl, rfl⟩ | ⟨g, cap, cur, rfl, hb, hg, hr⟩
  · exact ⟨h.1, .inl ⟨rfl, rfl⟩⟩
  · exact ⟨h.1, .inr ⟨g, cap, cur, rfl, hb, (hk g rfl).trans hg, hr⟩⟩
theorem row_later {w w' : World} {B k : Nat} {e : TypeId} {v : Value} {xs : List Value} (h : w.ownsRow B e 1 v k xs) (hb : Below w.heap.size w w') : w'.ownsRow B e 1 v k xs := row_kept h fun g hg => hb.block g (World.ownsRow.lt h g hg).2
end Go.Proofs.Ythgbneadmnhhlaa
