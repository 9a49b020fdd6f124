/-
  SMALL LAWS ON WORLDS.
-/
import Derived.Test.YtlhaahpgkkfhhaaKLentB
import Derived.Deep.QuietTactic
namespace Go.Proofs.Ytlhaahpgkkfhhaa.Pk
open Go.RowKit

theorem below_drewN {B : Nat} {a w : World} (h : Below B a w) (j : Nat) : Below B a (w.drewN j) := ⟨h.os, h.tape, h.output, h.size, h.block⟩
theorem Nums.same {w w' : World} {k : IntKind} {a0 : Option Addr} {n : Nat} {L : Nat → Nat} (h : Nums w k a0 n L) (he : w'.heap = w.heap) : Nums w' k a0 n L := fun j hj => by
  obtain ⟨g, o, e, hg, hc⟩ := h j hj
  exact ⟨g, o, e, by rw [he]; exact hg, by rw [World.cell?_of_block (w := w) (by rw [he])]; exact hc⟩
theorem Blk.same {w w' : World} {g : Nat} {e : TypeId} {k : IntKind} {c m : Nat} {L : Nat → Nat} (h : Blk w g e k c m L) (he : w'.heap = w.heap) : Blk w' g e k c m L := h.kept (by rw [he])

theorem Blk.numsCat {w : World} {g : Nat} {e : TypeId} {k : IntKind} {c n m : Nat} {L M : Nat → Nat} (h : Blk w g e k c (n + m) (cat n L M)) : Nums w k (some ⟨g, 0, none⟩) n L := fun j hj =>
  ⟨g, 0, rfl, h.lt, by rw [Nat.zero_add, h.cell (by omega), cat_in hj]⟩
/-- Some bytes: each below 256, none behind the last one. -/
def Byt (n : Nat) (B : Nat → Nat) : Prop := (∀ j, B j < 256) ∧ ∀ j, n ≤ j → B j = 0
end Go.Proofs.Ytlhaahpgkkfhhaa.Pk
