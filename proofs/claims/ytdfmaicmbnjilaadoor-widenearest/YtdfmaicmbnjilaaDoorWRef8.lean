/-
  The document's numbers: Power.
-/
import Derived.Test.YtdfmaicmbnjilaaDoorWRef7
import Derived.Test.YtdfmaicmbnjilaaDoorWRef5
namespace Go.Proofs.YtdfmaicmbnjilaaDoor
open Go.RowKit Wd

theorem pow_top {b : Nat} (h : b ≤ 383) : 1 * 2 ^ b < top24 := by
  rw [Nat.one_mul]
  refine Nat.lt_of_lt_of_le (Nat.pow_lt_pow_right (by decide) (show b < 16 * 24 by omega)) ?_
  rw [pow16 24 _ rfl]
  exact Nat.le_refl _
theorem fld0 (g : Nat) (b : Bool) (w : World) : (Instr.field 38 (.agg #[.slice (some ⟨g, 0, none⟩) 24 24, .bool b]) 0).run Tryd.prog w = .ok (.slice (some ⟨g, 0, none⟩) 24 24) w := by kernel_rfl
end Go.Proofs.YtdfmaicmbnjilaaDoor
