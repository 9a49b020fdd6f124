/-
  The law's same, lent, kept.
-/
import Derived.Test.YtokcmioipdennaaRMem
namespace Go.Proofs.Ytokcmioipdennaa
open Go.ChangeShapes Go.WideShapes Go.ChangeAt Go.RowKit Rn

theorem infoLByte : (Try.prog.info? 5).map (fun i => (i.zero, i.size, i.bytes)) = some (some (.int .u8 0), 1, 1) := by kernel_rfl
theorem lenByte (x : Nat) : ((one encB8) x).length = 1 := rfl
theorem cellLByte (x : Nat) : ∀ u ∈ (one encB8) x, u.oneCell' = true := one_cell (fun _ => rfl) x
end Go.Proofs.Ytokcmioipdennaa
