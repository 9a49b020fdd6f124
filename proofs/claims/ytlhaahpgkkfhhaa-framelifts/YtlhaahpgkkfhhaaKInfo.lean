/-
  THE ELEMENT TYPES.
-/
import Derived.Test.YtlhaahpgkkfhhaaKBelow
namespace Go.Proofs.Ytlhaahpgkkfhhaa.Pk
open Go.RowKit


theorem infoU32 : (Try.prog.info? 58).map (fun i => (i.zero, i.size, i.bytes)) = some (some (.int .u32 0), 1, 4) := by kernel_rfl
theorem infoU64 : (Try.prog.info? 22).map (fun i => (i.zero, i.size, i.bytes)) = some (some (.int .u64 0), 1, 8) := by kernel_rfl

def mark100 (j : Nat) : Nat := 100 + j
end Go.Proofs.Ytlhaahpgkkfhhaa.Pk
