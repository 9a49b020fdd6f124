/-
  THE ELEMENT TYPES.
-/
import Derived.Test.YtijoamhfmophmabBelow
namespace Go.Proofs.Ytijoamhfmophmab
open Go.RowKit

theorem infoU16 : (Try.prog.info? 48).map (fun i => (i.zero, i.size, i.bytes)) = some (some (.int .u16 0), 1, 2) := by kernel_rfl
theorem infoU32 : (Try.prog.info? 66).map (fun i => (i.zero, i.size, i.bytes)) = some (some (.int .u32 0), 1, 4) := by kernel_rfl
theorem infoU64 : (Try.prog.info? 28).map (fun i => (i.zero, i.size, i.bytes)) = some (some (.int .u64 0), 1, 8) := by kernel_rfl

def mark100 (j : Nat) : Nat := 100 + j
end Go.Proofs.Ytijoamhfmophmab
