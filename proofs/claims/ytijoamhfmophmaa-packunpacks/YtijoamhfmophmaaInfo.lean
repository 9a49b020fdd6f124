/-
  THE ELEMENT TYPES.
-/
import Derived.Test.YtijoamhfmophmaaBelow
namespace Go.Proofs.Ytijoamhfmophmaa
open Go.RowKit

theorem infoU16 : (Try.prog.info? 33).map (fun i => (i.zero, i.size, i.bytes)) = some (some (.int .u16 0), 1, 2) := by kernel_rfl
theorem infoU32 : (Try.prog.info? 34).map (fun i => (i.zero, i.size, i.bytes)) = some (some (.int .u32 0), 1, 4) := by kernel_rfl
theorem infoU64 : (Try.prog.info? 22).map (fun i => (i.zero, i.size, i.bytes)) = some (some (.int .u64 0), 1, 8) := by kernel_rfl
theorem infoTall : (Try.prog.info? 35).map (fun i => (i.zero, i.size, i.bytes)) = some (some (.int .u16 0), 1, 2) := by kernel_rfl
def mark100 (j : Nat) : Nat := 100 + j
end Go.Proofs.Ytijoamhfmophmaa
