/-
  No cell of these rows narrows 'for every input' (looked for: loops, veiled, ifaces, maps, wideKeys, modest, calm, conditions, laid).
  DERIVED. THE GIVEN ROWS OF THIS SEAT. 6 by the template 'for every input the law returns true; each argument reads behind the call as it read before'; 0 by the template 'total and deterministic' (their statements: YtjiibjbbbglpeaaTotals.lean).
  GIVEN WITH THE SEED: the statements are not yours to turn. If you find one false, say at which input.
  Laid BY PROGRAM, IN A SANDBOX (cutbox-rows.mjs): the forced cells as the released guide's own fill.sh prints them over the translation 99ecef4b5559fe73… (all of the seat's roots in one cut). By AI agents, Wed Nov 11 2026. No macro, syntax, notation, axiom, sorry.
-/
import Derived.Test.YtjiibjbbbglpeaaChecked
import GoSem.Claim
import GoSem.ClaimJoined
import GoSem.ClaimMapViews
import Derived.JoinedTies
import Derived.KernelRfl
namespace Go.Proofs.Ytjiibjbbbglpeaa
/- THE CELL 'sum', in the pinned program and in every row, IS THE sha256 OF THE DUMP (.gsa) THAT YtjiibjbbbglpeaaProg.lean LOADS. Nothing in Lean hashes anything: it is a label: what it is worth is what the hold of that sum in a sandbox is worth. -/
noncomputable def Try.pinned : Pinned := { name := "ytjiibjbbbglpeaa", sum := "99ecef4b5559fe73ad7eec06b3dc5b331c315aeeb090dc02a128ad5e87bceb65", checked := Try.checked }
namespace Rows
def none {H : Type} : Left H := { results := [], args := [] }

/-- 'colonnadelaw06.CheckStreams': WHATEVER THE INPUT: true; the input reads as it did. -/
def checkStreamsSpec : ChangeSpec := { name := "checkStreams", fn := fun _ => fun
  | [d] => { results := [.lit (.bool true)], args := [d] }
  | _ => none }
def checkStreamsRow : OpenClaim := { program := "ytjiibjbbbglpeaa", sum := "99ecef4b5559fe73ad7eec06b3dc5b331c315aeeb090dc02a128ad5e87bceb65", func := "colonnade/colonnadelaw06.CheckStreams", spec := "checkStreams", apart := false }
def CheckStreamsSaid : Prop := checkStreamsRow.holds Try.pinned (OpenSpec.ofChange checkStreamsSpec)

/-- ITS FALSE NEIGHBOUR: 'it returns false'. Refute it at one input. -/
def checkStreamsWrong : ChangeSpec := { name := "checkStreams", fn := fun _ => fun
  | [d] => { results := [.lit (.bool false)], args := [d] }
  | _ => none }
def CheckStreamsWrongFalsely : Prop := checkStreamsRow.holds Try.pinned (OpenSpec.ofChange checkStreamsWrong)

/-- 'colonnadelaw06.CheckPieces': WHATEVER THE INPUT: true; the input reads as it did. -/
def checkPiecesSpec : ChangeSpec := { name := "checkPieces", fn := fun _ => fun
  | [d] => { results := [.lit (.bool true)], args := [d] }
  | _ => none }
def checkPiecesRow : OpenClaim := { program := "ytjiibjbbbglpeaa", sum := "99ecef4b5559fe73ad7eec06b3dc5b331c315aeeb090dc02a128ad5e87bceb65", func := "colonnade/colonnadelaw06.CheckPieces", spec := "checkPieces", apart := false }
def CheckPiecesSaid : Prop := checkPiecesRow.holds Try.pinned (OpenSpec.ofChange checkPiecesSpec)

/-- ITS FALSE NEIGHBOUR: 'it returns false'. Refute it at one input. -/
def checkPiecesWrong : ChangeSpec := { name := "checkPieces", fn := fun _ => fun
  | [d] => { results := [.lit (.bool false)], args := [d] }
  | _ => none }
def CheckPiecesWrongFalsely : Prop := checkPiecesRow.holds Try.pinned (OpenSpec.ofChange checkPiecesWrong)

/-- 'colonnadelaw06.CheckLinear': WHATEVER THE INPUT: true; the input reads as it did. -/
def checkLinearSpec : ChangeSpec := { name := "checkLinear", fn := fun _ => fun
  | [d1, d2, d3] => { results := [.lit (.bool true)], args := [d1, d2, d3] }
  | _ => none }
def checkLinearRow : OpenClaim := { program := "ytjiibjbbbglpeaa", sum := "99ecef4b5559fe73ad7eec06b3dc5b331c315aeeb090dc02a128ad5e87bceb65", func := "colonnade/colonnadelaw06.CheckLinear", spec := "checkLinear", apart := false }
def CheckLinearSaid : Prop := checkLinearRow.holds Try.pinned (OpenSpec.ofChange checkLinearSpec)

/-- ITS FALSE NEIGHBOUR: 'it returns false'. Refute it at one input. -/
def checkLinearWrong : ChangeSpec := { name := "checkLinear", fn := fun _ => fun
  | [d1, d2, d3] => { results := [.lit (.bool false)], args := [d1, d2, d3] }
  | _ => none }
def CheckLinearWrongFalsely : Prop := checkLinearRow.holds Try.pinned (OpenSpec.ofChange checkLinearWrong)

/-- 'colonnadelaw06.CheckBursts': WHATEVER THE INPUT: true; the input reads as it did. -/
def checkBurstsSpec : ChangeSpec := { name := "checkBursts", fn := fun _ => fun
  | [d1, d2, d3, d4] => { results := [.lit (.bool true)], args := [d1, d2, d3, d4] }
  | _ => none }
def checkBurstsRow : OpenClaim := { program := "ytjiibjbbbglpeaa", sum := "99ecef4b5559fe73ad7eec06b3dc5b331c315aeeb090dc02a128ad5e87bceb65", func := "colonnade/colonnadelaw06.CheckBursts", spec := "checkBursts", apart := false }
def CheckBurstsSaid : Prop := checkBurstsRow.holds Try.pinned (OpenSpec.ofChange checkBurstsSpec)

/-- ITS FALSE NEIGHBOUR: 'it returns false'. Refute it at one input. -/
def checkBurstsWrong : ChangeSpec := { name := "checkBursts", fn := fun _ => fun
  | [d1, d2, d3, d4] => { results := [.lit (.bool false)], args := [d1, d2, d3, d4] }
  | _ => none }
def CheckBurstsWrongFalsely : Prop := checkBurstsRow.holds Try.pinned (OpenSpec.ofChange checkBurstsWrong)

/-- 'colonnadelaw06.CheckSpreads': WHATEVER THE INPUT: true; the input reads as it did. -/
def checkSpreadsSpec : ChangeSpec := { name := "checkSpreads", fn := fun _ => fun
  | [d1, d2, d3] => { results := [.lit (.bool true)], args := [d1, d2, d3] }
  | _ => none }
def checkSpreadsRow : OpenClaim := { program := "ytjiibjbbbglpeaa", sum := "99ecef4b5559fe73ad7eec06b3dc5b331c315aeeb090dc02a128ad5e87bceb65", func := "colonnade/colonnadelaw06.CheckSpreads", spec := "checkSpreads", apart := false }
def CheckSpreadsSaid : Prop := checkSpreadsRow.holds Try.pinned (OpenSpec.ofChange checkSpreadsSpec)

/-- ITS FALSE NEIGHBOUR: 'it returns false'. Refute it at one input. -/
def checkSpreadsWrong : ChangeSpec := { name := "checkSpreads", fn := fun _ => fun
  | [d1, d2, d3] => { results := [.lit (.bool false)], args := [d1, d2, d3] }
  | _ => none }
def CheckSpreadsWrongFalsely : Prop := checkSpreadsRow.holds Try.pinned (OpenSpec.ofChange checkSpreadsWrong)

/-- 'colonnadelaw06.CheckKept': WHATEVER THE INPUT: true; the input reads as it did. -/
def checkKeptSpec : ChangeSpec := { name := "checkKept", fn := fun _ => fun
  | [d1, d2, d3] => { results := [.lit (.bool true)], args := [d1, d2, d3] }
  | _ => none }
def checkKeptRow : OpenClaim := { program := "ytjiibjbbbglpeaa", sum := "99ecef4b5559fe73ad7eec06b3dc5b331c315aeeb090dc02a128ad5e87bceb65", func := "colonnade/colonnadelaw06.CheckKept", spec := "checkKept", apart := false }
def CheckKeptSaid : Prop := checkKeptRow.holds Try.pinned (OpenSpec.ofChange checkKeptSpec)

/-- ITS FALSE NEIGHBOUR: 'it returns false'. Refute it at one input. -/
def checkKeptWrong : ChangeSpec := { name := "checkKept", fn := fun _ => fun
  | [d1, d2, d3] => { results := [.lit (.bool false)], args := [d1, d2, d3] }
  | _ => none }
def CheckKeptWrongFalsely : Prop := checkKeptRow.holds Try.pinned (OpenSpec.ofChange checkKeptWrong)

/- THE SECOND FORM. 'bulk': how many values and letters a reading holds, each counted each time it is reached (what is shared counts as often as it is met; a slice's spare places count too). A statement '..UptoSaid' is the law's where the arguments, and the package variables that the reading takes, are together of bulk at most 1048576: NARROWER than '..Said'. Prove '..Said' where nothing that the law and all that it calls make is longer than what came in: it says more and counts as full. Else prove '..UptoSaid'. A law counts once. -/
mutual
def uptoBulk {H : Type} : DataW H → Nat
  | .lit (.string bytes) => bytes.length + 1
  | .lit _ => 1
  | .nil => 1
  | .ptr d => uptoBulk d + 1
  | .slice elems spare => uptoBulkAll elems + uptoBulkAll spare + 1
  | .agg parts => uptoBulkAll parts + 1
  | .iface _ d => uptoBulk d + 1
  | .map entries => uptoBulkEntries entries + 1
  | .held _ => 1
def uptoBulkAll {H : Type} : List (DataW H) → Nat
  | [] => 0
  | d :: r => uptoBulk d + uptoBulkAll r
def uptoBulkEntries {H : Type} : List (Lit × DataW H) → Nat
  | [] => 0
  | x :: r => uptoBulkEntry x + uptoBulkEntries r
def uptoBulkEntry {H : Type} : Lit × DataW H → Nat
  | (.string bytes, d) => bytes.length + uptoBulk d + 1
  | (_, d) => uptoBulk d + 1
 end
def uptoSmall : (H : Type) → List (DataW H) → Bool := fun _ ds => decide (uptoBulkAll ds ≤ 1048576)
def OpenSpec.upto (s : _root_.Go.ChangeSpec) : _root_.Go.OpenSpec := { _root_.Go.OpenSpec.ofChange s with cond := some uptoSmall }

/-- 'colonnadelaw06.CheckStreams', WHERE WHAT IT READS IS OF BULK AT MOST 1048576: true; the input reads as it did. -/
def checkStreamsUptoRow : OpenClaim := { program := "ytjiibjbbbglpeaa", sum := "99ecef4b5559fe73ad7eec06b3dc5b331c315aeeb090dc02a128ad5e87bceb65", func := "colonnade/colonnadelaw06.CheckStreams", spec := "checkStreams", apart := false, narrowed := true }
def CheckStreamsUptoSaid : Prop := checkStreamsUptoRow.holds Try.pinned (OpenSpec.upto checkStreamsSpec)

/-- 'colonnadelaw06.CheckPieces', WHERE WHAT IT READS IS OF BULK AT MOST 1048576: true; the input reads as it did. -/
def checkPiecesUptoRow : OpenClaim := { program := "ytjiibjbbbglpeaa", sum := "99ecef4b5559fe73ad7eec06b3dc5b331c315aeeb090dc02a128ad5e87bceb65", func := "colonnade/colonnadelaw06.CheckPieces", spec := "checkPieces", apart := false, narrowed := true }
def CheckPiecesUptoSaid : Prop := checkPiecesUptoRow.holds Try.pinned (OpenSpec.upto checkPiecesSpec)

/-- 'colonnadelaw06.CheckLinear', WHERE WHAT IT READS IS OF BULK AT MOST 1048576: true; the input reads as it did. -/
def checkLinearUptoRow : OpenClaim := { program := "ytjiibjbbbglpeaa", sum := "99ecef4b5559fe73ad7eec06b3dc5b331c315aeeb090dc02a128ad5e87bceb65", func := "colonnade/colonnadelaw06.CheckLinear", spec := "checkLinear", apart := false, narrowed := true }
def CheckLinearUptoSaid : Prop := checkLinearUptoRow.holds Try.pinned (OpenSpec.upto checkLinearSpec)

/-- 'colonnadelaw06.CheckBursts', WHERE WHAT IT READS IS OF BULK AT MOST 1048576: true; the input reads as it did. -/
def checkBurstsUptoRow : OpenClaim := { program := "ytjiibjbbbglpeaa", sum := "99ecef4b5559fe73ad7eec06b3dc5b331c315aeeb090dc02a128ad5e87bceb65", func := "colonnade/colonnadelaw06.CheckBursts", spec := "checkBursts", apart := false, narrowed := true }
def CheckBurstsUptoSaid : Prop := checkBurstsUptoRow.holds Try.pinned (OpenSpec.upto checkBurstsSpec)

/-- 'colonnadelaw06.CheckSpreads', WHERE WHAT IT READS IS OF BULK AT MOST 1048576: true; the input reads as it did. -/
def checkSpreadsUptoRow : OpenClaim := { program := "ytjiibjbbbglpeaa", sum := "99ecef4b5559fe73ad7eec06b3dc5b331c315aeeb090dc02a128ad5e87bceb65", func := "colonnade/colonnadelaw06.CheckSpreads", spec := "checkSpreads", apart := false, narrowed := true }
def CheckSpreadsUptoSaid : Prop := checkSpreadsUptoRow.holds Try.pinned (OpenSpec.upto checkSpreadsSpec)

/-- 'colonnadelaw06.CheckKept', WHERE WHAT IT READS IS OF BULK AT MOST 1048576: true; the input reads as it did. -/
def checkKeptUptoRow : OpenClaim := { program := "ytjiibjbbbglpeaa", sum := "99ecef4b5559fe73ad7eec06b3dc5b331c315aeeb090dc02a128ad5e87bceb65", func := "colonnade/colonnadelaw06.CheckKept", spec := "checkKept", apart := false, narrowed := true }
def CheckKeptUptoSaid : Prop := checkKeptUptoRow.holds Try.pinned (OpenSpec.upto checkKeptSpec)

end Rows
end Go.Proofs.Ytjiibjbbbglpeaa
