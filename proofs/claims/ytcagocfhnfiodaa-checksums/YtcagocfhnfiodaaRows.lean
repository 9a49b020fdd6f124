/-
  No cell of these rows narrows 'for every input' (looked for: loops, veiled, ifaces, maps, wideKeys, modest, calm, conditions, laid).
  DERIVED. THE GIVEN ROWS OF THIS SEAT. 6 by the template 'for every input the law returns true; each argument reads behind the call as it read before'; 0 by the template 'total and deterministic' (their statements: YtcagocfhnfiodaaTotals.lean).
  GIVEN WITH THE SEED: the statements are not yours to turn. If you find one false, say at which input.
  Laid BY PROGRAM, IN A SANDBOX (cutbox-rows.mjs): the forced cells as the released guide's own fill.sh prints them over the translation 4484d68a09fcb0f5… (all of the seat's roots in one cut). By AI agents, Wed Nov 11 2026. No macro, syntax, notation, axiom, sorry.
-/
import Derived.Test.YtcagocfhnfiodaaChecked
import GoSem.Claim
import GoSem.ClaimJoined
import GoSem.ClaimMapViews
import Derived.JoinedTies
import Derived.KernelRfl
namespace Go.Proofs.Ytcagocfhnfiodaa
/- THE CELL 'sum', in the pinned program and in every row, IS THE sha256 OF THE DUMP (.gsa) THAT YtcagocfhnfiodaaProg.lean LOADS. Nothing in Lean hashes anything: it is a label: what it is worth is what the hold of that sum in a sandbox is worth. -/
noncomputable def Try.pinned : Pinned := { name := "ytcagocfhnfiodaa", sum := "4484d68a09fcb0f504546a2c1301952b22c2466a8b2d4daf4ff1ed1595bbc714", checked := Try.checked }
namespace Rows
def none {H : Type} : Left H := { results := [], args := [] }

/-- 'colonnadelaw06.CheckKnown': WHATEVER THE INPUT: true; the input reads as it did. -/
def checkKnownSpec : ChangeSpec := { name := "checkKnown", fn := fun _ => fun
  | [] => { results := [.lit (.bool true)], args := [] }
  | _ => none }
def checkKnownRow : OpenClaim := { program := "ytcagocfhnfiodaa", sum := "4484d68a09fcb0f504546a2c1301952b22c2466a8b2d4daf4ff1ed1595bbc714", func := "colonnade/colonnadelaw06.CheckKnown", spec := "checkKnown", apart := false }
def CheckKnownSaid : Prop := checkKnownRow.holds Try.pinned (OpenSpec.ofChange checkKnownSpec)

/-- ITS FALSE NEIGHBOUR: 'it returns false'. Refute it at one input. -/
def checkKnownWrong : ChangeSpec := { name := "checkKnown", fn := fun _ => fun
  | [] => { results := [.lit (.bool false)], args := [] }
  | _ => none }
def CheckKnownWrongFalsely : Prop := checkKnownRow.holds Try.pinned (OpenSpec.ofChange checkKnownWrong)

/-- 'colonnadelaw06.CheckSums': WHATEVER THE INPUT: true; the input reads as it did. -/
def checkSumsSpec : ChangeSpec := { name := "checkSums", fn := fun _ => fun
  | [d] => { results := [.lit (.bool true)], args := [d] }
  | _ => none }
def checkSumsRow : OpenClaim := { program := "ytcagocfhnfiodaa", sum := "4484d68a09fcb0f504546a2c1301952b22c2466a8b2d4daf4ff1ed1595bbc714", func := "colonnade/colonnadelaw06.CheckSums", spec := "checkSums", apart := false }
def CheckSumsSaid : Prop := checkSumsRow.holds Try.pinned (OpenSpec.ofChange checkSumsSpec)

/-- ITS FALSE NEIGHBOUR: 'it returns false'. Refute it at one input. -/
def checkSumsWrong : ChangeSpec := { name := "checkSums", fn := fun _ => fun
  | [d] => { results := [.lit (.bool false)], args := [d] }
  | _ => none }
def CheckSumsWrongFalsely : Prop := checkSumsRow.holds Try.pinned (OpenSpec.ofChange checkSumsWrong)

/-- 'colonnadelaw06.CheckMores': WHATEVER THE INPUT: true; the input reads as it did. -/
def checkMoresSpec : ChangeSpec := { name := "checkMores", fn := fun _ => fun
  | [d1, d2] => { results := [.lit (.bool true)], args := [d1, d2] }
  | _ => none }
def checkMoresRow : OpenClaim := { program := "ytcagocfhnfiodaa", sum := "4484d68a09fcb0f504546a2c1301952b22c2466a8b2d4daf4ff1ed1595bbc714", func := "colonnade/colonnadelaw06.CheckMores", spec := "checkMores", apart := false }
def CheckMoresSaid : Prop := checkMoresRow.holds Try.pinned (OpenSpec.ofChange checkMoresSpec)

/-- ITS FALSE NEIGHBOUR: 'it returns false'. Refute it at one input. -/
def checkMoresWrong : ChangeSpec := { name := "checkMores", fn := fun _ => fun
  | [d1, d2] => { results := [.lit (.bool false)], args := [d1, d2] }
  | _ => none }
def CheckMoresWrongFalsely : Prop := checkMoresRow.holds Try.pinned (OpenSpec.ofChange checkMoresWrong)

/-- 'colonnadelaw06.CheckHashes': WHATEVER THE INPUT: true; the input reads as it did. -/
def checkHashesSpec : ChangeSpec := { name := "checkHashes", fn := fun _ => fun
  | [d] => { results := [.lit (.bool true)], args := [d] }
  | _ => none }
def checkHashesRow : OpenClaim := { program := "ytcagocfhnfiodaa", sum := "4484d68a09fcb0f504546a2c1301952b22c2466a8b2d4daf4ff1ed1595bbc714", func := "colonnade/colonnadelaw06.CheckHashes", spec := "checkHashes", apart := false }
def CheckHashesSaid : Prop := checkHashesRow.holds Try.pinned (OpenSpec.ofChange checkHashesSpec)

/-- ITS FALSE NEIGHBOUR: 'it returns false'. Refute it at one input. -/
def checkHashesWrong : ChangeSpec := { name := "checkHashes", fn := fun _ => fun
  | [d] => { results := [.lit (.bool false)], args := [d] }
  | _ => none }
def CheckHashesWrongFalsely : Prop := checkHashesRow.holds Try.pinned (OpenSpec.ofChange checkHashesWrong)

/-- 'colonnadelaw06.CheckPlaces': WHATEVER THE INPUT: true; the input reads as it did. -/
def checkPlacesSpec : ChangeSpec := { name := "checkPlaces", fn := fun _ => fun
  | [d1, d2, d3] => { results := [.lit (.bool true)], args := [d1, d2, d3] }
  | _ => none }
def checkPlacesRow : OpenClaim := { program := "ytcagocfhnfiodaa", sum := "4484d68a09fcb0f504546a2c1301952b22c2466a8b2d4daf4ff1ed1595bbc714", func := "colonnade/colonnadelaw06.CheckPlaces", spec := "checkPlaces", apart := false }
def CheckPlacesSaid : Prop := checkPlacesRow.holds Try.pinned (OpenSpec.ofChange checkPlacesSpec)

/-- ITS FALSE NEIGHBOUR: 'it returns false'. Refute it at one input. -/
def checkPlacesWrong : ChangeSpec := { name := "checkPlaces", fn := fun _ => fun
  | [d1, d2, d3] => { results := [.lit (.bool false)], args := [d1, d2, d3] }
  | _ => none }
def CheckPlacesWrongFalsely : Prop := checkPlacesRow.holds Try.pinned (OpenSpec.ofChange checkPlacesWrong)

/-- 'colonnadelaw06.CheckGoes': WHATEVER THE INPUT: true; the input reads as it did. -/
def checkGoesSpec : ChangeSpec := { name := "checkGoes", fn := fun _ => fun
  | [d1, d2, d3] => { results := [.lit (.bool true)], args := [d1, d2, d3] }
  | _ => none }
def checkGoesRow : OpenClaim := { program := "ytcagocfhnfiodaa", sum := "4484d68a09fcb0f504546a2c1301952b22c2466a8b2d4daf4ff1ed1595bbc714", func := "colonnade/colonnadelaw06.CheckGoes", spec := "checkGoes", apart := false }
def CheckGoesSaid : Prop := checkGoesRow.holds Try.pinned (OpenSpec.ofChange checkGoesSpec)

/-- ITS FALSE NEIGHBOUR: 'it returns false'. Refute it at one input. -/
def checkGoesWrong : ChangeSpec := { name := "checkGoes", fn := fun _ => fun
  | [d1, d2, d3] => { results := [.lit (.bool false)], args := [d1, d2, d3] }
  | _ => none }
def CheckGoesWrongFalsely : Prop := checkGoesRow.holds Try.pinned (OpenSpec.ofChange checkGoesWrong)

/- THE SECOND FORM. 'bulk': how many values and letters a reading holds, each counted each time it is reached (what is shared counts as often as it is met; a slice's spare places count too). A statement '..UptoSaid' is the law's where the arguments, and the package variables that the reading takes, are together of bulk at most 1048576: NARROWER than '..Said'. Prove '..Said' where nothing that the law and all that it calls make is longer than what came in: it says more and counts as full. Else prove '..UptoSaid'. A law counts once. -/
mutual
def uptoBulk {H : Type} : DataW H → Nat
  | .lit (.string bytes) => bytes.length + 1
  | .lit _ => 1
  | .nil => 1
  | .ptr d => uptoBulk d + 1
  | .slice elems spare => uptoBulkAll elems + uptoBulkAll spare + 1
  | .agg parts => uptoBulkAll parts + 1
  | .iface _ d => uptoBulk d + 1
  | .map entries => uptoBulkEntries entries + 1
  | .held _ => 1
def uptoBulkAll {H : Type} : List (DataW H) → Nat
  | [] => 0
  | d :: r => uptoBulk d + uptoBulkAll r
def uptoBulkEntries {H : Type} : List (Lit × DataW H) → Nat
  | [] => 0
  | x :: r => uptoBulkEntry x + uptoBulkEntries r
def uptoBulkEntry {H : Type} : Lit × DataW H → Nat
  | (.string bytes, d) => bytes.length + uptoBulk d + 1
  | (_, d) => uptoBulk d + 1
 end
def uptoSmall : (H : Type) → List (DataW H) → Bool := fun _ ds => decide (uptoBulkAll ds ≤ 1048576)
def OpenSpec.upto (s : _root_.Go.ChangeSpec) : _root_.Go.OpenSpec := { _root_.Go.OpenSpec.ofChange s with cond := some uptoSmall }

/-- 'colonnadelaw06.CheckKnown', WHERE WHAT IT READS IS OF BULK AT MOST 1048576: true; the input reads as it did. -/
def checkKnownUptoRow : OpenClaim := { program := "ytcagocfhnfiodaa", sum := "4484d68a09fcb0f504546a2c1301952b22c2466a8b2d4daf4ff1ed1595bbc714", func := "colonnade/colonnadelaw06.CheckKnown", spec := "checkKnown", apart := false, narrowed := true }
def CheckKnownUptoSaid : Prop := checkKnownUptoRow.holds Try.pinned (OpenSpec.upto checkKnownSpec)

/-- 'colonnadelaw06.CheckSums', WHERE WHAT IT READS IS OF BULK AT MOST 1048576: true; the input reads as it did. -/
def checkSumsUptoRow : OpenClaim := { program := "ytcagocfhnfiodaa", sum := "4484d68a09fcb0f504546a2c1301952b22c2466a8b2d4daf4ff1ed1595bbc714", func := "colonnade/colonnadelaw06.CheckSums", spec := "checkSums", apart := false, narrowed := true }
def CheckSumsUptoSaid : Prop := checkSumsUptoRow.holds Try.pinned (OpenSpec.upto checkSumsSpec)

/-- 'colonnadelaw06.CheckMores', WHERE WHAT IT READS IS OF BULK AT MOST 1048576: true; the input reads as it did. -/
def checkMoresUptoRow : OpenClaim := { program := "ytcagocfhnfiodaa", sum := "4484d68a09fcb0f504546a2c1301952b22c2466a8b2d4daf4ff1ed1595bbc714", func := "colonnade/colonnadelaw06.CheckMores", spec := "checkMores", apart := false, narrowed := true }
def CheckMoresUptoSaid : Prop := checkMoresUptoRow.holds Try.pinned (OpenSpec.upto checkMoresSpec)

/-- 'colonnadelaw06.CheckHashes', WHERE WHAT IT READS IS OF BULK AT MOST 1048576: true; the input reads as it did. -/
def checkHashesUptoRow : OpenClaim := { program := "ytcagocfhnfiodaa", sum := "4484d68a09fcb0f504546a2c1301952b22c2466a8b2d4daf4ff1ed1595bbc714", func := "colonnade/colonnadelaw06.CheckHashes", spec := "checkHashes", apart := false, narrowed := true }
def CheckHashesUptoSaid : Prop := checkHashesUptoRow.holds Try.pinned (OpenSpec.upto checkHashesSpec)

/-- 'colonnadelaw06.CheckPlaces', WHERE WHAT IT READS IS OF BULK AT MOST 1048576: true; the input reads as it did. -/
def checkPlacesUptoRow : OpenClaim := { program := "ytcagocfhnfiodaa", sum := "4484d68a09fcb0f504546a2c1301952b22c2466a8b2d4daf4ff1ed1595bbc714", func := "colonnade/colonnadelaw06.CheckPlaces", spec := "checkPlaces", apart := false, narrowed := true }
def CheckPlacesUptoSaid : Prop := checkPlacesUptoRow.holds Try.pinned (OpenSpec.upto checkPlacesSpec)

/-- 'colonnadelaw06.CheckGoes', WHERE WHAT IT READS IS OF BULK AT MOST 1048576: true; the input reads as it did. -/
def checkGoesUptoRow : OpenClaim := { program := "ytcagocfhnfiodaa", sum := "4484d68a09fcb0f504546a2c1301952b22c2466a8b2d4daf4ff1ed1595bbc714", func := "colonnade/colonnadelaw06.CheckGoes", spec := "checkGoes", apart := false, narrowed := true }
def CheckGoesUptoSaid : Prop := checkGoesUptoRow.holds Try.pinned (OpenSpec.upto checkGoesSpec)

end Rows
end Go.Proofs.Ytcagocfhnfiodaa
