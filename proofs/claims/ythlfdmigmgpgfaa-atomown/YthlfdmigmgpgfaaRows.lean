/-
  NARROWER THAN 'FOR EVERY INPUT', by the rows' own cells (each row's printed sentence says how): AtomChecks: loops · AtomBounds: loops · AtomOwn: loops.
  DERIVED. THE GIVEN ROWS OF THIS SEAT. 4 by the template 'for every input the law returns true; each argument reads behind the call as it read before'; 0 by the template 'total and deterministic' (their statements: YthlfdmigmgpgfaaTotals.lean).
  GIVEN WITH THE SEED: the statements are not yours to turn. If you find one false, say at which input.
  Laid BY PROGRAM, IN A SANDBOX (cutbox-rows.mjs): the forced cells as the released guide's own fill.sh prints them over the translation 9c938122d3a90d6b… (all of the seat's roots in one cut). By AI agents, Wed Nov 11 2026. No macro, syntax, notation, axiom, sorry.
-/
import Derived.Test.YthlfdmigmgpgfaaChecked
import GoSem.Claim
import GoSem.ClaimJoined
import GoSem.ClaimMapViews
import Derived.JoinedTies
import Derived.KernelRfl
namespace Go.Proofs.Ythlfdmigmgpgfaa
/- THE CELL 'sum', in the pinned program and in every row, IS THE sha256 OF THE DUMP (.gsa) THAT YthlfdmigmgpgfaaProg.lean LOADS. Nothing in Lean hashes anything: it is a label: what it is worth is what the hold of that sum in a sandbox is worth. -/
noncomputable def Try.pinned : Pinned := { name := "ythlfdmigmgpgfaa", sum := "9c938122d3a90d6b3103855c6477511189e3c6c0cdbf9864014a508d31063a5c", checked := Try.checked }
namespace Rows
def none {H : Type} : Left H := { results := [], args := [] }

/-- 'colonnadelaw18.AtomChecks': WHATEVER THE INPUT: true; the input reads as it did. -/
def atomChecksSpec : ChangeSpec := { name := "atomChecks", fn := fun _ => fun
  | [d1, d2] => { results := [.lit (.bool true)], args := [d1, d2] }
  | _ => none }
def atomChecksRow : OpenClaim := { program := "ythlfdmigmgpgfaa", sum := "9c938122d3a90d6b3103855c6477511189e3c6c0cdbf9864014a508d31063a5c", func := "colonnade/colonnadelaw18.AtomChecks", spec := "atomChecks", inPlace := ["math.Float64bits", "math.Float64frombits"], unfollowed := true, recurses := true, loops := true, apart := false }
def AtomChecksSaid : Prop := atomChecksRow.holds Try.pinned (OpenSpec.ofChange atomChecksSpec)

/-- ITS FALSE NEIGHBOUR: 'it returns false'. Refute it at one input. -/
def atomChecksWrong : ChangeSpec := { name := "atomChecks", fn := fun _ => fun
  | [d1, d2] => { results := [.lit (.bool false)], args := [d1, d2] }
  | _ => none }
def AtomChecksWrongFalsely : Prop := atomChecksRow.holds Try.pinned (OpenSpec.ofChange atomChecksWrong)

/-- 'colonnadelaw18.AtomBounds': WHATEVER THE INPUT: true; the input reads as it did. -/
def atomBoundsSpec : ChangeSpec := { name := "atomBounds", fn := fun _ => fun
  | [d] => { results := [.lit (.bool true)], args := [d] }
  | _ => none }
def atomBoundsRow : OpenClaim := { program := "ythlfdmigmgpgfaa", sum := "9c938122d3a90d6b3103855c6477511189e3c6c0cdbf9864014a508d31063a5c", func := "colonnade/colonnadelaw18.AtomBounds", spec := "atomBounds", inPlace := ["math.Float64bits", "math.Float64frombits"], unfollowed := true, recurses := true, loops := true, apart := false }
def AtomBoundsSaid : Prop := atomBoundsRow.holds Try.pinned (OpenSpec.ofChange atomBoundsSpec)

/-- ITS FALSE NEIGHBOUR: 'it returns false'. Refute it at one input. -/
def atomBoundsWrong : ChangeSpec := { name := "atomBounds", fn := fun _ => fun
  | [d] => { results := [.lit (.bool false)], args := [d] }
  | _ => none }
def AtomBoundsWrongFalsely : Prop := atomBoundsRow.holds Try.pinned (OpenSpec.ofChange atomBoundsWrong)

/-- 'colonnadelaw18.AtomKleene': WHATEVER THE INPUT: true; the input reads as it did. -/
def atomKleeneSpec : ChangeSpec := { name := "atomKleene", fn := fun _ => fun
  | [d1, d2, d3, d4] => { results := [.lit (.bool true)], args := [d1, d2, d3, d4] }
  | _ => none }
def atomKleeneRow : OpenClaim := { program := "ythlfdmigmgpgfaa", sum := "9c938122d3a90d6b3103855c6477511189e3c6c0cdbf9864014a508d31063a5c", func := "colonnade/colonnadelaw18.AtomKleene", spec := "atomKleene", inPlace := ["math.Float64bits", "math.Float64frombits"], unfollowed := true, recurses := true, apart := false }
def AtomKleeneSaid : Prop := atomKleeneRow.holds Try.pinned (OpenSpec.ofChange atomKleeneSpec)

/-- ITS FALSE NEIGHBOUR: 'it returns false'. Refute it at one input. -/
def atomKleeneWrong : ChangeSpec := { name := "atomKleene", fn := fun _ => fun
  | [d1, d2, d3, d4] => { results := [.lit (.bool false)], args := [d1, d2, d3, d4] }
  | _ => none }
def AtomKleeneWrongFalsely : Prop := atomKleeneRow.holds Try.pinned (OpenSpec.ofChange atomKleeneWrong)

/-- 'colonnadelaw18.AtomOwn': WHATEVER THE INPUT: true; the input reads as it did. -/
def atomOwnSpec : ChangeSpec := { name := "atomOwn", fn := fun _ => fun
  | [d1, d2, d3] => { results := [.lit (.bool true)], args := [d1, d2, d3] }
  | _ => none }
def atomOwnRow : OpenClaim := { program := "ythlfdmigmgpgfaa", sum := "9c938122d3a90d6b3103855c6477511189e3c6c0cdbf9864014a508d31063a5c", func := "colonnade/colonnadelaw18.AtomOwn", spec := "atomOwn", inPlace := ["math.Float64bits", "math.Float64frombits"], unfollowed := true, recurses := true, loops := true, apart := false }
def AtomOwnSaid : Prop := atomOwnRow.holds Try.pinned (OpenSpec.ofChange atomOwnSpec)

/-- ITS FALSE NEIGHBOUR: 'it returns false'. Refute it at one input. -/
def atomOwnWrong : ChangeSpec := { name := "atomOwn", fn := fun _ => fun
  | [d1, d2, d3] => { results := [.lit (.bool false)], args := [d1, d2, d3] }
  | _ => none }
def AtomOwnWrongFalsely : Prop := atomOwnRow.holds Try.pinned (OpenSpec.ofChange atomOwnWrong)

/- THE SECOND FORM. 'bulk': how many values and letters a reading holds, each counted each time it is reached (what is shared counts as often as it is met; a slice's spare places count too). A statement '..UptoSaid' is the law's where the arguments, and the package variables that the reading takes, are together of bulk at most 1048576: NARROWER than '..Said'. Prove '..Said' where nothing that the law and all that it calls make is longer than what came in: it says more and counts as full. Else prove '..UptoSaid'. A law counts once. -/
mutual
def uptoBulk {H : Type} : DataW H → Nat
  | .lit (.string bytes) => bytes.length + 1
  | .lit _ => 1
  | .nil => 1
  | .ptr d => uptoBulk d + 1
  | .slice elems spare => uptoBulkAll elems + uptoBulkAll spare + 1
  | .agg parts => uptoBulkAll parts + 1
  | .iface _ d => uptoBulk d + 1
  | .map entries => uptoBulkEntries entries + 1
  | .held _ => 1
def uptoBulkAll {H : Type} : List (DataW H) → Nat
  | [] => 0
  | d :: r => uptoBulk d + uptoBulkAll r
def uptoBulkEntries {H : Type} : List (Lit × DataW H) → Nat
  | [] => 0
  | x :: r => uptoBulkEntry x + uptoBulkEntries r
def uptoBulkEntry {H : Type} : Lit × DataW H → Nat
  | (.string bytes, d) => bytes.length + uptoBulk d + 1
  | (_, d) => uptoBulk d + 1
 end
def uptoSmall : (H : Type) → List (DataW H) → Bool := fun _ ds => decide (uptoBulkAll ds ≤ 1048576)
def OpenSpec.upto (s : _root_.Go.ChangeSpec) : _root_.Go.OpenSpec := { _root_.Go.OpenSpec.ofChange s with cond := some uptoSmall }

/-- 'colonnadelaw18.AtomChecks', WHERE WHAT IT READS IS OF BULK AT MOST 1048576: true; the input reads as it did. -/
def atomChecksUptoRow : OpenClaim := { program := "ythlfdmigmgpgfaa", sum := "9c938122d3a90d6b3103855c6477511189e3c6c0cdbf9864014a508d31063a5c", func := "colonnade/colonnadelaw18.AtomChecks", spec := "atomChecks", inPlace := ["math.Float64bits", "math.Float64frombits"], unfollowed := true, recurses := true, loops := true, apart := false, narrowed := true }
def AtomChecksUptoSaid : Prop := atomChecksUptoRow.holds Try.pinned (OpenSpec.upto atomChecksSpec)

/-- 'colonnadelaw18.AtomBounds', WHERE WHAT IT READS IS OF BULK AT MOST 1048576: true; the input reads as it did. -/
def atomBoundsUptoRow : OpenClaim := { program := "ythlfdmigmgpgfaa", sum := "9c938122d3a90d6b3103855c6477511189e3c6c0cdbf9864014a508d31063a5c", func := "colonnade/colonnadelaw18.AtomBounds", spec := "atomBounds", inPlace := ["math.Float64bits", "math.Float64frombits"], unfollowed := true, recurses := true, loops := true, apart := false, narrowed := true }
def AtomBoundsUptoSaid : Prop := atomBoundsUptoRow.holds Try.pinned (OpenSpec.upto atomBoundsSpec)

/-- 'colonnadelaw18.AtomKleene', WHERE WHAT IT READS IS OF BULK AT MOST 1048576: true; the input reads as it did. -/
def atomKleeneUptoRow : OpenClaim := { program := "ythlfdmigmgpgfaa", sum := "9c938122d3a90d6b3103855c6477511189e3c6c0cdbf9864014a508d31063a5c", func := "colonnade/colonnadelaw18.AtomKleene", spec := "atomKleene", inPlace := ["math.Float64bits", "math.Float64frombits"], unfollowed := true, recurses := true, apart := false, narrowed := true }
def AtomKleeneUptoSaid : Prop := atomKleeneUptoRow.holds Try.pinned (OpenSpec.upto atomKleeneSpec)

/-- 'colonnadelaw18.AtomOwn', WHERE WHAT IT READS IS OF BULK AT MOST 1048576: true; the input reads as it did. -/
def atomOwnUptoRow : OpenClaim := { program := "ythlfdmigmgpgfaa", sum := "9c938122d3a90d6b3103855c6477511189e3c6c0cdbf9864014a508d31063a5c", func := "colonnade/colonnadelaw18.AtomOwn", spec := "atomOwn", inPlace := ["math.Float64bits", "math.Float64frombits"], unfollowed := true, recurses := true, loops := true, apart := false, narrowed := true }
def AtomOwnUptoSaid : Prop := atomOwnUptoRow.holds Try.pinned (OpenSpec.upto atomOwnSpec)

end Rows
end Go.Proofs.Ythlfdmigmgpgfaa
