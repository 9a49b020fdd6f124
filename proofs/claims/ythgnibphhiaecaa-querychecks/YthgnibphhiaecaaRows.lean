/-
  NARROWER THAN 'FOR EVERY INPUT', by the rows' own cells (each row's printed sentence says how): QueryChecks: loops · QueryFlat: loops · QueryWider: loops · QueryPlains: loops · QueryKleene: loops.
  DERIVED. THE GIVEN ROWS OF THIS SEAT. 5 by the template 'for every input the law returns true; each argument reads behind the call as it read before'; 0 by the template 'total and deterministic' (their statements: YthgnibphhiaecaaTotals.lean).
  GIVEN WITH THE SEED: the statements are not yours to turn. If you find one false, say at which input.
  Laid BY PROGRAM, IN A SANDBOX (cutbox-rows.mjs): the forced cells as the released guide's own fill.sh prints them over the translation 1eb98f88aa05546d… (all of the seat's roots in one cut). By AI agents, Wed Nov 11 2026. No macro, syntax, notation, axiom, sorry.
-/
import Derived.Test.YthgnibphhiaecaaChecked
import GoSem.Claim
import GoSem.ClaimJoined
import GoSem.ClaimMapViews
import Derived.JoinedTies
import Derived.KernelRfl
namespace Go.Proofs.Ythgnibphhiaecaa
/- THE CELL 'sum', in the pinned program and in every row, IS THE sha256 OF THE DUMP (.gsa) THAT YthgnibphhiaecaaProg.lean LOADS. Nothing in Lean hashes anything: it is a label: what it is worth is what the hold of that sum in a sandbox is worth. -/
noncomputable def Try.pinned : Pinned := { name := "ythgnibphhiaecaa", sum := "1eb98f88aa05546d87a9a0b3c206d6506727b3c561fa234a376887dd86e1e57b", checked := Try.checked }
namespace Rows
def none {H : Type} : Left H := { results := [], args := [] }

/-- 'colonnadelaw23.QueryChecks': WHATEVER THE INPUT: true; the input reads as it did. -/
def queryChecksSpec : ChangeSpec := { name := "queryChecks", fn := fun _ => fun
  | [d1, d2] => { results := [.lit (.bool true)], args := [d1, d2] }
  | _ => none }
def queryChecksRow : OpenClaim := { program := "ythgnibphhiaecaa", sum := "1eb98f88aa05546d87a9a0b3c206d6506727b3c561fa234a376887dd86e1e57b", func := "colonnade/colonnadelaw23.QueryChecks", spec := "queryChecks", inPlace := ["math.Float64bits", "math.Float64frombits"], unfollowed := true, recurses := true, loops := true, apart := false }
def QueryChecksSaid : Prop := queryChecksRow.holds Try.pinned (OpenSpec.ofChange queryChecksSpec)

/-- ITS FALSE NEIGHBOUR: 'it returns false'. Refute it at one input. -/
def queryChecksWrong : ChangeSpec := { name := "queryChecks", fn := fun _ => fun
  | [d1, d2] => { results := [.lit (.bool false)], args := [d1, d2] }
  | _ => none }
def QueryChecksWrongFalsely : Prop := queryChecksRow.holds Try.pinned (OpenSpec.ofChange queryChecksWrong)

/-- 'colonnadelaw23.QueryFlat': WHATEVER THE INPUT: true; the input reads as it did. -/
def queryFlatSpec : ChangeSpec := { name := "queryFlat", fn := fun _ => fun
  | [d1, d2] => { results := [.lit (.bool true)], args := [d1, d2] }
  | _ => none }
def queryFlatRow : OpenClaim := { program := "ythgnibphhiaecaa", sum := "1eb98f88aa05546d87a9a0b3c206d6506727b3c561fa234a376887dd86e1e57b", func := "colonnade/colonnadelaw23.QueryFlat", spec := "queryFlat", inPlace := ["math.Float64bits", "math.Float64frombits"], unfollowed := true, recurses := true, loops := true, apart := false }
def QueryFlatSaid : Prop := queryFlatRow.holds Try.pinned (OpenSpec.ofChange queryFlatSpec)

/-- ITS FALSE NEIGHBOUR: 'it returns false'. Refute it at one input. -/
def queryFlatWrong : ChangeSpec := { name := "queryFlat", fn := fun _ => fun
  | [d1, d2] => { results := [.lit (.bool false)], args := [d1, d2] }
  | _ => none }
def QueryFlatWrongFalsely : Prop := queryFlatRow.holds Try.pinned (OpenSpec.ofChange queryFlatWrong)

/-- 'colonnadelaw23.QueryWider': WHATEVER THE INPUT: true; the input reads as it did. -/
def queryWiderSpec : ChangeSpec := { name := "queryWider", fn := fun _ => fun
  | [d1, d2, d3] => { results := [.lit (.bool true)], args := [d1, d2, d3] }
  | _ => none }
def queryWiderRow : OpenClaim := { program := "ythgnibphhiaecaa", sum := "1eb98f88aa05546d87a9a0b3c206d6506727b3c561fa234a376887dd86e1e57b", func := "colonnade/colonnadelaw23.QueryWider", spec := "queryWider", inPlace := ["math.Float64bits", "math.Float64frombits"], unfollowed := true, recurses := true, loops := true, apart := false }
def QueryWiderSaid : Prop := queryWiderRow.holds Try.pinned (OpenSpec.ofChange queryWiderSpec)

/-- ITS FALSE NEIGHBOUR: 'it returns false'. Refute it at one input. -/
def queryWiderWrong : ChangeSpec := { name := "queryWider", fn := fun _ => fun
  | [d1, d2, d3] => { results := [.lit (.bool false)], args := [d1, d2, d3] }
  | _ => none }
def QueryWiderWrongFalsely : Prop := queryWiderRow.holds Try.pinned (OpenSpec.ofChange queryWiderWrong)

/-- 'colonnadelaw23.QueryPlains': WHATEVER THE INPUT: true; the input reads as it did. -/
def queryPlainsSpec : ChangeSpec := { name := "queryPlains", fn := fun _ => fun
  | [d] => { results := [.lit (.bool true)], args := [d] }
  | _ => none }
def queryPlainsRow : OpenClaim := { program := "ythgnibphhiaecaa", sum := "1eb98f88aa05546d87a9a0b3c206d6506727b3c561fa234a376887dd86e1e57b", func := "colonnade/colonnadelaw23.QueryPlains", spec := "queryPlains", inPlace := ["math.Float64bits"], unfollowed := true, recurses := true, loops := true, apart := false }
def QueryPlainsSaid : Prop := queryPlainsRow.holds Try.pinned (OpenSpec.ofChange queryPlainsSpec)

/-- ITS FALSE NEIGHBOUR: 'it returns false'. Refute it at one input. -/
def queryPlainsWrong : ChangeSpec := { name := "queryPlains", fn := fun _ => fun
  | [d] => { results := [.lit (.bool false)], args := [d] }
  | _ => none }
def QueryPlainsWrongFalsely : Prop := queryPlainsRow.holds Try.pinned (OpenSpec.ofChange queryPlainsWrong)

/-- 'colonnadelaw23.QueryKleene': WHATEVER THE INPUT: true; the input reads as it did. -/
def queryKleeneSpec : ChangeSpec := { name := "queryKleene", fn := fun _ => fun
  | [d1, d2, d3] => { results := [.lit (.bool true)], args := [d1, d2, d3] }
  | _ => none }
def queryKleeneRow : OpenClaim := { program := "ythgnibphhiaecaa", sum := "1eb98f88aa05546d87a9a0b3c206d6506727b3c561fa234a376887dd86e1e57b", func := "colonnade/colonnadelaw23.QueryKleene", spec := "queryKleene", inPlace := ["math.Float64bits", "math.Float64frombits"], unfollowed := true, recurses := true, loops := true, apart := false }
def QueryKleeneSaid : Prop := queryKleeneRow.holds Try.pinned (OpenSpec.ofChange queryKleeneSpec)

/-- ITS FALSE NEIGHBOUR: 'it returns false'. Refute it at one input. -/
def queryKleeneWrong : ChangeSpec := { name := "queryKleene", fn := fun _ => fun
  | [d1, d2, d3] => { results := [.lit (.bool false)], args := [d1, d2, d3] }
  | _ => none }
def QueryKleeneWrongFalsely : Prop := queryKleeneRow.holds Try.pinned (OpenSpec.ofChange queryKleeneWrong)

/- THE SECOND FORM. 'bulk': how many values and letters a reading holds, each counted each time it is reached (what is shared counts as often as it is met; a slice's spare places count too). A statement '..UptoSaid' is the law's where the arguments, and the package variables that the reading takes, are together of bulk at most 1048576: NARROWER than '..Said'. Prove '..Said' where nothing that the law and all that it calls make is longer than what came in: it says more and counts as full. Else prove '..UptoSaid'. A law counts once. -/
mutual
def uptoBulk {H : Type} : DataW H → Nat
  | .lit (.string bytes) => bytes.length + 1
  | .lit _ => 1
  | .nil => 1
  | .ptr d => uptoBulk d + 1
  | .slice elems spare => uptoBulkAll elems + uptoBulkAll spare + 1
  | .agg parts => uptoBulkAll parts + 1
  | .iface _ d => uptoBulk d + 1
  | .map entries => uptoBulkEntries entries + 1
  | .held _ => 1
def uptoBulkAll {H : Type} : List (DataW H) → Nat
  | [] => 0
  | d :: r => uptoBulk d + uptoBulkAll r
def uptoBulkEntries {H : Type} : List (Lit × DataW H) → Nat
  | [] => 0
  | x :: r => uptoBulkEntry x + uptoBulkEntries r
def uptoBulkEntry {H : Type} : Lit × DataW H → Nat
  | (.string bytes, d) => bytes.length + uptoBulk d + 1
  | (_, d) => uptoBulk d + 1
 end
def uptoSmall : (H : Type) → List (DataW H) → Bool := fun _ ds => decide (uptoBulkAll ds ≤ 1048576)
def OpenSpec.upto (s : _root_.Go.ChangeSpec) : _root_.Go.OpenSpec := { _root_.Go.OpenSpec.ofChange s with cond := some uptoSmall }

/-- 'colonnadelaw23.QueryChecks', WHERE WHAT IT READS IS OF BULK AT MOST 1048576: true; the input reads as it did. -/
def queryChecksUptoRow : OpenClaim := { program := "ythgnibphhiaecaa", sum := "1eb98f88aa05546d87a9a0b3c206d6506727b3c561fa234a376887dd86e1e57b", func := "colonnade/colonnadelaw23.QueryChecks", spec := "queryChecks", inPlace := ["math.Float64bits", "math.Float64frombits"], unfollowed := true, recurses := true, loops := true, apart := false, narrowed := true }
def QueryChecksUptoSaid : Prop := queryChecksUptoRow.holds Try.pinned (OpenSpec.upto queryChecksSpec)

/-- 'colonnadelaw23.QueryFlat', WHERE WHAT IT READS IS OF BULK AT MOST 1048576: true; the input reads as it did. -/
def queryFlatUptoRow : OpenClaim := { program := "ythgnibphhiaecaa", sum := "1eb98f88aa05546d87a9a0b3c206d6506727b3c561fa234a376887dd86e1e57b", func := "colonnade/colonnadelaw23.QueryFlat", spec := "queryFlat", inPlace := ["math.Float64bits", "math.Float64frombits"], unfollowed := true, recurses := true, loops := true, apart := false, narrowed := true }
def QueryFlatUptoSaid : Prop := queryFlatUptoRow.holds Try.pinned (OpenSpec.upto queryFlatSpec)

/-- 'colonnadelaw23.QueryWider', WHERE WHAT IT READS IS OF BULK AT MOST 1048576: true; the input reads as it did. -/
def queryWiderUptoRow : OpenClaim := { program := "ythgnibphhiaecaa", sum := "1eb98f88aa05546d87a9a0b3c206d6506727b3c561fa234a376887dd86e1e57b", func := "colonnade/colonnadelaw23.QueryWider", spec := "queryWider", inPlace := ["math.Float64bits", "math.Float64frombits"], unfollowed := true, recurses := true, loops := true, apart := false, narrowed := true }
def QueryWiderUptoSaid : Prop := queryWiderUptoRow.holds Try.pinned (OpenSpec.upto queryWiderSpec)

/-- 'colonnadelaw23.QueryPlains', WHERE WHAT IT READS IS OF BULK AT MOST 1048576: true; the input reads as it did. -/
def queryPlainsUptoRow : OpenClaim := { program := "ythgnibphhiaecaa", sum := "1eb98f88aa05546d87a9a0b3c206d6506727b3c561fa234a376887dd86e1e57b", func := "colonnade/colonnadelaw23.QueryPlains", spec := "queryPlains", inPlace := ["math.Float64bits"], unfollowed := true, recurses := true, loops := true, apart := false, narrowed := true }
def QueryPlainsUptoSaid : Prop := queryPlainsUptoRow.holds Try.pinned (OpenSpec.upto queryPlainsSpec)

/-- 'colonnadelaw23.QueryKleene', WHERE WHAT IT READS IS OF BULK AT MOST 1048576: true; the input reads as it did. -/
def queryKleeneUptoRow : OpenClaim := { program := "ythgnibphhiaecaa", sum := "1eb98f88aa05546d87a9a0b3c206d6506727b3c561fa234a376887dd86e1e57b", func := "colonnade/colonnadelaw23.QueryKleene", spec := "queryKleene", inPlace := ["math.Float64bits", "math.Float64frombits"], unfollowed := true, recurses := true, loops := true, apart := false, narrowed := true }
def QueryKleeneUptoSaid : Prop := queryKleeneUptoRow.holds Try.pinned (OpenSpec.upto queryKleeneSpec)

end Rows
end Go.Proofs.Ythgnibphhiaecaa
