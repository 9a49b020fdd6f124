/-
  NARROWER THAN 'FOR EVERY INPUT', by the rows' own cells (each row's printed sentence says how): QueryTruths: loops · QuerySame: loops.
  DERIVED. THE GIVEN ROWS OF THIS SEAT. 2 by the template 'for every input the law returns true; each argument reads behind the call as it read before'; 0 by the template 'total and deterministic' (their statements: YtmcjnnkjdeofhaaGreatTotals.lean).
  GIVEN WITH THE SEED: the statements are not yours to turn. If you find one false, say at which input.
  Laid BY PROGRAM, IN A SANDBOX (cutbox-rows.mjs): the forced cells as the released guide's own fill.sh prints them over the translation ea81e365129f7566… (all of the seat's roots in one cut). By AI agents, Wed Nov 11 2026. No macro, syntax, notation, axiom, sorry.
-/
import Derived.Test.YtmcjnnkjdeofhaaGreatChecked
import GoSem.Claim
import GoSem.ClaimJoined
import GoSem.ClaimMapViews
import Derived.JoinedTies
import Derived.KernelRfl
namespace Go.Proofs.YtmcjnnkjdeofhaaGreat
/- THE CELL 'sum', in the pinned program and in every row, IS THE sha256 OF THE DUMP (.gsa) THAT YtmcjnnkjdeofhaaGreatProg.lean LOADS. Nothing in Lean hashes anything: it is a label: what it is worth is what the hold of that sum in a sandbox is worth. -/
noncomputable def Tryz.pinned : Pinned := { name := "ytmcjnnkjdeofhaagreat", sum := "ea81e365129f7566925ad09c4dd04a2253cf28650574ea654871767f775206ed", checked := Tryz.checked }
namespace Rows
def none {H : Type} : Left H := { results := [], args := [] }

/-- 'colonnadelaw23.QueryTruths': WHATEVER THE INPUT: true; the input reads as it did. -/
def queryTruthsSpec : ChangeSpec := { name := "queryTruths", fn := fun _ => fun
  | [d1, d2, d3] => { results := [.lit (.bool true)], args := [d1, d2, d3] }
  | _ => none }
def queryTruthsRow : OpenClaim := { program := "ytmcjnnkjdeofhaagreat", sum := "ea81e365129f7566925ad09c4dd04a2253cf28650574ea654871767f775206ed", func := "colonnade/colonnadelaw23.QueryTruths", spec := "queryTruths", inPlace := ["math.Float64bits", "math.Float64frombits"], unfollowed := true, recurses := true, loops := true, apart := false }
def QueryTruthsSaid : Prop := queryTruthsRow.holds Tryz.pinned (OpenSpec.ofChange queryTruthsSpec)

/-- ITS FALSE NEIGHBOUR: 'it returns false'. Refute it at one input. -/
def queryTruthsWrong : ChangeSpec := { name := "queryTruths", fn := fun _ => fun
  | [d1, d2, d3] => { results := [.lit (.bool false)], args := [d1, d2, d3] }
  | _ => none }
def QueryTruthsWrongFalsely : Prop := queryTruthsRow.holds Tryz.pinned (OpenSpec.ofChange queryTruthsWrong)

/-- 'colonnadelaw23.QuerySame': WHATEVER THE INPUT: true; the input reads as it did. -/
def querySameSpec : ChangeSpec := { name := "querySame", fn := fun _ => fun
  | [d1, d2, d3] => { results := [.lit (.bool true)], args := [d1, d2, d3] }
  | _ => none }
def querySameRow : OpenClaim := { program := "ytmcjnnkjdeofhaagreat", sum := "ea81e365129f7566925ad09c4dd04a2253cf28650574ea654871767f775206ed", func := "colonnade/colonnadelaw23.QuerySame", spec := "querySame", inPlace := ["math.Float64bits", "math.Float64frombits"], unfollowed := true, recurses := true, loops := true, apart := false }
def QuerySameSaid : Prop := querySameRow.holds Tryz.pinned (OpenSpec.ofChange querySameSpec)

/-- ITS FALSE NEIGHBOUR: 'it returns false'. Refute it at one input. -/
def querySameWrong : ChangeSpec := { name := "querySame", fn := fun _ => fun
  | [d1, d2, d3] => { results := [.lit (.bool false)], args := [d1, d2, d3] }
  | _ => none }
def QuerySameWrongFalsely : Prop := querySameRow.holds Tryz.pinned (OpenSpec.ofChange querySameWrong)

/- THE SECOND FORM. 'bulk': how many values and letters a reading holds, each counted each time it is reached (what is shared counts as often as it is met; a slice's spare places count too). A statement '..UptoSaid' is the law's where the arguments, and the package variables that the reading takes, are together of bulk at most 1048576: NARROWER than '..Said'. Prove '..Said' where nothing that the law and all that it calls make is longer than what came in: it says more and counts as full. Else prove '..UptoSaid'. A law counts once. -/
mutual
def uptoBulk {H : Type} : DataW H → Nat
  | .lit (.string bytes) => bytes.length + 1
  | .lit _ => 1
  | .nil => 1
  | .ptr d => uptoBulk d + 1
  | .slice elems spare => uptoBulkAll elems + uptoBulkAll spare + 1
  | .agg parts => uptoBulkAll parts + 1
  | .iface _ d => uptoBulk d + 1
  | .map entries => uptoBulkEntries entries + 1
  | .held _ => 1
def uptoBulkAll {H : Type} : List (DataW H) → Nat
  | [] => 0
  | d :: r => uptoBulk d + uptoBulkAll r
def uptoBulkEntries {H : Type} : List (Lit × DataW H) → Nat
  | [] => 0
  | x :: r => uptoBulkEntry x + uptoBulkEntries r
def uptoBulkEntry {H : Type} : Lit × DataW H → Nat
  | (.string bytes, d) => bytes.length + uptoBulk d + 1
  | (_, d) => uptoBulk d + 1
 end
def uptoSmall : (H : Type) → List (DataW H) → Bool := fun _ ds => decide (uptoBulkAll ds ≤ 1048576)
def OpenSpec.upto (s : _root_.Go.ChangeSpec) : _root_.Go.OpenSpec := { _root_.Go.OpenSpec.ofChange s with cond := some uptoSmall }

/-- 'colonnadelaw23.QueryTruths', WHERE WHAT IT READS IS OF BULK AT MOST 1048576: true; the input reads as it did. -/
def queryTruthsUptoRow : OpenClaim := { program := "ytmcjnnkjdeofhaagreat", sum := "ea81e365129f7566925ad09c4dd04a2253cf28650574ea654871767f775206ed", func := "colonnade/colonnadelaw23.QueryTruths", spec := "queryTruths", inPlace := ["math.Float64bits", "math.Float64frombits"], unfollowed := true, recurses := true, loops := true, apart := false, narrowed := true }
def QueryTruthsUptoSaid : Prop := queryTruthsUptoRow.holds Tryz.pinned (OpenSpec.upto queryTruthsSpec)

/-- 'colonnadelaw23.QuerySame', WHERE WHAT IT READS IS OF BULK AT MOST 1048576: true; the input reads as it did. -/
def querySameUptoRow : OpenClaim := { program := "ytmcjnnkjdeofhaagreat", sum := "ea81e365129f7566925ad09c4dd04a2253cf28650574ea654871767f775206ed", func := "colonnade/colonnadelaw23.QuerySame", spec := "querySame", inPlace := ["math.Float64bits", "math.Float64frombits"], unfollowed := true, recurses := true, loops := true, apart := false, narrowed := true }
def QuerySameUptoSaid : Prop := querySameUptoRow.holds Tryz.pinned (OpenSpec.upto querySameSpec)

end Rows
end Go.Proofs.YtmcjnnkjdeofhaaGreat
