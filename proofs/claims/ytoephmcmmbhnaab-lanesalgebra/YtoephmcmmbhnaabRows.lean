/-
  No cell of these rows narrows 'for every input' (looked for: loops, veiled, ifaces, maps, wideKeys, modest, calm, conditions, laid).
  DERIVED. THE GIVEN ROWS OF THIS SEAT. 6 by the template 'for every input the law returns true; each argument reads behind the call as it read before'; 0 by the template 'total and deterministic' (their statements: YtoephmcmmbhnaabTotals.lean).
  GIVEN WITH THE SEED: the statements are not yours to turn. If you find one false, say at which input.
  Laid BY PROGRAM, IN A SANDBOX (cutbox-rows.mjs): the forced cells as the released guide's own fill.sh prints them over the translation 6148321d6af3766d… (all of the seat's roots in one cut). By AI agents, Wed Nov 11 2026. No macro, syntax, notation, axiom, sorry.
-/
import Derived.Test.YtoephmcmmbhnaabChecked
import GoSem.Claim
import GoSem.ClaimJoined
import GoSem.ClaimMapViews
import Derived.JoinedTies
import Derived.KernelRfl
namespace Go.Proofs.Ytoephmcmmbhnaab
/- THE CELL 'sum', in the pinned program and in every row, IS THE sha256 OF THE DUMP (.gsa) THAT YtoephmcmmbhnaabProg.lean LOADS. Nothing in Lean hashes anything: it is a label: what it is worth is what the hold of that sum in a sandbox is worth. -/
noncomputable def Try.pinned : Pinned := { name := "ytoephmcmmbhnaab", sum := "6148321d6af3766da91ccbc33c45916a4e4da279a9c6686cdf4101c49ebb5437", checked := Try.checked }
namespace Rows
def none {H : Type} : Left H := { results := [], args := [] }

/-- 'colonnadelaw03.LanesSums': WHATEVER THE INPUT: true; the input reads as it did. -/
def lanesSumsSpec : ChangeSpec := { name := "lanesSums", fn := fun _ => fun
  | [d] => { results := [.lit (.bool true)], args := [d] }
  | _ => none }
def lanesSumsRow : OpenClaim := { program := "ytoephmcmmbhnaab", sum := "6148321d6af3766da91ccbc33c45916a4e4da279a9c6686cdf4101c49ebb5437", func := "colonnade/colonnadelaw03.LanesSums", spec := "lanesSums", inPlace := ["math/bits.Add64"], unfollowed := true, recurses := true, apart := false }
def LanesSumsSaid : Prop := lanesSumsRow.holds Try.pinned (OpenSpec.ofChange lanesSumsSpec)

/-- ITS FALSE NEIGHBOUR: 'it returns false'. Refute it at one input. -/
def lanesSumsWrong : ChangeSpec := { name := "lanesSums", fn := fun _ => fun
  | [d] => { results := [.lit (.bool false)], args := [d] }
  | _ => none }
def LanesSumsWrongFalsely : Prop := lanesSumsRow.holds Try.pinned (OpenSpec.ofChange lanesSumsWrong)

/-- 'colonnadelaw03.LanesEmpty': WHATEVER THE INPUT: true; the input reads as it did. -/
def lanesEmptySpec : ChangeSpec := { name := "lanesEmpty", fn := fun _ => fun
  | [d1, d2] => { results := [.lit (.bool true)], args := [d1, d2] }
  | _ => none }
def lanesEmptyRow : OpenClaim := { program := "ytoephmcmmbhnaab", sum := "6148321d6af3766da91ccbc33c45916a4e4da279a9c6686cdf4101c49ebb5437", func := "colonnade/colonnadelaw03.LanesEmpty", spec := "lanesEmpty", inPlace := ["math/bits.Add64"], unfollowed := true, recurses := true, apart := false }
def LanesEmptySaid : Prop := lanesEmptyRow.holds Try.pinned (OpenSpec.ofChange lanesEmptySpec)

/-- ITS FALSE NEIGHBOUR: 'it returns false'. Refute it at one input. -/
def lanesEmptyWrong : ChangeSpec := { name := "lanesEmpty", fn := fun _ => fun
  | [d1, d2] => { results := [.lit (.bool false)], args := [d1, d2] }
  | _ => none }
def LanesEmptyWrongFalsely : Prop := lanesEmptyRow.holds Try.pinned (OpenSpec.ofChange lanesEmptyWrong)

/-- 'colonnadelaw03.LanesWords': WHATEVER THE INPUT: true; the input reads as it did. -/
def lanesWordsSpec : ChangeSpec := { name := "lanesWords", fn := fun _ => fun
  | [d] => { results := [.lit (.bool true)], args := [d] }
  | _ => none }
def lanesWordsRow : OpenClaim := { program := "ytoephmcmmbhnaab", sum := "6148321d6af3766da91ccbc33c45916a4e4da279a9c6686cdf4101c49ebb5437", func := "colonnade/colonnadelaw03.LanesWords", spec := "lanesWords", inPlace := ["math/bits.Add64"], unfollowed := true, recurses := true, apart := false }
def LanesWordsSaid : Prop := lanesWordsRow.holds Try.pinned (OpenSpec.ofChange lanesWordsSpec)

/-- ITS FALSE NEIGHBOUR: 'it returns false'. Refute it at one input. -/
def lanesWordsWrong : ChangeSpec := { name := "lanesWords", fn := fun _ => fun
  | [d] => { results := [.lit (.bool false)], args := [d] }
  | _ => none }
def LanesWordsWrongFalsely : Prop := lanesWordsRow.holds Try.pinned (OpenSpec.ofChange lanesWordsWrong)

/-- 'colonnadelaw03.LanesPacked': WHATEVER THE INPUT: true; the input reads as it did. -/
def lanesPackedSpec : ChangeSpec := { name := "lanesPacked", fn := fun _ => fun
  | [d] => { results := [.lit (.bool true)], args := [d] }
  | _ => none }
def lanesPackedRow : OpenClaim := { program := "ytoephmcmmbhnaab", sum := "6148321d6af3766da91ccbc33c45916a4e4da279a9c6686cdf4101c49ebb5437", func := "colonnade/colonnadelaw03.LanesPacked", spec := "lanesPacked", inPlace := ["math/bits.Add64"], unfollowed := true, recurses := true, apart := false }
def LanesPackedSaid : Prop := lanesPackedRow.holds Try.pinned (OpenSpec.ofChange lanesPackedSpec)

/-- ITS FALSE NEIGHBOUR: 'it returns false'. Refute it at one input. -/
def lanesPackedWrong : ChangeSpec := { name := "lanesPacked", fn := fun _ => fun
  | [d] => { results := [.lit (.bool false)], args := [d] }
  | _ => none }
def LanesPackedWrongFalsely : Prop := lanesPackedRow.holds Try.pinned (OpenSpec.ofChange lanesPackedWrong)

/-- 'colonnadelaw03.LanesWidths': WHATEVER THE INPUT: true; the input reads as it did. -/
def lanesWidthsSpec : ChangeSpec := { name := "lanesWidths", fn := fun _ => fun
  | [d1, d2] => { results := [.lit (.bool true)], args := [d1, d2] }
  | _ => none }
def lanesWidthsRow : OpenClaim := { program := "ytoephmcmmbhnaab", sum := "6148321d6af3766da91ccbc33c45916a4e4da279a9c6686cdf4101c49ebb5437", func := "colonnade/colonnadelaw03.LanesWidths", spec := "lanesWidths", inPlace := ["math/bits.Add64"], unfollowed := true, recurses := true, apart := false }
def LanesWidthsSaid : Prop := lanesWidthsRow.holds Try.pinned (OpenSpec.ofChange lanesWidthsSpec)

/-- ITS FALSE NEIGHBOUR: 'it returns false'. Refute it at one input. -/
def lanesWidthsWrong : ChangeSpec := { name := "lanesWidths", fn := fun _ => fun
  | [d1, d2] => { results := [.lit (.bool false)], args := [d1, d2] }
  | _ => none }
def LanesWidthsWrongFalsely : Prop := lanesWidthsRow.holds Try.pinned (OpenSpec.ofChange lanesWidthsWrong)

/-- 'colonnadelaw03.LanesAlgebra': WHATEVER THE INPUT: true; the input reads as it did. -/
def lanesAlgebraSpec : ChangeSpec := { name := "lanesAlgebra", fn := fun _ => fun
  | [d] => { results := [.lit (.bool true)], args := [d] }
  | _ => none }
def lanesAlgebraRow : OpenClaim := { program := "ytoephmcmmbhnaab", sum := "6148321d6af3766da91ccbc33c45916a4e4da279a9c6686cdf4101c49ebb5437", func := "colonnade/colonnadelaw03.LanesAlgebra", spec := "lanesAlgebra", inPlace := ["math/bits.Add64"], unfollowed := true, recurses := true, apart := false }
def LanesAlgebraSaid : Prop := lanesAlgebraRow.holds Try.pinned (OpenSpec.ofChange lanesAlgebraSpec)

/-- ITS FALSE NEIGHBOUR: 'it returns false'. Refute it at one input. -/
def lanesAlgebraWrong : ChangeSpec := { name := "lanesAlgebra", fn := fun _ => fun
  | [d] => { results := [.lit (.bool false)], args := [d] }
  | _ => none }
def LanesAlgebraWrongFalsely : Prop := lanesAlgebraRow.holds Try.pinned (OpenSpec.ofChange lanesAlgebraWrong)

/- THE SECOND FORM. 'bulk': how many values and letters a reading holds, each counted each time it is reached (what is shared counts as often as it is met; a slice's spare places count too). A statement '..UptoSaid' is the law's where the arguments, and the package variables that the reading takes, are together of bulk at most 1048576: NARROWER than '..Said'. Prove '..Said' where nothing that the law and all that it calls make is longer than what came in: it says more and counts as full. Else prove '..UptoSaid'. A law counts once. -/
mutual
def uptoBulk {H : Type} : DataW H → Nat
  | .lit (.string bytes) => bytes.length + 1
  | .lit _ => 1
  | .nil => 1
  | .ptr d => uptoBulk d + 1
  | .slice elems spare => uptoBulkAll elems + uptoBulkAll spare + 1
  | .agg parts => uptoBulkAll parts + 1
  | .iface _ d => uptoBulk d + 1
  | .map entries => uptoBulkEntries entries + 1
  | .held _ => 1
def uptoBulkAll {H : Type} : List (DataW H) → Nat
  | [] => 0
  | d :: r => uptoBulk d + uptoBulkAll r
def uptoBulkEntries {H : Type} : List (Lit × DataW H) → Nat
  | [] => 0
  | x :: r => uptoBulkEntry x + uptoBulkEntries r
def uptoBulkEntry {H : Type} : Lit × DataW H → Nat
  | (.string bytes, d) => bytes.length + uptoBulk d + 1
  | (_, d) => uptoBulk d + 1
 end
def uptoSmall : (H : Type) → List (DataW H) → Bool := fun _ ds => decide (uptoBulkAll ds ≤ 1048576)
def OpenSpec.upto (s : _root_.Go.ChangeSpec) : _root_.Go.OpenSpec := { _root_.Go.OpenSpec.ofChange s with cond := some uptoSmall }

/-- 'colonnadelaw03.LanesSums', WHERE WHAT IT READS IS OF BULK AT MOST 1048576: true; the input reads as it did. -/
def lanesSumsUptoRow : OpenClaim := { program := "ytoephmcmmbhnaab", sum := "6148321d6af3766da91ccbc33c45916a4e4da279a9c6686cdf4101c49ebb5437", func := "colonnade/colonnadelaw03.LanesSums", spec := "lanesSums", inPlace := ["math/bits.Add64"], unfollowed := true, recurses := true, apart := false, narrowed := true }
def LanesSumsUptoSaid : Prop := lanesSumsUptoRow.holds Try.pinned (OpenSpec.upto lanesSumsSpec)

/-- 'colonnadelaw03.LanesEmpty', WHERE WHAT IT READS IS OF BULK AT MOST 1048576: true; the input reads as it did. -/
def lanesEmptyUptoRow : OpenClaim := { program := "ytoephmcmmbhnaab", sum := "6148321d6af3766da91ccbc33c45916a4e4da279a9c6686cdf4101c49ebb5437", func := "colonnade/colonnadelaw03.LanesEmpty", spec := "lanesEmpty", inPlace := ["math/bits.Add64"], unfollowed := true, recurses := true, apart := false, narrowed := true }
def LanesEmptyUptoSaid : Prop := lanesEmptyUptoRow.holds Try.pinned (OpenSpec.upto lanesEmptySpec)

/-- 'colonnadelaw03.LanesWords', WHERE WHAT IT READS IS OF BULK AT MOST 1048576: true; the input reads as it did. -/
def lanesWordsUptoRow : OpenClaim := { program := "ytoephmcmmbhnaab", sum := "6148321d6af3766da91ccbc33c45916a4e4da279a9c6686cdf4101c49ebb5437", func := "colonnade/colonnadelaw03.LanesWords", spec := "lanesWords", inPlace := ["math/bits.Add64"], unfollowed := true, recurses := true, apart := false, narrowed := true }
def LanesWordsUptoSaid : Prop := lanesWordsUptoRow.holds Try.pinned (OpenSpec.upto lanesWordsSpec)

/-- 'colonnadelaw03.LanesPacked', WHERE WHAT IT READS IS OF BULK AT MOST 1048576: true; the input reads as it did. -/
def lanesPackedUptoRow : OpenClaim := { program := "ytoephmcmmbhnaab", sum := "6148321d6af3766da91ccbc33c45916a4e4da279a9c6686cdf4101c49ebb5437", func := "colonnade/colonnadelaw03.LanesPacked", spec := "lanesPacked", inPlace := ["math/bits.Add64"], unfollowed := true, recurses := true, apart := false, narrowed := true }
def LanesPackedUptoSaid : Prop := lanesPackedUptoRow.holds Try.pinned (OpenSpec.upto lanesPackedSpec)

/-- 'colonnadelaw03.LanesWidths', WHERE WHAT IT READS IS OF BULK AT MOST 1048576: true; the input reads as it did. -/
def lanesWidthsUptoRow : OpenClaim := { program := "ytoephmcmmbhnaab", sum := "6148321d6af3766da91ccbc33c45916a4e4da279a9c6686cdf4101c49ebb5437", func := "colonnade/colonnadelaw03.LanesWidths", spec := "lanesWidths", inPlace := ["math/bits.Add64"], unfollowed := true, recurses := true, apart := false, narrowed := true }
def LanesWidthsUptoSaid : Prop := lanesWidthsUptoRow.holds Try.pinned (OpenSpec.upto lanesWidthsSpec)

/-- 'colonnadelaw03.LanesAlgebra', WHERE WHAT IT READS IS OF BULK AT MOST 1048576: true; the input reads as it did. -/
def lanesAlgebraUptoRow : OpenClaim := { program := "ytoephmcmmbhnaab", sum := "6148321d6af3766da91ccbc33c45916a4e4da279a9c6686cdf4101c49ebb5437", func := "colonnade/colonnadelaw03.LanesAlgebra", spec := "lanesAlgebra", inPlace := ["math/bits.Add64"], unfollowed := true, recurses := true, apart := false, narrowed := true }
def LanesAlgebraUptoSaid : Prop := lanesAlgebraUptoRow.holds Try.pinned (OpenSpec.upto lanesAlgebraSpec)

end Rows
end Go.Proofs.Ytoephmcmmbhnaab
