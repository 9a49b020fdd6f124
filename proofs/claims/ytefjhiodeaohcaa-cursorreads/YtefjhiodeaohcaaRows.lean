/-
  No cell of these rows narrows 'for every input' (looked for: loops, veiled, ifaces, maps, wideKeys, modest, calm, conditions, laid).
  DERIVED. THE GIVEN ROWS OF THIS SEAT. 5 by the template 'for every input the law returns true; each argument reads behind the call as it read before'; 0 by the template 'total and deterministic' (their statements: YtefjhiodeaohcaaTotals.lean).
  GIVEN WITH THE SEED: the statements are not yours to turn. If you find one false, say at which input.
  Laid BY PROGRAM, IN A SANDBOX (cutbox-rows.mjs): the forced cells as the released guide's own fill.sh prints them over the translation f25915d7261244b3… (all of the seat's roots in one cut). By AI agents, Wed Nov 11 2026. No macro, syntax, notation, axiom, sorry.
-/
import Derived.Test.YtefjhiodeaohcaaChecked
import GoSem.Claim
import GoSem.ClaimJoined
import GoSem.ClaimMapViews
import Derived.JoinedTies
import Derived.KernelRfl
namespace Go.Proofs.Ytefjhiodeaohcaa
/- THE CELL 'sum', in the pinned program and in every row, IS THE sha256 OF THE DUMP (.gsa) THAT YtefjhiodeaohcaaProg.lean LOADS. Nothing in Lean hashes anything: it is a label: what it is worth is what the hold of that sum in a sandbox is worth. -/
noncomputable def Try.pinned : Pinned := { name := "ytefjhiodeaohcaa", sum := "f25915d7261244b3d059818b32739951d0fd026e9debfeb85da8e3c5d4054906", checked := Try.checked }
namespace Rows
def none {H : Type} : Left H := { results := [], args := [] }

/-- 'colonnadelaw07.CursorReads': WHATEVER THE INPUT: true; the input reads as it did. -/
def cursorReadsSpec : ChangeSpec := { name := "cursorReads", fn := fun _ => fun
  | [d1, d2, d3] => { results := [.lit (.bool true)], args := [d1, d2, d3] }
  | _ => none }
def cursorReadsRow : OpenClaim := { program := "ytefjhiodeaohcaa", sum := "f25915d7261244b3d059818b32739951d0fd026e9debfeb85da8e3c5d4054906", func := "colonnade/colonnadelaw07.CursorReads", spec := "cursorReads", unfollowed := true, recurses := true, apart := false }
def CursorReadsSaid : Prop := cursorReadsRow.holds Try.pinned (OpenSpec.ofChange cursorReadsSpec)

/-- ITS FALSE NEIGHBOUR: 'it returns false'. Refute it at one input. -/
def cursorReadsWrong : ChangeSpec := { name := "cursorReads", fn := fun _ => fun
  | [d1, d2, d3] => { results := [.lit (.bool false)], args := [d1, d2, d3] }
  | _ => none }
def CursorReadsWrongFalsely : Prop := cursorReadsRow.holds Try.pinned (OpenSpec.ofChange cursorReadsWrong)

/-- 'colonnadelaw07.CursorBack': WHATEVER THE INPUT: true; the input reads as it did. -/
def cursorBackSpec : ChangeSpec := { name := "cursorBack", fn := fun _ => fun
  | [d1, d2] => { results := [.lit (.bool true)], args := [d1, d2] }
  | _ => none }
def cursorBackRow : OpenClaim := { program := "ytefjhiodeaohcaa", sum := "f25915d7261244b3d059818b32739951d0fd026e9debfeb85da8e3c5d4054906", func := "colonnade/colonnadelaw07.CursorBack", spec := "cursorBack", unfollowed := true, recurses := true, apart := false }
def CursorBackSaid : Prop := cursorBackRow.holds Try.pinned (OpenSpec.ofChange cursorBackSpec)

/-- ITS FALSE NEIGHBOUR: 'it returns false'. Refute it at one input. -/
def cursorBackWrong : ChangeSpec := { name := "cursorBack", fn := fun _ => fun
  | [d1, d2] => { results := [.lit (.bool false)], args := [d1, d2] }
  | _ => none }
def CursorBackWrongFalsely : Prop := cursorBackRow.holds Try.pinned (OpenSpec.ofChange cursorBackWrong)

/-- 'colonnadelaw07.CursorForm': WHATEVER THE INPUT: true; the input reads as it did. -/
def cursorFormSpec : ChangeSpec := { name := "cursorForm", fn := fun _ => fun
  | [d1, d2] => { results := [.lit (.bool true)], args := [d1, d2] }
  | _ => none }
def cursorFormRow : OpenClaim := { program := "ytefjhiodeaohcaa", sum := "f25915d7261244b3d059818b32739951d0fd026e9debfeb85da8e3c5d4054906", func := "colonnade/colonnadelaw07.CursorForm", spec := "cursorForm", unfollowed := true, recurses := true, apart := false }
def CursorFormSaid : Prop := cursorFormRow.holds Try.pinned (OpenSpec.ofChange cursorFormSpec)

/-- ITS FALSE NEIGHBOUR: 'it returns false'. Refute it at one input. -/
def cursorFormWrong : ChangeSpec := { name := "cursorForm", fn := fun _ => fun
  | [d1, d2] => { results := [.lit (.bool false)], args := [d1, d2] }
  | _ => none }
def CursorFormWrongFalsely : Prop := cursorFormRow.holds Try.pinned (OpenSpec.ofChange cursorFormWrong)

/-- 'colonnadelaw07.CursorSticky': WHATEVER THE INPUT: true; the input reads as it did. -/
def cursorStickySpec : ChangeSpec := { name := "cursorSticky", fn := fun _ => fun
  | [d1, d2] => { results := [.lit (.bool true)], args := [d1, d2] }
  | _ => none }
def cursorStickyRow : OpenClaim := { program := "ytefjhiodeaohcaa", sum := "f25915d7261244b3d059818b32739951d0fd026e9debfeb85da8e3c5d4054906", func := "colonnade/colonnadelaw07.CursorSticky", spec := "cursorSticky", unfollowed := true, recurses := true, apart := false }
def CursorStickySaid : Prop := cursorStickyRow.holds Try.pinned (OpenSpec.ofChange cursorStickySpec)

/-- ITS FALSE NEIGHBOUR: 'it returns false'. Refute it at one input. -/
def cursorStickyWrong : ChangeSpec := { name := "cursorSticky", fn := fun _ => fun
  | [d1, d2] => { results := [.lit (.bool false)], args := [d1, d2] }
  | _ => none }
def CursorStickyWrongFalsely : Prop := cursorStickyRow.holds Try.pinned (OpenSpec.ofChange cursorStickyWrong)

/-- 'colonnadelaw07.CursorMemory': WHATEVER THE INPUT: true; the input reads as it did. -/
def cursorMemorySpec : ChangeSpec := { name := "cursorMemory", fn := fun _ => fun
  | [d1, d2] => { results := [.lit (.bool true)], args := [d1, d2] }
  | _ => none }
def cursorMemoryRow : OpenClaim := { program := "ytefjhiodeaohcaa", sum := "f25915d7261244b3d059818b32739951d0fd026e9debfeb85da8e3c5d4054906", func := "colonnade/colonnadelaw07.CursorMemory", spec := "cursorMemory", unfollowed := true, recurses := true, apart := false }
def CursorMemorySaid : Prop := cursorMemoryRow.holds Try.pinned (OpenSpec.ofChange cursorMemorySpec)

/-- ITS FALSE NEIGHBOUR: 'it returns false'. Refute it at one input. -/
def cursorMemoryWrong : ChangeSpec := { name := "cursorMemory", fn := fun _ => fun
  | [d1, d2] => { results := [.lit (.bool false)], args := [d1, d2] }
  | _ => none }
def CursorMemoryWrongFalsely : Prop := cursorMemoryRow.holds Try.pinned (OpenSpec.ofChange cursorMemoryWrong)

/- THE SECOND FORM. 'bulk': how many values and letters a reading holds, each counted each time it is reached (what is shared counts as often as it is met; a slice's spare places count too). A statement '..UptoSaid' is the law's where the arguments, and the package variables that the reading takes, are together of bulk at most 1048576: NARROWER than '..Said'. Prove '..Said' where nothing that the law and all that it calls make is longer than what came in: it says more and counts as full. Else prove '..UptoSaid'. A law counts once. -/
mutual
def uptoBulk {H : Type} : DataW H → Nat
  | .lit (.string bytes) => bytes.length + 1
  | .lit _ => 1
  | .nil => 1
  | .ptr d => uptoBulk d + 1
  | .slice elems spare => uptoBulkAll elems + uptoBulkAll spare + 1
  | .agg parts => uptoBulkAll parts + 1
  | .iface _ d => uptoBulk d + 1
  | .map entries => uptoBulkEntries entries + 1
  | .held _ => 1
def uptoBulkAll {H : Type} : List (DataW H) → Nat
  | [] => 0
  | d :: r => uptoBulk d + uptoBulkAll r
def uptoBulkEntries {H : Type} : List (Lit × DataW H) → Nat
  | [] => 0
  | x :: r => uptoBulkEntry x + uptoBulkEntries r
def uptoBulkEntry {H : Type} : Lit × DataW H → Nat
  | (.string bytes, d) => bytes.length + uptoBulk d + 1
  | (_, d) => uptoBulk d + 1
 end
def uptoSmall : (H : Type) → List (DataW H) → Bool := fun _ ds => decide (uptoBulkAll ds ≤ 1048576)
def OpenSpec.upto (s : _root_.Go.ChangeSpec) : _root_.Go.OpenSpec := { _root_.Go.OpenSpec.ofChange s with cond := some uptoSmall }

/-- 'colonnadelaw07.CursorReads', WHERE WHAT IT READS IS OF BULK AT MOST 1048576: true; the input reads as it did. -/
def cursorReadsUptoRow : OpenClaim := { program := "ytefjhiodeaohcaa", sum := "f25915d7261244b3d059818b32739951d0fd026e9debfeb85da8e3c5d4054906", func := "colonnade/colonnadelaw07.CursorReads", spec := "cursorReads", unfollowed := true, recurses := true, apart := false, narrowed := true }
def CursorReadsUptoSaid : Prop := cursorReadsUptoRow.holds Try.pinned (OpenSpec.upto cursorReadsSpec)

/-- 'colonnadelaw07.CursorBack', WHERE WHAT IT READS IS OF BULK AT MOST 1048576: true; the input reads as it did. -/
def cursorBackUptoRow : OpenClaim := { program := "ytefjhiodeaohcaa", sum := "f25915d7261244b3d059818b32739951d0fd026e9debfeb85da8e3c5d4054906", func := "colonnade/colonnadelaw07.CursorBack", spec := "cursorBack", unfollowed := true, recurses := true, apart := false, narrowed := true }
def CursorBackUptoSaid : Prop := cursorBackUptoRow.holds Try.pinned (OpenSpec.upto cursorBackSpec)

/-- 'colonnadelaw07.CursorForm', WHERE WHAT IT READS IS OF BULK AT MOST 1048576: true; the input reads as it did. -/
def cursorFormUptoRow : OpenClaim := { program := "ytefjhiodeaohcaa", sum := "f25915d7261244b3d059818b32739951d0fd026e9debfeb85da8e3c5d4054906", func := "colonnade/colonnadelaw07.CursorForm", spec := "cursorForm", unfollowed := true, recurses := true, apart := false, narrowed := true }
def CursorFormUptoSaid : Prop := cursorFormUptoRow.holds Try.pinned (OpenSpec.upto cursorFormSpec)

/-- 'colonnadelaw07.CursorSticky', WHERE WHAT IT READS IS OF BULK AT MOST 1048576: true; the input reads as it did. -/
def cursorStickyUptoRow : OpenClaim := { program := "ytefjhiodeaohcaa", sum := "f25915d7261244b3d059818b32739951d0fd026e9debfeb85da8e3c5d4054906", func := "colonnade/colonnadelaw07.CursorSticky", spec := "cursorSticky", unfollowed := true, recurses := true, apart := false, narrowed := true }
def CursorStickyUptoSaid : Prop := cursorStickyUptoRow.holds Try.pinned (OpenSpec.upto cursorStickySpec)

/-- 'colonnadelaw07.CursorMemory', WHERE WHAT IT READS IS OF BULK AT MOST 1048576: true; the input reads as it did. -/
def cursorMemoryUptoRow : OpenClaim := { program := "ytefjhiodeaohcaa", sum := "f25915d7261244b3d059818b32739951d0fd026e9debfeb85da8e3c5d4054906", func := "colonnade/colonnadelaw07.CursorMemory", spec := "cursorMemory", unfollowed := true, recurses := true, apart := false, narrowed := true }
def CursorMemoryUptoSaid : Prop := cursorMemoryUptoRow.holds Try.pinned (OpenSpec.upto cursorMemorySpec)

end Rows
end Go.Proofs.Ytefjhiodeaohcaa
