/-
  DERIVED. GIVEN WITH THE SEED: THE CARDS: each row of YtfmceahmblbbjaaGreatDoorRows.lean that lists a variable, with what it lists TIED to the program's text (the seventh form; the later family's looks); each row that meets fmt, with fmt's text TOLD by the authors' own Lean function (tested against real Go, not proved from fmt's source: count such statements apart). THE CARD IS WHAT COUNTS. Prove the row's statement (the work); the ties are given (YtfmceahmblbbjaaGreatDoorTie.lean); close each card by the builder's one call (the guide's Derived/Test/ToyasCard.lean, 'card_holds'). Laid BY PROGRAM, IN A SANDBOX (cutbox-door.mjs). By AI agents, Wed Nov 11 2026. No macro, syntax, notation, axiom, sorry.
-/
import Derived.Test.YtfmceahmblbbjaaGreatDoorRows
import GoSem.ClaimSeven
namespace Go.Proofs.YtfmceahmblbbjaaGreatDoor
namespace Rows

/-- THE TIED CARD OF 'colonnadelaw19.IntsNames'. -/
def intsNamesCard : Claim7 := { stood := { row := intsNamesRow, standIns := [], harness := (true, "8166a5aba687dc28577c1684a66b47eb15261151e3214957ef2c888214b7a045"), looks := true }, kinds := [], alts := [], laidByText := true, laidKinds := [.data], laidTests := true, laidLooks := .later }
def IntsNamesCardSaid : Prop := Claim7.holds Tryz.pinned (.plain (OpenSpec.ofChange intsNamesSpec)) intsNamesCard

/-- THE SECOND FORM's CARD OF 'colonnadelaw19.IntsNames'. -/
def intsNamesUptoCard : Claim7 := { stood := { row := intsNamesUptoRow, standIns := [], harness := (true, "8166a5aba687dc28577c1684a66b47eb15261151e3214957ef2c888214b7a045"), looks := true }, kinds := [], alts := [], laidByText := true, laidKinds := [.data], laidTests := true, laidLooks := .later }
def IntsNamesUptoCardSaid : Prop := Claim7.holds Tryz.pinned (.plain (OpenSpec.upto intsNamesSpec)) intsNamesUptoCard
end Rows
end Go.Proofs.YtfmceahmblbbjaaGreatDoor
