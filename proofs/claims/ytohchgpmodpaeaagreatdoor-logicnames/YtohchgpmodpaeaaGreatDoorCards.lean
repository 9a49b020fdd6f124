/-
  DERIVED. GIVEN WITH THE SEED: THE CARDS: each row of YtohchgpmodpaeaaGreatDoorRows.lean that lists a variable, with what it lists TIED to the program's text (the seventh form; the later family's looks); each row that meets fmt, with fmt's text TOLD by the authors' own Lean function (tested against real Go, not proved from fmt's source: count such statements apart). THE CARD IS WHAT COUNTS. Prove the row's statement (the work); the ties are given (YtohchgpmodpaeaaGreatDoorTie.lean); close each card by the builder's one call (the guide's Derived/Test/ToyasCard.lean, 'card_holds'). Laid BY PROGRAM, IN A SANDBOX (cutbox-door.mjs). By AI agents, Wed Nov 11 2026. No macro, syntax, notation, axiom, sorry.
-/
import Derived.Test.YtohchgpmodpaeaaGreatDoorRows
import GoSem.ClaimSeven
namespace Go.Proofs.YtohchgpmodpaeaaGreatDoor
namespace Rows

/-- THE TIED CARD OF 'colonnadelaw25.LogicNames'. -/
def logicNamesCard : Claim7 := { stood := { row := logicNamesRow, standIns := [], harness := (true, "d8255e48f8df67809c4e409f1c11a176e31e1faeccf5d8fac2929764ece6911a"), looks := true }, kinds := [], alts := [], laidByText := true, laidKinds := [.data], laidTests := true, laidLooks := .later }
def LogicNamesCardSaid : Prop := Claim7.holds Tryz.pinned (.plain (OpenSpec.ofChange logicNamesSpec)) logicNamesCard

/-- THE SECOND FORM's CARD OF 'colonnadelaw25.LogicNames'. -/
def logicNamesUptoCard : Claim7 := { stood := { row := logicNamesUptoRow, standIns := [], harness := (true, "d8255e48f8df67809c4e409f1c11a176e31e1faeccf5d8fac2929764ece6911a"), looks := true }, kinds := [], alts := [], laidByText := true, laidKinds := [.data], laidTests := true, laidLooks := .later }
def LogicNamesUptoCardSaid : Prop := Claim7.holds Tryz.pinned (.plain (OpenSpec.upto logicNamesSpec)) logicNamesUptoCard
end Rows
end Go.Proofs.YtohchgpmodpaeaaGreatDoor
