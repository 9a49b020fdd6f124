/-
  DERIVED. GIVEN WITH THE SEED: THE CARDS: each row of YtlidolocibfbgaaGreatDoorRows.lean that lists a variable, with what it lists TIED to the program's text (the seventh form; the later family's looks); each row that meets fmt, with fmt's text TOLD by the authors' own Lean function (tested against real Go, not proved from fmt's source: count such statements apart). THE CARD IS WHAT COUNTS. Prove the row's statement (the work); the ties are given (YtlidolocibfbgaaGreatDoorTie.lean); close each card by the builder's one call (the guide's Derived/Test/ToyasCard.lean, 'card_holds'). Laid BY PROGRAM, IN A SANDBOX (cutbox-door.mjs). By AI agents, Wed Nov 11 2026. No macro, syntax, notation, axiom, sorry.
-/
import Derived.Test.YtlidolocibfbgaaGreatDoorRows
import GoSem.ClaimSeven
namespace Go.Proofs.YtlidolocibfbgaaGreatDoor
namespace Rows

/-- THE TIED CARD OF 'colonnadelaw22.AggNames'. -/
def aggNamesCard : Claim7 := { stood := { row := aggNamesRow, standIns := [], harness := (true, "7a9362b39e7b1b0210f820df591e083b6ddbb77715ddfbd4f4ce133e3d30ba5e"), looks := true }, kinds := [], alts := [], laidByText := true, laidKinds := [.data], laidTests := true, laidLooks := .later }
def AggNamesCardSaid : Prop := Claim7.holds Tryz.pinned (.plain (OpenSpec.ofChange aggNamesSpec)) aggNamesCard

/-- THE TIED CARD OF 'colonnadelaw12.ChunkNothing'. -/
def chunkNothingCard : Claim7 := { stood := { row := chunkNothingRow, standIns := [], harness := (true, "7a9362b39e7b1b0210f820df591e083b6ddbb77715ddfbd4f4ce133e3d30ba5e"), looks := true }, kinds := [], alts := [], laidByText := true, laidKinds := [.data], laidTests := true, laidLooks := .later }
def ChunkNothingCardSaid : Prop := Claim7.holds Tryz.pinned (.plain (OpenSpec.ofChange chunkNothingSpec)) chunkNothingCard

/-- THE SECOND FORM's CARD OF 'colonnadelaw22.AggNames'. -/
def aggNamesUptoCard : Claim7 := { stood := { row := aggNamesUptoRow, standIns := [], harness := (true, "7a9362b39e7b1b0210f820df591e083b6ddbb77715ddfbd4f4ce133e3d30ba5e"), looks := true }, kinds := [], alts := [], laidByText := true, laidKinds := [.data], laidTests := true, laidLooks := .later }
def AggNamesUptoCardSaid : Prop := Claim7.holds Tryz.pinned (.plain (OpenSpec.upto aggNamesSpec)) aggNamesUptoCard

/-- THE SECOND FORM's CARD OF 'colonnadelaw12.ChunkNothing'. -/
def chunkNothingUptoCard : Claim7 := { stood := { row := chunkNothingUptoRow, standIns := [], harness := (true, "7a9362b39e7b1b0210f820df591e083b6ddbb77715ddfbd4f4ce133e3d30ba5e"), looks := true }, kinds := [], alts := [], laidByText := true, laidKinds := [.data], laidTests := true, laidLooks := .later }
def ChunkNothingUptoCardSaid : Prop := Claim7.holds Tryz.pinned (.plain (OpenSpec.upto chunkNothingSpec)) chunkNothingUptoCard
end Rows
end Go.Proofs.YtlidolocibfbgaaGreatDoor
