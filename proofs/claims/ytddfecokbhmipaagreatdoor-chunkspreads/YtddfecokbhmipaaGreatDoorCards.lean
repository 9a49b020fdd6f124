/-
  DERIVED. GIVEN WITH THE SEED: THE CARDS: each row of YtddfecokbhmipaaGreatDoorRows.lean that lists a variable, with what it lists TIED to the program's text (the seventh form; the later family's looks); each row that meets fmt, with fmt's text TOLD by the authors' own Lean function (tested against real Go, not proved from fmt's source: count such statements apart). THE CARD IS WHAT COUNTS. Prove the row's statement (the work); the ties are given (YtddfecokbhmipaaGreatDoorTie.lean); close each card by the builder's one call (the guide's Derived/Test/ToyasCard.lean, 'card_holds'). Laid BY PROGRAM, IN A SANDBOX (cutbox-door.mjs). By AI agents, Wed Nov 11 2026. No macro, syntax, notation, axiom, sorry.
-/
import Derived.Test.YtddfecokbhmipaaGreatDoorRows
import GoSem.ClaimSeven
namespace Go.Proofs.YtddfecokbhmipaaGreatDoor
namespace Rows

/-- THE TIED CARD OF 'colonnadelaw12.ChunkSpreads'. -/
def chunkSpreadsCard : Claim7 := { stood := { row := chunkSpreadsRow, standIns := [], harness := (true, "4f4e1c6f3b13b766f11808cf4fc339bb5dae9fb2604b8a52972470af2754b84b"), looks := true }, kinds := [], alts := [], laidByText := true, laidKinds := [.data], laidTests := true, laidLooks := .later }
def ChunkSpreadsCardSaid : Prop := Claim7.holds Tryz.pinned (.plain (OpenSpec.ofChange chunkSpreadsSpec)) chunkSpreadsCard

/-- THE TIED CARD OF 'colonnadelaw12.ChunkNothing'. -/
def chunkNothingCard : Claim7 := { stood := { row := chunkNothingRow, standIns := [], harness := (true, "4f4e1c6f3b13b766f11808cf4fc339bb5dae9fb2604b8a52972470af2754b84b"), looks := true }, kinds := [], alts := [], laidByText := true, laidKinds := [.data], laidTests := true, laidLooks := .later }
def ChunkNothingCardSaid : Prop := Claim7.holds Tryz.pinned (.plain (OpenSpec.ofChange chunkNothingSpec)) chunkNothingCard

/-- THE SECOND FORM's CARD OF 'colonnadelaw12.ChunkSpreads'. -/
def chunkSpreadsUptoCard : Claim7 := { stood := { row := chunkSpreadsUptoRow, standIns := [], harness := (true, "4f4e1c6f3b13b766f11808cf4fc339bb5dae9fb2604b8a52972470af2754b84b"), looks := true }, kinds := [], alts := [], laidByText := true, laidKinds := [.data], laidTests := true, laidLooks := .later }
def ChunkSpreadsUptoCardSaid : Prop := Claim7.holds Tryz.pinned (.plain (OpenSpec.upto chunkSpreadsSpec)) chunkSpreadsUptoCard

/-- THE SECOND FORM's CARD OF 'colonnadelaw12.ChunkNothing'. -/
def chunkNothingUptoCard : Claim7 := { stood := { row := chunkNothingUptoRow, standIns := [], harness := (true, "4f4e1c6f3b13b766f11808cf4fc339bb5dae9fb2604b8a52972470af2754b84b"), looks := true }, kinds := [], alts := [], laidByText := true, laidKinds := [.data], laidTests := true, laidLooks := .later }
def ChunkNothingUptoCardSaid : Prop := Claim7.holds Tryz.pinned (.plain (OpenSpec.upto chunkNothingSpec)) chunkNothingUptoCard
end Rows
end Go.Proofs.YtddfecokbhmipaaGreatDoor
