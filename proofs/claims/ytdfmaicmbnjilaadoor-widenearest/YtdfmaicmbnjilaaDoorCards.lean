/-
  DERIVED. GIVEN WITH THE SEED: THE CARDS: each row of YtdfmaicmbnjilaaDoorRows.lean that lists a variable, with what it lists TIED to the program's text (the seventh form; the later family's looks); each row that meets fmt, with fmt's text TOLD by the authors' own Lean function (tested against real Go, not proved from fmt's source: count such statements apart). THE CARD IS WHAT COUNTS. Prove the row's statement (the work); the ties are given (YtdfmaicmbnjilaaDoorTie.lean); close each card by the builder's one call (the guide's Derived/Test/ToyasCard.lean, 'card_holds'). Laid BY PROGRAM, IN A SANDBOX (cutbox-door.mjs). By AI agents, Wed Nov 11 2026. No macro, syntax, notation, axiom, sorry.
-/
import Derived.Test.YtdfmaicmbnjilaaDoorRows
import GoSem.ClaimSeven
namespace Go.Proofs.YtdfmaicmbnjilaaDoor
namespace Rows

/-- THE TIED CARD OF 'colonnadelaw21.WideMeanGoes'. -/
def wideMeanGoesCard : Claim7 := { stood := { row := wideMeanGoesRow, standIns := [], harness := (true, "fabc3f1a27dca95477a20230f476bb2970ccf23ec03eae1b307e2334bc92c88a"), looks := false }, kinds := [], alts := [], laidByText := true, laidKinds := [.data, .data, .data], laidTests := true, laidLooks := .later }
def WideMeanGoesCardSaid : Prop := Claim7.holds Tryd.pinned (.plain (OpenSpec.ofChange wideMeanGoesSpec)) wideMeanGoesCard

/-- THE TIED CARD OF 'colonnadelaw21.WideNearest'. -/
def wideNearestCard : Claim7 := { stood := { row := wideNearestRow, standIns := [], harness := (true, "fabc3f1a27dca95477a20230f476bb2970ccf23ec03eae1b307e2334bc92c88a"), looks := false }, kinds := [], alts := [], laidByText := true, laidKinds := [.data, .data, .data], laidTests := true, laidLooks := .later }
def WideNearestCardSaid : Prop := Claim7.holds Tryd.pinned (.plain (OpenSpec.ofChange wideNearestSpec)) wideNearestCard

/-- THE TIED CARD OF 'colonnadelaw21.WideMeans'. -/
def wideMeansCard : Claim7 := { stood := { row := wideMeansRow, standIns := [], harness := (true, "fabc3f1a27dca95477a20230f476bb2970ccf23ec03eae1b307e2334bc92c88a"), looks := false }, kinds := [], alts := [], laidByText := true, laidKinds := [.data, .data, .data], laidTests := true, laidLooks := .later }
def WideMeansCardSaid : Prop := Claim7.holds Tryd.pinned (.plain (OpenSpec.ofChange wideMeansSpec)) wideMeansCard

/-- THE SECOND FORM's CARD OF 'colonnadelaw21.WideMeanGoes'. -/
def wideMeanGoesUptoCard : Claim7 := { stood := { row := wideMeanGoesUptoRow, standIns := [], harness := (true, "fabc3f1a27dca95477a20230f476bb2970ccf23ec03eae1b307e2334bc92c88a"), looks := false }, kinds := [], alts := [], laidByText := true, laidKinds := [.data, .data, .data], laidTests := true, laidLooks := .later }
def WideMeanGoesUptoCardSaid : Prop := Claim7.holds Tryd.pinned (.plain (OpenSpec.upto wideMeanGoesSpec)) wideMeanGoesUptoCard

/-- THE SECOND FORM's CARD OF 'colonnadelaw21.WideNearest'. -/
def wideNearestUptoCard : Claim7 := { stood := { row := wideNearestUptoRow, standIns := [], harness := (true, "fabc3f1a27dca95477a20230f476bb2970ccf23ec03eae1b307e2334bc92c88a"), looks := false }, kinds := [], alts := [], laidByText := true, laidKinds := [.data, .data, .data], laidTests := true, laidLooks := .later }
def WideNearestUptoCardSaid : Prop := Claim7.holds Tryd.pinned (.plain (OpenSpec.upto wideNearestSpec)) wideNearestUptoCard

/-- THE SECOND FORM's CARD OF 'colonnadelaw21.WideMeans'. -/
def wideMeansUptoCard : Claim7 := { stood := { row := wideMeansUptoRow, standIns := [], harness := (true, "fabc3f1a27dca95477a20230f476bb2970ccf23ec03eae1b307e2334bc92c88a"), looks := false }, kinds := [], alts := [], laidByText := true, laidKinds := [.data, .data, .data], laidTests := true, laidLooks := .later }
def WideMeansUptoCardSaid : Prop := Claim7.holds Tryd.pinned (.plain (OpenSpec.upto wideMeansSpec)) wideMeansUptoCard
end Rows
end Go.Proofs.YtdfmaicmbnjilaaDoor
