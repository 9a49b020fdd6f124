/-
  DERIVED. GIVEN WITH THE SEED: THE CARDS: each row of YthaafegakjjenaaDoorRows.lean that lists a variable, with what it lists TIED to the program's text (the seventh form; the later family's looks); each row that meets fmt, with fmt's text TOLD by the authors' own Lean function (tested against real Go, not proved from fmt's source: count such statements apart). THE CARD IS WHAT COUNTS. Prove the row's statement (the work); the ties are given (YthaafegakjjenaaDoorTie.lean); close each card by the builder's one call (the guide's Derived/Test/ToyasCard.lean, 'card_holds'). Laid BY PROGRAM, IN A SANDBOX (cutbox-door.mjs). By AI agents, Wed Nov 11 2026. No macro, syntax, notation, axiom, sorry.
-/
import Derived.Test.YthaafegakjjenaaDoorRows
import GoSem.ClaimSeven
namespace Go.Proofs.YthaafegakjjenaaDoor
namespace Rows

/-- THE TIED CARD OF 'colonnadelaw21.WideMeanGoes'. -/
def wideMeanGoesCard : Claim7 := { stood := { row := wideMeanGoesRow, standIns := [], harness := (true, "430c39c8184060cafabdfc1fe565a76ed3a5e4c64aae09dae78b37e9dabe993c"), looks := false }, kinds := [], alts := [], laidByText := true, laidKinds := [.data, .data, .data], laidTests := true, laidLooks := .later }
def WideMeanGoesCardSaid : Prop := Claim7.holds Tryd.pinned (.plain (OpenSpec.ofChange wideMeanGoesSpec)) wideMeanGoesCard

/-- THE TIED CARD OF 'colonnadelaw21.WideMeans'. -/
def wideMeansCard : Claim7 := { stood := { row := wideMeansRow, standIns := [], harness := (true, "430c39c8184060cafabdfc1fe565a76ed3a5e4c64aae09dae78b37e9dabe993c"), looks := false }, kinds := [], alts := [], laidByText := true, laidKinds := [.data, .data, .data], laidTests := true, laidLooks := .later }
def WideMeansCardSaid : Prop := Claim7.holds Tryd.pinned (.plain (OpenSpec.ofChange wideMeansSpec)) wideMeansCard

/-- THE TIED CARD OF 'colonnadelaw21.WideNearest'. -/
def wideNearestCard : Claim7 := { stood := { row := wideNearestRow, standIns := [], harness := (true, "430c39c8184060cafabdfc1fe565a76ed3a5e4c64aae09dae78b37e9dabe993c"), looks := false }, kinds := [], alts := [], laidByText := true, laidKinds := [.data, .data, .data], laidTests := true, laidLooks := .later }
def WideNearestCardSaid : Prop := Claim7.holds Tryd.pinned (.plain (OpenSpec.ofChange wideNearestSpec)) wideNearestCard

/-- THE TIED CARD OF 'colonnadelaw21.WideTexts'. -/
def wideTextsCard : Claim7 := { stood := { row := wideTextsRow, standIns := [], harness := (true, "430c39c8184060cafabdfc1fe565a76ed3a5e4c64aae09dae78b37e9dabe993c"), looks := false }, kinds := [], alts := [], laidByText := true, laidKinds := [.data, .data, .data], laidTests := true, laidLooks := .later }
def WideTextsCardSaid : Prop := Claim7.holds Tryd.pinned (.plain (OpenSpec.ofChange wideTextsSpec)) wideTextsCard

/-- THE TIED CARD OF 'colonnadelaw21.WideReads'. -/
def wideReadsCard : Claim7 := { stood := { row := wideReadsRow, standIns := [], harness := (true, "430c39c8184060cafabdfc1fe565a76ed3a5e4c64aae09dae78b37e9dabe993c"), looks := false }, kinds := [], alts := [], laidByText := true, laidKinds := [.data, .data, .data], laidTests := true, laidLooks := .later }
def WideReadsCardSaid : Prop := Claim7.holds Tryd.pinned (.plain (OpenSpec.ofChange wideReadsSpec)) wideReadsCard

/-- THE SECOND FORM's CARD OF 'colonnadelaw21.WideMeanGoes'. -/
def wideMeanGoesUptoCard : Claim7 := { stood := { row := wideMeanGoesUptoRow, standIns := [], harness := (true, "430c39c8184060cafabdfc1fe565a76ed3a5e4c64aae09dae78b37e9dabe993c"), looks := false }, kinds := [], alts := [], laidByText := true, laidKinds := [.data, .data, .data], laidTests := true, laidLooks := .later }
def WideMeanGoesUptoCardSaid : Prop := Claim7.holds Tryd.pinned (.plain (OpenSpec.upto wideMeanGoesSpec)) wideMeanGoesUptoCard

/-- THE SECOND FORM's CARD OF 'colonnadelaw21.WideMeans'. -/
def wideMeansUptoCard : Claim7 := { stood := { row := wideMeansUptoRow, standIns := [], harness := (true, "430c39c8184060cafabdfc1fe565a76ed3a5e4c64aae09dae78b37e9dabe993c"), looks := false }, kinds := [], alts := [], laidByText := true, laidKinds := [.data, .data, .data], laidTests := true, laidLooks := .later }
def WideMeansUptoCardSaid : Prop := Claim7.holds Tryd.pinned (.plain (OpenSpec.upto wideMeansSpec)) wideMeansUptoCard

/-- THE SECOND FORM's CARD OF 'colonnadelaw21.WideNearest'. -/
def wideNearestUptoCard : Claim7 := { stood := { row := wideNearestUptoRow, standIns := [], harness := (true, "430c39c8184060cafabdfc1fe565a76ed3a5e4c64aae09dae78b37e9dabe993c"), looks := false }, kinds := [], alts := [], laidByText := true, laidKinds := [.data, .data, .data], laidTests := true, laidLooks := .later }
def WideNearestUptoCardSaid : Prop := Claim7.holds Tryd.pinned (.plain (OpenSpec.upto wideNearestSpec)) wideNearestUptoCard

/-- THE SECOND FORM's CARD OF 'colonnadelaw21.WideTexts'. -/
def wideTextsUptoCard : Claim7 := { stood := { row := wideTextsUptoRow, standIns := [], harness := (true, "430c39c8184060cafabdfc1fe565a76ed3a5e4c64aae09dae78b37e9dabe993c"), looks := false }, kinds := [], alts := [], laidByText := true, laidKinds := [.data, .data, .data], laidTests := true, laidLooks := .later }
def WideTextsUptoCardSaid : Prop := Claim7.holds Tryd.pinned (.plain (OpenSpec.upto wideTextsSpec)) wideTextsUptoCard

/-- THE SECOND FORM's CARD OF 'colonnadelaw21.WideReads'. -/
def wideReadsUptoCard : Claim7 := { stood := { row := wideReadsUptoRow, standIns := [], harness := (true, "430c39c8184060cafabdfc1fe565a76ed3a5e4c64aae09dae78b37e9dabe993c"), looks := false }, kinds := [], alts := [], laidByText := true, laidKinds := [.data, .data, .data], laidTests := true, laidLooks := .later }
def WideReadsUptoCardSaid : Prop := Claim7.holds Tryd.pinned (.plain (OpenSpec.upto wideReadsSpec)) wideReadsUptoCard
end Rows
end Go.Proofs.YthaafegakjjenaaDoor
