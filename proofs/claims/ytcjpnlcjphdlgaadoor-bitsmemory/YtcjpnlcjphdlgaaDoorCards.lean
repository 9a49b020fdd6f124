/-
  DERIVED. GIVEN WITH THE SEED: THE CARDS: each row of YtcjpnlcjphdlgaaDoorRows.lean that lists a variable, with what it lists TIED to the program's text (the seventh form; the later family's looks); each row that meets fmt, with fmt's text TOLD by the authors' own Lean function (tested against real Go, not proved from fmt's source: count such statements apart). THE CARD IS WHAT COUNTS. Prove the row's statement (the work); the ties are given (YtcjpnlcjphdlgaaDoorTie.lean); close each card by the builder's one call (the guide's Derived/Test/ToyasCard.lean, 'card_holds'). Laid BY PROGRAM, IN A SANDBOX (cutbox-door.mjs). By AI agents, Wed Nov 11 2026. No macro, syntax, notation, axiom, sorry.
-/
import Derived.Test.YtcjpnlcjphdlgaaDoorRows
import GoSem.ClaimSeven
namespace Go.Proofs.YtcjpnlcjphdlgaaDoor
namespace Rows

/-- THE TIED CARD OF 'colonnadelaw01.BitsScripts'. -/
def bitsScriptsCard : Claim7 := { stood := { row := bitsScriptsRow, standIns := [], harness := (true, "30ff1ec558cd3265e20f68ec36450051084288a010a7415a68fec7a0f07e18a3"), looks := true }, kinds := [], alts := [], laidByText := true, laidKinds := [.data], laidTests := true, laidLooks := .later }
def BitsScriptsCardSaid : Prop := Claim7.holds Tryd.pinned (.plain (OpenSpec.ofChange bitsScriptsSpec)) bitsScriptsCard

/-- THE TIED CARD OF 'colonnadelaw01.BitsMemory'. -/
def bitsMemoryCard : Claim7 := { stood := { row := bitsMemoryRow, standIns := [], harness := (true, "30ff1ec558cd3265e20f68ec36450051084288a010a7415a68fec7a0f07e18a3"), looks := true }, kinds := [], alts := [], laidByText := true, laidKinds := [.data], laidTests := true, laidLooks := .later }
def BitsMemoryCardSaid : Prop := Claim7.holds Tryd.pinned (.plain (OpenSpec.ofChange bitsMemorySpec)) bitsMemoryCard

/-- THE TIED CARD OF 'colonnadelaw04.SelScripts'. -/
def selScriptsCard : Claim7 := { stood := { row := selScriptsRow, standIns := [], harness := (true, "30ff1ec558cd3265e20f68ec36450051084288a010a7415a68fec7a0f07e18a3"), looks := true }, kinds := [], alts := [], laidByText := true, laidKinds := [.data], laidTests := true, laidLooks := .later }
def SelScriptsCardSaid : Prop := Claim7.holds Tryd.pinned (.plain (OpenSpec.ofChange selScriptsSpec)) selScriptsCard

/-- THE SECOND FORM's CARD OF 'colonnadelaw01.BitsScripts'. -/
def bitsScriptsUptoCard : Claim7 := { stood := { row := bitsScriptsUptoRow, standIns := [], harness := (true, "30ff1ec558cd3265e20f68ec36450051084288a010a7415a68fec7a0f07e18a3"), looks := true }, kinds := [], alts := [], laidByText := true, laidKinds := [.data], laidTests := true, laidLooks := .later }
def BitsScriptsUptoCardSaid : Prop := Claim7.holds Tryd.pinned (.plain (OpenSpec.upto bitsScriptsSpec)) bitsScriptsUptoCard

/-- THE SECOND FORM's CARD OF 'colonnadelaw01.BitsMemory'. -/
def bitsMemoryUptoCard : Claim7 := { stood := { row := bitsMemoryUptoRow, standIns := [], harness := (true, "30ff1ec558cd3265e20f68ec36450051084288a010a7415a68fec7a0f07e18a3"), looks := true }, kinds := [], alts := [], laidByText := true, laidKinds := [.data], laidTests := true, laidLooks := .later }
def BitsMemoryUptoCardSaid : Prop := Claim7.holds Tryd.pinned (.plain (OpenSpec.upto bitsMemorySpec)) bitsMemoryUptoCard

/-- THE SECOND FORM's CARD OF 'colonnadelaw04.SelScripts'. -/
def selScriptsUptoCard : Claim7 := { stood := { row := selScriptsUptoRow, standIns := [], harness := (true, "30ff1ec558cd3265e20f68ec36450051084288a010a7415a68fec7a0f07e18a3"), looks := true }, kinds := [], alts := [], laidByText := true, laidKinds := [.data], laidTests := true, laidLooks := .later }
def SelScriptsUptoCardSaid : Prop := Claim7.holds Tryd.pinned (.plain (OpenSpec.upto selScriptsSpec)) selScriptsUptoCard
end Rows
end Go.Proofs.YtcjpnlcjphdlgaaDoor
