/-
  DERIVED. GIVEN WITH THE SEED: THE CARDS: each row of YtlchcckhplclcaaDoorRows.lean that lists a variable, with what it lists TIED to the program's text (the seventh form; the later family's looks); each row that meets fmt, with fmt's text TOLD by the authors' own Lean function (tested against real Go, not proved from fmt's source: count such statements apart). THE CARD IS WHAT COUNTS. Prove the row's statement (the work); the ties are given (YtlchcckhplclcaaDoorTie.lean); close each card by the builder's one call (the guide's Derived/Test/ToyasCard.lean, 'card_holds'). Laid BY PROGRAM, IN A SANDBOX (cutbox-door.mjs). By AI agents, Wed Nov 11 2026. No macro, syntax, notation, axiom, sorry.
-/
import Derived.Test.YtlchcckhplclcaaDoorRows
import GoSem.ClaimSeven
namespace Go.Proofs.YtlchcckhplclcaaDoor
namespace Rows

/-- THE TIED CARD OF 'colonnadelaw21.WideAnyOrder'. -/
def wideAnyOrderCard : Claim7 := { stood := { row := wideAnyOrderRow, standIns := [], harness := (true, "560a2dc853b8ec8f9f0843cb7f2042e02e2d38be3b73cc6ca99d8329e1ec47b4"), looks := false }, kinds := [], alts := [], laidByText := true, laidKinds := [.data, .data, .data], laidTests := true, laidLooks := .later }
def WideAnyOrderCardSaid : Prop := Claim7.holds Tryd.pinned (.plain (OpenSpec.ofChange wideAnyOrderSpec)) wideAnyOrderCard

/-- THE TIED CARD OF 'colonnadelaw21.WideInts'. -/
def wideIntsCard : Claim7 := { stood := { row := wideIntsRow, standIns := [], harness := (true, "560a2dc853b8ec8f9f0843cb7f2042e02e2d38be3b73cc6ca99d8329e1ec47b4"), looks := false }, kinds := [], alts := [], laidByText := true, laidKinds := [.data, .data, .data], laidTests := true, laidLooks := .later }
def WideIntsCardSaid : Prop := Claim7.holds Tryd.pinned (.plain (OpenSpec.ofChange wideIntsSpec)) wideIntsCard

/-- THE TIED CARD OF 'colonnadelaw21.WideAdds'. -/
def wideAddsCard : Claim7 := { stood := { row := wideAddsRow, standIns := [], harness := (true, "560a2dc853b8ec8f9f0843cb7f2042e02e2d38be3b73cc6ca99d8329e1ec47b4"), looks := false }, kinds := [], alts := [], laidByText := true, laidKinds := [.data, .data, .data], laidTests := true, laidLooks := .later }
def WideAddsCardSaid : Prop := Claim7.holds Tryd.pinned (.plain (OpenSpec.ofChange wideAddsSpec)) wideAddsCard

/-- THE TIED CARD OF 'colonnadelaw21.WideOfs'. -/
def wideOfsCard : Claim7 := { stood := { row := wideOfsRow, standIns := [], harness := (true, "560a2dc853b8ec8f9f0843cb7f2042e02e2d38be3b73cc6ca99d8329e1ec47b4"), looks := false }, kinds := [], alts := [], laidByText := true, laidKinds := [.data, .data, .data], laidTests := true, laidLooks := .later }
def WideOfsCardSaid : Prop := Claim7.holds Tryd.pinned (.plain (OpenSpec.ofChange wideOfsSpec)) wideOfsCard

/-- THE TIED CARD OF 'colonnadelaw21.WideSums'. -/
def wideSumsCard : Claim7 := { stood := { row := wideSumsRow, standIns := [], harness := (true, "560a2dc853b8ec8f9f0843cb7f2042e02e2d38be3b73cc6ca99d8329e1ec47b4"), looks := false }, kinds := [], alts := [], laidByText := true, laidKinds := [.data, .data, .data], laidTests := true, laidLooks := .later }
def WideSumsCardSaid : Prop := Claim7.holds Tryd.pinned (.plain (OpenSpec.ofChange wideSumsSpec)) wideSumsCard

/-- THE SECOND FORM's CARD OF 'colonnadelaw21.WideAnyOrder'. -/
def wideAnyOrderUptoCard : Claim7 := { stood := { row := wideAnyOrderUptoRow, standIns := [], harness := (true, "560a2dc853b8ec8f9f0843cb7f2042e02e2d38be3b73cc6ca99d8329e1ec47b4"), looks := false }, kinds := [], alts := [], laidByText := true, laidKinds := [.data, .data, .data], laidTests := true, laidLooks := .later }
def WideAnyOrderUptoCardSaid : Prop := Claim7.holds Tryd.pinned (.plain (OpenSpec.upto wideAnyOrderSpec)) wideAnyOrderUptoCard

/-- THE SECOND FORM's CARD OF 'colonnadelaw21.WideInts'. -/
def wideIntsUptoCard : Claim7 := { stood := { row := wideIntsUptoRow, standIns := [], harness := (true, "560a2dc853b8ec8f9f0843cb7f2042e02e2d38be3b73cc6ca99d8329e1ec47b4"), looks := false }, kinds := [], alts := [], laidByText := true, laidKinds := [.data, .data, .data], laidTests := true, laidLooks := .later }
def WideIntsUptoCardSaid : Prop := Claim7.holds Tryd.pinned (.plain (OpenSpec.upto wideIntsSpec)) wideIntsUptoCard

/-- THE SECOND FORM's CARD OF 'colonnadelaw21.WideAdds'. -/
def wideAddsUptoCard : Claim7 := { stood := { row := wideAddsUptoRow, standIns := [], harness := (true, "560a2dc853b8ec8f9f0843cb7f2042e02e2d38be3b73cc6ca99d8329e1ec47b4"), looks := false }, kinds := [], alts := [], laidByText := true, laidKinds := [.data, .data, .data], laidTests := true, laidLooks := .later }
def WideAddsUptoCardSaid : Prop := Claim7.holds Tryd.pinned (.plain (OpenSpec.upto wideAddsSpec)) wideAddsUptoCard

/-- THE SECOND FORM's CARD OF 'colonnadelaw21.WideOfs'. -/
def wideOfsUptoCard : Claim7 := { stood := { row := wideOfsUptoRow, standIns := [], harness := (true, "560a2dc853b8ec8f9f0843cb7f2042e02e2d38be3b73cc6ca99d8329e1ec47b4"), looks := false }, kinds := [], alts := [], laidByText := true, laidKinds := [.data, .data, .data], laidTests := true, laidLooks := .later }
def WideOfsUptoCardSaid : Prop := Claim7.holds Tryd.pinned (.plain (OpenSpec.upto wideOfsSpec)) wideOfsUptoCard

/-- THE SECOND FORM's CARD OF 'colonnadelaw21.WideSums'. -/
def wideSumsUptoCard : Claim7 := { stood := { row := wideSumsUptoRow, standIns := [], harness := (true, "560a2dc853b8ec8f9f0843cb7f2042e02e2d38be3b73cc6ca99d8329e1ec47b4"), looks := false }, kinds := [], alts := [], laidByText := true, laidKinds := [.data, .data, .data], laidTests := true, laidLooks := .later }
def WideSumsUptoCardSaid : Prop := Claim7.holds Tryd.pinned (.plain (OpenSpec.upto wideSumsSpec)) wideSumsUptoCard
end Rows
end Go.Proofs.YtlchcckhplclcaaDoor
