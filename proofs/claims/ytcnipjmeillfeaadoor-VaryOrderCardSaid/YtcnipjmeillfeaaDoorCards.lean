/-
  DERIVED. GIVEN WITH THE SEED: THE CARDS: each row of YtcnipjmeillfeaaDoorRows.lean that lists a variable, with what it lists TIED to the program's text (the seventh form; the later family's looks); each row that meets fmt, with fmt's text TOLD by the authors' own Lean function (tested against real Go, not proved from fmt's source: count such statements apart). THE CARD IS WHAT COUNTS. Prove the row's statement (the work); the ties are given (YtcnipjmeillfeaaDoorTie.lean); close each card by the builder's one call (the guide's Derived/Test/ToyasCard.lean, 'card_holds'). Laid BY PROGRAM, IN A SANDBOX (cutbox-door.mjs). By AI agents, Wed Nov 11 2026. No macro, syntax, notation, axiom, sorry.
-/
import Derived.Test.YtcnipjmeillfeaaDoorRows
import GoSem.ClaimSeven
namespace Go.Proofs.YtcnipjmeillfeaaDoor
namespace Rows

/-- THE TIED CARD OF 'gatepostlaw11.VaryTells'. -/
def varyTellsCard : Claim7 := { stood := { row := varyTellsRow, standIns := [], harness := (true, "abf5b9a18fb37ffc67a78a0e865d97088b77853c9927b4883be9b26ffb64a6ff"), looks := false }, kinds := [], alts := [], laidByText := true, laidKinds := [.data, .data, .data, .data], laidTests := true, laidLooks := .later }
def VaryTellsCardSaid : Prop := Claim7.holds Tryd.pinned (.plain (OpenSpec.ofChange varyTellsSpec)) varyTellsCard

/-- THE TIED CARD OF 'gatepostlaw11.VaryParts'. -/
def varyPartsCard : Claim7 := { stood := { row := varyPartsRow, standIns := [], harness := (true, "abf5b9a18fb37ffc67a78a0e865d97088b77853c9927b4883be9b26ffb64a6ff"), looks := false }, kinds := [], alts := [], laidByText := true, laidKinds := [.data, .data, .data], laidTests := true, laidLooks := .later }
def VaryPartsCardSaid : Prop := Claim7.holds Tryd.pinned (.plain (OpenSpec.ofChange varyPartsSpec)) varyPartsCard

/-- THE TIED CARD OF 'gatepostlaw11.VaryOrder'. -/
def varyOrderCard : Claim7 := { stood := { row := varyOrderRow, standIns := [], harness := (true, "abf5b9a18fb37ffc67a78a0e865d97088b77853c9927b4883be9b26ffb64a6ff"), looks := false }, kinds := [], alts := [], laidByText := true, laidKinds := [.data, .data, .data, .data], laidTests := true, laidLooks := .later }
def VaryOrderCardSaid : Prop := Claim7.holds Tryd.pinned (.plain (OpenSpec.ofChange varyOrderSpec)) varyOrderCard

/-- THE SECOND FORM's CARD OF 'gatepostlaw11.VaryTells'. -/
def varyTellsUptoCard : Claim7 := { stood := { row := varyTellsUptoRow, standIns := [], harness := (true, "abf5b9a18fb37ffc67a78a0e865d97088b77853c9927b4883be9b26ffb64a6ff"), looks := false }, kinds := [], alts := [], laidByText := true, laidKinds := [.data, .data, .data, .data], laidTests := true, laidLooks := .later }
def VaryTellsUptoCardSaid : Prop := Claim7.holds Tryd.pinned (.plain (OpenSpec.upto varyTellsSpec)) varyTellsUptoCard

/-- THE SECOND FORM's CARD OF 'gatepostlaw11.VaryParts'. -/
def varyPartsUptoCard : Claim7 := { stood := { row := varyPartsUptoRow, standIns := [], harness := (true, "abf5b9a18fb37ffc67a78a0e865d97088b77853c9927b4883be9b26ffb64a6ff"), looks := false }, kinds := [], alts := [], laidByText := true, laidKinds := [.data, .data, .data], laidTests := true, laidLooks := .later }
def VaryPartsUptoCardSaid : Prop := Claim7.holds Tryd.pinned (.plain (OpenSpec.upto varyPartsSpec)) varyPartsUptoCard

/-- THE SECOND FORM's CARD OF 'gatepostlaw11.VaryOrder'. -/
def varyOrderUptoCard : Claim7 := { stood := { row := varyOrderUptoRow, standIns := [], harness := (true, "abf5b9a18fb37ffc67a78a0e865d97088b77853c9927b4883be9b26ffb64a6ff"), looks := false }, kinds := [], alts := [], laidByText := true, laidKinds := [.data, .data, .data, .data], laidTests := true, laidLooks := .later }
def VaryOrderUptoCardSaid : Prop := Claim7.holds Tryd.pinned (.plain (OpenSpec.upto varyOrderSpec)) varyOrderUptoCard
end Rows
end Go.Proofs.YtcnipjmeillfeaaDoor
