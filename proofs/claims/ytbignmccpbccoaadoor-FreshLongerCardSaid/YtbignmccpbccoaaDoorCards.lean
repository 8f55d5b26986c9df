/-
  DERIVED. GIVEN WITH THE SEED: THE CARDS: each row of YtbignmccpbccoaaDoorRows.lean that lists a variable, with what it lists TIED to the program's text (the seventh form; the later family's looks); each row that meets fmt, with fmt's text TOLD by the authors' own Lean function (tested against real Go, not proved from fmt's source: count such statements apart). THE CARD IS WHAT COUNTS. Prove the row's statement (the work); the ties are given (YtbignmccpbccoaaDoorTie.lean); close each card by the builder's one call (the guide's Derived/Test/ToyasCard.lean, 'card_holds'). Laid BY PROGRAM, IN A SANDBOX (cutbox-door.mjs). By AI agents, Wed Nov 11 2026. No macro, syntax, notation, axiom, sorry.
-/
import Derived.Test.YtbignmccpbccoaaDoorRows
import GoSem.ClaimSeven
namespace Go.Proofs.YtbignmccpbccoaaDoor
namespace Rows

/-- THE TIED CARD OF 'gatepostlaw09.FreshTells'. -/
def freshTellsCard : Claim7 := { stood := { row := freshTellsRow, standIns := [], harness := (true, "9016b7dc6ad29ea0abadd946a81f9222728627c094c793afcca2b74c78ba7a15"), looks := false }, kinds := [], alts := [], laidByText := true, laidKinds := [.data], laidTests := true, laidLooks := .later }
def FreshTellsCardSaid : Prop := Claim7.holds Tryd.pinned (.plain (OpenSpec.ofChange freshTellsSpec)) freshTellsCard

/-- THE TIED CARD OF 'gatepostlaw09.FreshGrows'. -/
def freshGrowsCard : Claim7 := { stood := { row := freshGrowsRow, standIns := [], harness := (true, "9016b7dc6ad29ea0abadd946a81f9222728627c094c793afcca2b74c78ba7a15"), looks := false }, kinds := [], alts := [], laidByText := true, laidKinds := [.data], laidTests := true, laidLooks := .later }
def FreshGrowsCardSaid : Prop := Claim7.holds Tryd.pinned (.plain (OpenSpec.ofChange freshGrowsSpec)) freshGrowsCard

/-- THE TIED CARD OF 'gatepostlaw09.FreshAsks'. -/
def freshAsksCard : Claim7 := { stood := { row := freshAsksRow, standIns := [], harness := (true, "9016b7dc6ad29ea0abadd946a81f9222728627c094c793afcca2b74c78ba7a15"), looks := false }, kinds := [], alts := [], laidByText := true, laidKinds := [.data], laidTests := true, laidLooks := .later }
def FreshAsksCardSaid : Prop := Claim7.holds Tryd.pinned (.plain (OpenSpec.ofChange freshAsksSpec)) freshAsksCard

/-- THE TIED CARD OF 'gatepostlaw09.FreshLonger'. -/
def freshLongerCard : Claim7 := { stood := { row := freshLongerRow, standIns := [], harness := (true, "9016b7dc6ad29ea0abadd946a81f9222728627c094c793afcca2b74c78ba7a15"), looks := false }, kinds := [], alts := [], laidByText := true, laidKinds := [.data], laidTests := true, laidLooks := .later }
def FreshLongerCardSaid : Prop := Claim7.holds Tryd.pinned (.plain (OpenSpec.ofChange freshLongerSpec)) freshLongerCard

/-- THE TIED CARD OF 'gatepostlaw09.FreshAges'. -/
def freshAgesCard : Claim7 := { stood := { row := freshAgesRow, standIns := [], harness := (true, "9016b7dc6ad29ea0abadd946a81f9222728627c094c793afcca2b74c78ba7a15"), looks := false }, kinds := [], alts := [], laidByText := true, laidKinds := [.data], laidTests := true, laidLooks := .later }
def FreshAgesCardSaid : Prop := Claim7.holds Tryd.pinned (.plain (OpenSpec.ofChange freshAgesSpec)) freshAgesCard

/-- THE SECOND FORM's CARD OF 'gatepostlaw09.FreshTells'. -/
def freshTellsUptoCard : Claim7 := { stood := { row := freshTellsUptoRow, standIns := [], harness := (true, "9016b7dc6ad29ea0abadd946a81f9222728627c094c793afcca2b74c78ba7a15"), looks := false }, kinds := [], alts := [], laidByText := true, laidKinds := [.data], laidTests := true, laidLooks := .later }
def FreshTellsUptoCardSaid : Prop := Claim7.holds Tryd.pinned (.plain (OpenSpec.upto freshTellsSpec)) freshTellsUptoCard

/-- THE SECOND FORM's CARD OF 'gatepostlaw09.FreshGrows'. -/
def freshGrowsUptoCard : Claim7 := { stood := { row := freshGrowsUptoRow, standIns := [], harness := (true, "9016b7dc6ad29ea0abadd946a81f9222728627c094c793afcca2b74c78ba7a15"), looks := false }, kinds := [], alts := [], laidByText := true, laidKinds := [.data], laidTests := true, laidLooks := .later }
def FreshGrowsUptoCardSaid : Prop := Claim7.holds Tryd.pinned (.plain (OpenSpec.upto freshGrowsSpec)) freshGrowsUptoCard

/-- THE SECOND FORM's CARD OF 'gatepostlaw09.FreshAsks'. -/
def freshAsksUptoCard : Claim7 := { stood := { row := freshAsksUptoRow, standIns := [], harness := (true, "9016b7dc6ad29ea0abadd946a81f9222728627c094c793afcca2b74c78ba7a15"), looks := false }, kinds := [], alts := [], laidByText := true, laidKinds := [.data], laidTests := true, laidLooks := .later }
def FreshAsksUptoCardSaid : Prop := Claim7.holds Tryd.pinned (.plain (OpenSpec.upto freshAsksSpec)) freshAsksUptoCard

/-- THE SECOND FORM's CARD OF 'gatepostlaw09.FreshLonger'. -/
def freshLongerUptoCard : Claim7 := { stood := { row := freshLongerUptoRow, standIns := [], harness := (true, "9016b7dc6ad29ea0abadd946a81f9222728627c094c793afcca2b74c78ba7a15"), looks := false }, kinds := [], alts := [], laidByText := true, laidKinds := [.data], laidTests := true, laidLooks := .later }
def FreshLongerUptoCardSaid : Prop := Claim7.holds Tryd.pinned (.plain (OpenSpec.upto freshLongerSpec)) freshLongerUptoCard

/-- THE SECOND FORM's CARD OF 'gatepostlaw09.FreshAges'. -/
def freshAgesUptoCard : Claim7 := { stood := { row := freshAgesUptoRow, standIns := [], harness := (true, "9016b7dc6ad29ea0abadd946a81f9222728627c094c793afcca2b74c78ba7a15"), looks := false }, kinds := [], alts := [], laidByText := true, laidKinds := [.data], laidTests := true, laidLooks := .later }
def FreshAgesUptoCardSaid : Prop := Claim7.holds Tryd.pinned (.plain (OpenSpec.upto freshAgesSpec)) freshAgesUptoCard
end Rows
end Go.Proofs.YtbignmccpbccoaaDoor
