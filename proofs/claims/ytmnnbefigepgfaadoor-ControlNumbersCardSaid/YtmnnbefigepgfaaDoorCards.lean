/-
  DERIVED. GIVEN WITH THE SEED: THE CARDS: each row of YtmnnbefigepgfaaDoorRows.lean that lists a variable, with what it lists TIED to the program's text (the seventh form; the later family's looks); each row that meets fmt, with fmt's text TOLD by the authors' own Lean function (tested against real Go, not proved from fmt's source: count such statements apart). THE CARD IS WHAT COUNTS. Prove the row's statement (the work); the ties are given (YtmnnbefigepgfaaDoorTie.lean); close each card by the builder's one call (the guide's Derived/Test/ToyasCard.lean, 'card_holds'). Laid BY PROGRAM, IN A SANDBOX (cutbox-door.mjs). By AI agents, Wed Nov 11 2026. No macro, syntax, notation, axiom, sorry.
-/
import Derived.Test.YtmnnbefigepgfaaDoorRows
import GoSem.ClaimSeven
namespace Go.Proofs.YtmnnbefigepgfaaDoor
namespace Rows

/-- THE TIED CARD OF 'gatepostlaw08.ControlTells'. -/
def controlTellsCard : Claim7 := { stood := { row := controlTellsRow, standIns := [], harness := (true, "b2e0de2c3a205a39e45003ced33695f842f2fb69218da87722119002b6fe48f5"), looks := false }, kinds := [], alts := [], laidByText := true, laidKinds := [.data], laidTests := true, laidLooks := .later }
def ControlTellsCardSaid : Prop := Claim7.holds Tryd.pinned (.plain (OpenSpec.ofChange controlTellsSpec)) controlTellsCard

/-- THE TIED CARD OF 'gatepostlaw08.ControlJoins'. -/
def controlJoinsCard : Claim7 := { stood := { row := controlJoinsRow, standIns := [], harness := (true, "b2e0de2c3a205a39e45003ced33695f842f2fb69218da87722119002b6fe48f5"), looks := false }, kinds := [], alts := [], laidByText := true, laidKinds := [.data], laidTests := true, laidLooks := .later }
def ControlJoinsCardSaid : Prop := Claim7.holds Tryd.pinned (.plain (OpenSpec.ofChange controlJoinsSpec)) controlJoinsCard

/-- THE TIED CARD OF 'gatepostlaw08.ControlNumbers'. -/
def controlNumbersCard : Claim7 := { stood := { row := controlNumbersRow, standIns := [], harness := (true, "b2e0de2c3a205a39e45003ced33695f842f2fb69218da87722119002b6fe48f5"), looks := false }, kinds := [], alts := [], laidByText := true, laidKinds := [.data], laidTests := true, laidLooks := .later }
def ControlNumbersCardSaid : Prop := Claim7.holds Tryd.pinned (.plain (OpenSpec.ofChange controlNumbersSpec)) controlNumbersCard

/-- THE SECOND FORM's CARD OF 'gatepostlaw08.ControlTells'. -/
def controlTellsUptoCard : Claim7 := { stood := { row := controlTellsUptoRow, standIns := [], harness := (true, "b2e0de2c3a205a39e45003ced33695f842f2fb69218da87722119002b6fe48f5"), looks := false }, kinds := [], alts := [], laidByText := true, laidKinds := [.data], laidTests := true, laidLooks := .later }
def ControlTellsUptoCardSaid : Prop := Claim7.holds Tryd.pinned (.plain (OpenSpec.upto controlTellsSpec)) controlTellsUptoCard

/-- THE SECOND FORM's CARD OF 'gatepostlaw08.ControlJoins'. -/
def controlJoinsUptoCard : Claim7 := { stood := { row := controlJoinsUptoRow, standIns := [], harness := (true, "b2e0de2c3a205a39e45003ced33695f842f2fb69218da87722119002b6fe48f5"), looks := false }, kinds := [], alts := [], laidByText := true, laidKinds := [.data], laidTests := true, laidLooks := .later }
def ControlJoinsUptoCardSaid : Prop := Claim7.holds Tryd.pinned (.plain (OpenSpec.upto controlJoinsSpec)) controlJoinsUptoCard

/-- THE SECOND FORM's CARD OF 'gatepostlaw08.ControlNumbers'. -/
def controlNumbersUptoCard : Claim7 := { stood := { row := controlNumbersUptoRow, standIns := [], harness := (true, "b2e0de2c3a205a39e45003ced33695f842f2fb69218da87722119002b6fe48f5"), looks := false }, kinds := [], alts := [], laidByText := true, laidKinds := [.data], laidTests := true, laidLooks := .later }
def ControlNumbersUptoCardSaid : Prop := Claim7.holds Tryd.pinned (.plain (OpenSpec.upto controlNumbersSpec)) controlNumbersUptoCard
end Rows
end Go.Proofs.YtmnnbefigepgfaaDoor
