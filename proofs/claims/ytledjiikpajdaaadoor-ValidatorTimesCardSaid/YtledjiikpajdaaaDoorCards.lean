/-
  DERIVED. GIVEN WITH THE SEED: THE CARDS: each row of YtledjiikpajdaaaDoorRows.lean that lists a variable, with what it lists TIED to the program's text (the seventh form; the later family's looks); each row that meets fmt, with fmt's text TOLD by the authors' own Lean function (tested against real Go, not proved from fmt's source: count such statements apart). THE CARD IS WHAT COUNTS. Prove the row's statement (the work); the ties are given (YtledjiikpajdaaaDoorTie.lean); close each card by the builder's one call (the guide's Derived/Test/ToyasCard.lean, 'card_holds'). Laid BY PROGRAM, IN A SANDBOX (cutbox-door.mjs). By AI agents, Wed Nov 11 2026. No macro, syntax, notation, axiom, sorry.
-/
import Derived.Test.YtledjiikpajdaaaDoorRows
import GoSem.ClaimSeven
namespace Go.Proofs.YtledjiikpajdaaaDoor
namespace Rows

/-- THE TIED CARD OF 'gatepostlaw12.ValidatorTells'. -/
def validatorTellsCard : Claim7 := { stood := { row := validatorTellsRow, standIns := [], harness := (true, "d507ae655fa1586133a61a83f04ede94c63d0a373e6aabba537027fd84d05e0a"), looks := false }, kinds := [], alts := [], laidByText := true, laidKinds := [.data, .data, .data, .data, .data, .data, .data], laidTests := true, laidLooks := .later }
def ValidatorTellsCardSaid : Prop := Claim7.holds Tryd.pinned (.plain (OpenSpec.ofChange validatorTellsSpec)) validatorTellsCard

/-- THE TIED CARD OF 'gatepostlaw12.ValidatorTimes'. -/
def validatorTimesCard : Claim7 := { stood := { row := validatorTimesRow, standIns := [], harness := (true, "d507ae655fa1586133a61a83f04ede94c63d0a373e6aabba537027fd84d05e0a"), looks := false }, kinds := [], alts := [], laidByText := true, laidKinds := [.data, .data, .data, .data, .data, .data, .data], laidTests := true, laidLooks := .later }
def ValidatorTimesCardSaid : Prop := Claim7.holds Tryd.pinned (.plain (OpenSpec.ofChange validatorTimesSpec)) validatorTimesCard

/-- THE SECOND FORM's CARD OF 'gatepostlaw12.ValidatorTells'. -/
def validatorTellsUptoCard : Claim7 := { stood := { row := validatorTellsUptoRow, standIns := [], harness := (true, "d507ae655fa1586133a61a83f04ede94c63d0a373e6aabba537027fd84d05e0a"), looks := false }, kinds := [], alts := [], laidByText := true, laidKinds := [.data, .data, .data, .data, .data, .data, .data], laidTests := true, laidLooks := .later }
def ValidatorTellsUptoCardSaid : Prop := Claim7.holds Tryd.pinned (.plain (OpenSpec.upto validatorTellsSpec)) validatorTellsUptoCard

/-- THE SECOND FORM's CARD OF 'gatepostlaw12.ValidatorTimes'. -/
def validatorTimesUptoCard : Claim7 := { stood := { row := validatorTimesUptoRow, standIns := [], harness := (true, "d507ae655fa1586133a61a83f04ede94c63d0a373e6aabba537027fd84d05e0a"), looks := false }, kinds := [], alts := [], laidByText := true, laidKinds := [.data, .data, .data, .data, .data, .data, .data], laidTests := true, laidLooks := .later }
def ValidatorTimesUptoCardSaid : Prop := Claim7.holds Tryd.pinned (.plain (OpenSpec.upto validatorTimesSpec)) validatorTimesUptoCard
end Rows
end Go.Proofs.YtledjiikpajdaaaDoor
