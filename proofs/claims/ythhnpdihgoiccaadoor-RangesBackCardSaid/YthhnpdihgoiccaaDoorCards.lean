/-
  DERIVED. GIVEN WITH THE SEED: THE CARDS: each row of YthhnpdihgoiccaaDoorRows.lean that lists a variable, with what it lists TIED to the program's text (the seventh form; the later family's looks); each row that meets fmt, with fmt's text TOLD by the authors' own Lean function (tested against real Go, not proved from fmt's source: count such statements apart). THE CARD IS WHAT COUNTS. Prove the row's statement (the work); the ties are given (YthhnpdihgoiccaaDoorTie.lean); close each card by the builder's one call (the guide's Derived/Test/ToyasCard.lean, 'card_holds'). Laid BY PROGRAM, IN A SANDBOX (cutbox-door.mjs). By AI agents, Wed Nov 11 2026. No macro, syntax, notation, axiom, sorry.
-/
import Derived.Test.YthhnpdihgoiccaaDoorRows
import GoSem.ClaimSeven
namespace Go.Proofs.YthhnpdihgoiccaaDoor
namespace Rows

/-- THE TIED CARD OF 'gatepostlaw14.RangesContent'. -/
def rangesContentCard : Claim7 := { stood := { row := rangesContentRow, standIns := [], harness := (true, "e339d5320ac382dedb8443984779bc259db42482abfca46ec1424f060cd74449"), looks := false }, kinds := [], alts := [], laidByText := true, laidKinds := [.data, .data, .data], laidTests := true, laidLooks := .later }
def RangesContentCardSaid : Prop := Claim7.holds Tryd.pinned (.plain (OpenSpec.ofChange rangesContentSpec)) rangesContentCard

/-- THE TIED CARD OF 'gatepostlaw14.RangesBack'. -/
def rangesBackCard : Claim7 := { stood := { row := rangesBackRow, standIns := [], harness := (true, "e339d5320ac382dedb8443984779bc259db42482abfca46ec1424f060cd74449"), looks := false }, kinds := [], alts := [], laidByText := true, laidKinds := [.data, .data, .data], laidTests := true, laidLooks := .later }
def RangesBackCardSaid : Prop := Claim7.holds Tryd.pinned (.plain (OpenSpec.ofChange rangesBackSpec)) rangesBackCard

/-- THE SECOND FORM's CARD OF 'gatepostlaw14.RangesContent'. -/
def rangesContentUptoCard : Claim7 := { stood := { row := rangesContentUptoRow, standIns := [], harness := (true, "e339d5320ac382dedb8443984779bc259db42482abfca46ec1424f060cd74449"), looks := false }, kinds := [], alts := [], laidByText := true, laidKinds := [.data, .data, .data], laidTests := true, laidLooks := .later }
def RangesContentUptoCardSaid : Prop := Claim7.holds Tryd.pinned (.plain (OpenSpec.upto rangesContentSpec)) rangesContentUptoCard

/-- THE SECOND FORM's CARD OF 'gatepostlaw14.RangesBack'. -/
def rangesBackUptoCard : Claim7 := { stood := { row := rangesBackUptoRow, standIns := [], harness := (true, "e339d5320ac382dedb8443984779bc259db42482abfca46ec1424f060cd74449"), looks := false }, kinds := [], alts := [], laidByText := true, laidKinds := [.data, .data, .data], laidTests := true, laidLooks := .later }
def RangesBackUptoCardSaid : Prop := Claim7.holds Tryd.pinned (.plain (OpenSpec.upto rangesBackSpec)) rangesBackUptoCard
end Rows
end Go.Proofs.YthhnpdihgoiccaaDoor
