/-
  DERIVED. GIVEN WITH THE SEED: THE CARDS: each row of YtjbdgndejbiikaaDoorRows.lean that lists a variable, with what it lists TIED to the program's text (the seventh form; the later family's looks); each row that meets fmt, with fmt's text TOLD by the authors' own Lean function (tested against real Go, not proved from fmt's source: count such statements apart). THE CARD IS WHAT COUNTS. Prove the row's statement (the work); the ties are given (YtjbdgndejbiikaaDoorTie.lean); close each card by the builder's one call (the guide's Derived/Test/ToyasCard.lean, 'card_holds'). Laid BY PROGRAM, IN A SANDBOX (cutbox-door.mjs). By AI agents, Wed Nov 11 2026. No macro, syntax, notation, axiom, sorry.
-/
import Derived.Test.YtjbdgndejbiikaaDoorRows
import GoSem.ClaimSeven
namespace Go.Proofs.YtjbdgndejbiikaaDoor
namespace Rows

/-- THE TIED CARD OF 'gatepostlaw10.StoringSays'. -/
def storingSaysCard : Claim7 := { stood := { row := storingSaysRow, standIns := [], harness := (true, "2522e88aff0bb67d727666b441c74a1dba5c9c67e4abe0b53996589a1a0a5d59"), looks := false }, kinds := [], alts := [], laidByText := true, laidKinds := [.data, .data, .data, .data, .data, .data], laidTests := true, laidLooks := .later }
def StoringSaysCardSaid : Prop := Claim7.holds Tryd.pinned (.plain (OpenSpec.ofChange storingSaysSpec)) storingSaysCard

/-- THE TIED CARD OF 'gatepostlaw10.StoringKeeps'. -/
def storingKeepsCard : Claim7 := { stood := { row := storingKeepsRow, standIns := [], harness := (true, "2522e88aff0bb67d727666b441c74a1dba5c9c67e4abe0b53996589a1a0a5d59"), looks := false }, kinds := [], alts := [], laidByText := true, laidKinds := [.data, .data, .data, .data, .data], laidTests := true, laidLooks := .later }
def StoringKeepsCardSaid : Prop := Claim7.holds Tryd.pinned (.plain (OpenSpec.ofChange storingKeepsSpec)) storingKeepsCard

/-- THE TIED CARD OF 'gatepostlaw10.StoringAuth'. -/
def storingAuthCard : Claim7 := { stood := { row := storingAuthRow, standIns := [], harness := (true, "2522e88aff0bb67d727666b441c74a1dba5c9c67e4abe0b53996589a1a0a5d59"), looks := false }, kinds := [], alts := [], laidByText := true, laidKinds := [.data, .data, .data, .data, .data, .data], laidTests := true, laidLooks := .later }
def StoringAuthCardSaid : Prop := Claim7.holds Tryd.pinned (.plain (OpenSpec.ofChange storingAuthSpec)) storingAuthCard

/-- THE SECOND FORM's CARD OF 'gatepostlaw10.StoringSays'. -/
def storingSaysUptoCard : Claim7 := { stood := { row := storingSaysUptoRow, standIns := [], harness := (true, "2522e88aff0bb67d727666b441c74a1dba5c9c67e4abe0b53996589a1a0a5d59"), looks := false }, kinds := [], alts := [], laidByText := true, laidKinds := [.data, .data, .data, .data, .data, .data], laidTests := true, laidLooks := .later }
def StoringSaysUptoCardSaid : Prop := Claim7.holds Tryd.pinned (.plain (OpenSpec.upto storingSaysSpec)) storingSaysUptoCard

/-- THE SECOND FORM's CARD OF 'gatepostlaw10.StoringKeeps'. -/
def storingKeepsUptoCard : Claim7 := { stood := { row := storingKeepsUptoRow, standIns := [], harness := (true, "2522e88aff0bb67d727666b441c74a1dba5c9c67e4abe0b53996589a1a0a5d59"), looks := false }, kinds := [], alts := [], laidByText := true, laidKinds := [.data, .data, .data, .data, .data], laidTests := true, laidLooks := .later }
def StoringKeepsUptoCardSaid : Prop := Claim7.holds Tryd.pinned (.plain (OpenSpec.upto storingKeepsSpec)) storingKeepsUptoCard

/-- THE SECOND FORM's CARD OF 'gatepostlaw10.StoringAuth'. -/
def storingAuthUptoCard : Claim7 := { stood := { row := storingAuthUptoRow, standIns := [], harness := (true, "2522e88aff0bb67d727666b441c74a1dba5c9c67e4abe0b53996589a1a0a5d59"), looks := false }, kinds := [], alts := [], laidByText := true, laidKinds := [.data, .data, .data, .data, .data, .data], laidTests := true, laidLooks := .later }
def StoringAuthUptoCardSaid : Prop := Claim7.holds Tryd.pinned (.plain (OpenSpec.upto storingAuthSpec)) storingAuthUptoCard
end Rows
end Go.Proofs.YtjbdgndejbiikaaDoor
