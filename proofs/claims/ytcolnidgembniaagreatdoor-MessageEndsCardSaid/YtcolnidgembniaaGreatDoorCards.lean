/-
  DERIVED. GIVEN WITH THE SEED: THE CARDS: each row of YtcolnidgembniaaGreatDoorRows.lean that lists a variable, with what it lists TIED to the program's text (the seventh form; the later family's looks); each row that meets fmt, with fmt's text TOLD by the authors' own Lean function (tested against real Go, not proved from fmt's source: count such statements apart). THE CARD IS WHAT COUNTS. Prove the row's statement (the work); the ties are given (YtcolnidgembniaaGreatDoorTie.lean); close each card by the builder's one call (the guide's Derived/Test/ToyasCard.lean, 'card_holds'). Laid BY PROGRAM, IN A SANDBOX (cutbox-door.mjs). By AI agents, Wed Nov 11 2026. No macro, syntax, notation, axiom, sorry.
-/
import Derived.Test.YtcolnidgembniaaGreatDoorRows
import GoSem.ClaimSeven
namespace Go.Proofs.YtcolnidgembniaaGreatDoor
namespace Rows

/-- THE TIED CARD OF 'gatepostlaw07.MessageReads'. -/
def messageReadsCard : Claim7 := { stood := { row := messageReadsRow, standIns := [], harness := (true, "8b7da35d4c0fb89a5544fb1ca197797bb964bafbabfae8f7fa2a4bc3be451aeb"), looks := true }, kinds := [], alts := [], laidByText := true, laidKinds := [.data, .data, .data, .data, .sentinel, .sentinel, .data, .pinned], laidTests := true, laidLooks := .later }
def MessageReadsCardSaid : Prop := Claim7.holds Tryz.pinned (.plain (OpenSpec.ofChange messageReadsSpec)) messageReadsCard

/-- THE TIED CARD OF 'gatepostlaw07.MessageEnds'. -/
def messageEndsCard : Claim7 := { stood := { row := messageEndsRow, standIns := [], harness := (true, "8b7da35d4c0fb89a5544fb1ca197797bb964bafbabfae8f7fa2a4bc3be451aeb"), looks := true }, kinds := [], alts := [], laidByText := true, laidKinds := [.data, .data, .data, .data, .sentinel, .sentinel, .data, .pinned], laidTests := true, laidLooks := .later }
def MessageEndsCardSaid : Prop := Claim7.holds Tryz.pinned (.plain (OpenSpec.ofChange messageEndsSpec)) messageEndsCard

/-- THE SECOND FORM's CARD OF 'gatepostlaw07.MessageReads'. -/
def messageReadsUptoCard : Claim7 := { stood := { row := messageReadsUptoRow, standIns := [], harness := (true, "8b7da35d4c0fb89a5544fb1ca197797bb964bafbabfae8f7fa2a4bc3be451aeb"), looks := true }, kinds := [], alts := [], laidByText := true, laidKinds := [.data, .data, .data, .data, .sentinel, .sentinel, .data, .pinned], laidTests := true, laidLooks := .later }
def MessageReadsUptoCardSaid : Prop := Claim7.holds Tryz.pinned (.plain (OpenSpec.upto messageReadsSpec)) messageReadsUptoCard

/-- THE SECOND FORM's CARD OF 'gatepostlaw07.MessageEnds'. -/
def messageEndsUptoCard : Claim7 := { stood := { row := messageEndsUptoRow, standIns := [], harness := (true, "8b7da35d4c0fb89a5544fb1ca197797bb964bafbabfae8f7fa2a4bc3be451aeb"), looks := true }, kinds := [], alts := [], laidByText := true, laidKinds := [.data, .data, .data, .data, .sentinel, .sentinel, .data, .pinned], laidTests := true, laidLooks := .later }
def MessageEndsUptoCardSaid : Prop := Claim7.holds Tryz.pinned (.plain (OpenSpec.upto messageEndsSpec)) messageEndsUptoCard
end Rows
end Go.Proofs.YtcolnidgembniaaGreatDoor
