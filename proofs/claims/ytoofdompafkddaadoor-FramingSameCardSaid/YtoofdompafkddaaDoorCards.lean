/-
  DERIVED. GIVEN WITH THE SEED: THE CARDS: each row of YtoofdompafkddaaDoorRows.lean that lists a variable, with what it lists TIED to the program's text (the seventh form; the later family's looks); each row that meets fmt, with fmt's text TOLD by the authors' own Lean function (tested against real Go, not proved from fmt's source: count such statements apart). THE CARD IS WHAT COUNTS. Prove the row's statement (the work); the ties are given (YtoofdompafkddaaDoorTie.lean); close each card by the builder's one call (the guide's Derived/Test/ToyasCard.lean, 'card_holds'). Laid BY PROGRAM, IN A SANDBOX (cutbox-door.mjs). By AI agents, Wed Nov 11 2026. No macro, syntax, notation, axiom, sorry.
-/
import Derived.Test.YtoofdompafkddaaDoorRows
import GoSem.ClaimSeven
namespace Go.Proofs.YtoofdompafkddaaDoor
namespace Rows

/-- THE TIED CARD OF 'gatepostlaw05.HeadReads'. -/
def headReadsCard : Claim7 := { stood := { row := headReadsRow, standIns := [], harness := (true, "272f25ca0cdbf6c879191dc58d2c0017741e879d16e258aa75d0db0f37df33d3"), looks := true }, kinds := [], alts := [], laidByText := true, laidKinds := [.data, .data, .data, .data], laidTests := true, laidLooks := .later }
def HeadReadsCardSaid : Prop := Claim7.holds Tryd.pinned (.plain (OpenSpec.ofChange headReadsSpec)) headReadsCard

/-- THE TIED CARD OF 'gatepostlaw05.HeadCuts'. -/
def headCutsCard : Claim7 := { stood := { row := headCutsRow, standIns := [], harness := (true, "272f25ca0cdbf6c879191dc58d2c0017741e879d16e258aa75d0db0f37df33d3"), looks := true }, kinds := [], alts := [], laidByText := true, laidKinds := [.data, .data, .data, .data], laidTests := true, laidLooks := .later }
def HeadCutsCardSaid : Prop := Claim7.holds Tryd.pinned (.plain (OpenSpec.ofChange headCutsSpec)) headCutsCard

/-- THE TIED CARD OF 'gatepostlaw05.HeadMany'. -/
def headManyCard : Claim7 := { stood := { row := headManyRow, standIns := [], harness := (true, "272f25ca0cdbf6c879191dc58d2c0017741e879d16e258aa75d0db0f37df33d3"), looks := true }, kinds := [], alts := [], laidByText := true, laidKinds := [.data, .data, .data, .data], laidTests := true, laidLooks := .later }
def HeadManyCardSaid : Prop := Claim7.holds Tryd.pinned (.plain (OpenSpec.ofChange headManySpec)) headManyCard

/-- THE TIED CARD OF 'gatepostlaw05.HeadFields'. -/
def headFieldsCard : Claim7 := { stood := { row := headFieldsRow, standIns := [], harness := (true, "272f25ca0cdbf6c879191dc58d2c0017741e879d16e258aa75d0db0f37df33d3"), looks := true }, kinds := [], alts := [], laidByText := true, laidKinds := [.data, .data, .data, .data], laidTests := true, laidLooks := .later }
def HeadFieldsCardSaid : Prop := Claim7.holds Tryd.pinned (.plain (OpenSpec.ofChange headFieldsSpec)) headFieldsCard

/-- THE TIED CARD OF 'gatepostlaw06.FramingOf'. -/
def framingOfCard : Claim7 := { stood := { row := framingOfRow, standIns := [], harness := (true, "272f25ca0cdbf6c879191dc58d2c0017741e879d16e258aa75d0db0f37df33d3"), looks := true }, kinds := [], alts := [], laidByText := true, laidKinds := [.data], laidTests := true, laidLooks := .later }
def FramingOfCardSaid : Prop := Claim7.holds Tryd.pinned (.plain (OpenSpec.ofChange framingOfSpec)) framingOfCard

/-- THE TIED CARD OF 'gatepostlaw06.FramingReads'. -/
def framingReadsCard : Claim7 := { stood := { row := framingReadsRow, standIns := [], harness := (true, "272f25ca0cdbf6c879191dc58d2c0017741e879d16e258aa75d0db0f37df33d3"), looks := true }, kinds := [], alts := [], laidByText := true, laidKinds := [.data, .data, .data, .data, .sentinel, .sentinel, .data, .pinned], laidTests := true, laidLooks := .later }
def FramingReadsCardSaid : Prop := Claim7.holds Tryd.pinned (.plain (OpenSpec.ofChange framingReadsSpec)) framingReadsCard

/-- THE TIED CARD OF 'gatepostlaw06.FramingChunks'. -/
def framingChunksCard : Claim7 := { stood := { row := framingChunksRow, standIns := [], harness := (true, "272f25ca0cdbf6c879191dc58d2c0017741e879d16e258aa75d0db0f37df33d3"), looks := true }, kinds := [], alts := [], laidByText := true, laidKinds := [.data, .data, .data], laidTests := true, laidLooks := .later }
def FramingChunksCardSaid : Prop := Claim7.holds Tryd.pinned (.plain (OpenSpec.ofChange framingChunksSpec)) framingChunksCard

/-- THE TIED CARD OF 'gatepostlaw06.FramingNobody'. -/
def framingNobodyCard : Claim7 := { stood := { row := framingNobodyRow, standIns := [], harness := (true, "272f25ca0cdbf6c879191dc58d2c0017741e879d16e258aa75d0db0f37df33d3"), looks := true }, kinds := [], alts := [], laidByText := true, laidKinds := [.data, .data, .data, .data, .sentinel, .sentinel, .data, .pinned], laidTests := true, laidLooks := .later }
def FramingNobodyCardSaid : Prop := Claim7.holds Tryd.pinned (.plain (OpenSpec.ofChange framingNobodySpec)) framingNobodyCard

/-- THE TIED CARD OF 'gatepostlaw06.FramingBack'. -/
def framingBackCard : Claim7 := { stood := { row := framingBackRow, standIns := [], harness := (true, "272f25ca0cdbf6c879191dc58d2c0017741e879d16e258aa75d0db0f37df33d3"), looks := true }, kinds := [], alts := [], laidByText := true, laidKinds := [.data, .data, .data, .data, .sentinel, .sentinel, .data, .pinned], laidTests := true, laidLooks := .later }
def FramingBackCardSaid : Prop := Claim7.holds Tryd.pinned (.plain (OpenSpec.ofChange framingBackSpec)) framingBackCard

/-- THE TIED CARD OF 'gatepostlaw06.FramingCuts'. -/
def framingCutsCard : Claim7 := { stood := { row := framingCutsRow, standIns := [], harness := (true, "272f25ca0cdbf6c879191dc58d2c0017741e879d16e258aa75d0db0f37df33d3"), looks := true }, kinds := [], alts := [], laidByText := true, laidKinds := [.data, .data, .data, .data, .sentinel, .sentinel, .data, .pinned], laidTests := true, laidLooks := .later }
def FramingCutsCardSaid : Prop := Claim7.holds Tryd.pinned (.plain (OpenSpec.ofChange framingCutsSpec)) framingCutsCard

/-- THE TIED CARD OF 'gatepostlaw06.FramingSame'. -/
def framingSameCard : Claim7 := { stood := { row := framingSameRow, standIns := [], harness := (true, "272f25ca0cdbf6c879191dc58d2c0017741e879d16e258aa75d0db0f37df33d3"), looks := true }, kinds := [], alts := [], laidByText := true, laidKinds := [.data], laidTests := true, laidLooks := .later }
def FramingSameCardSaid : Prop := Claim7.holds Tryd.pinned (.plain (OpenSpec.ofChange framingSameSpec)) framingSameCard

/-- THE SECOND FORM's CARD OF 'gatepostlaw05.HeadReads'. -/
def headReadsUptoCard : Claim7 := { stood := { row := headReadsUptoRow, standIns := [], harness := (true, "272f25ca0cdbf6c879191dc58d2c0017741e879d16e258aa75d0db0f37df33d3"), looks := true }, kinds := [], alts := [], laidByText := true, laidKinds := [.data, .data, .data, .data], laidTests := true, laidLooks := .later }
def HeadReadsUptoCardSaid : Prop := Claim7.holds Tryd.pinned (.plain (OpenSpec.upto headReadsSpec)) headReadsUptoCard

/-- THE SECOND FORM's CARD OF 'gatepostlaw05.HeadCuts'. -/
def headCutsUptoCard : Claim7 := { stood := { row := headCutsUptoRow, standIns := [], harness := (true, "272f25ca0cdbf6c879191dc58d2c0017741e879d16e258aa75d0db0f37df33d3"), looks := true }, kinds := [], alts := [], laidByText := true, laidKinds := [.data, .data, .data, .data], laidTests := true, laidLooks := .later }
def HeadCutsUptoCardSaid : Prop := Claim7.holds Tryd.pinned (.plain (OpenSpec.upto headCutsSpec)) headCutsUptoCard

/-- THE SECOND FORM's CARD OF 'gatepostlaw05.HeadMany'. -/
def headManyUptoCard : Claim7 := { stood := { row := headManyUptoRow, standIns := [], harness := (true, "272f25ca0cdbf6c879191dc58d2c0017741e879d16e258aa75d0db0f37df33d3"), looks := true }, kinds := [], alts := [], laidByText := true, laidKinds := [.data, .data, .data, .data], laidTests := true, laidLooks := .later }
def HeadManyUptoCardSaid : Prop := Claim7.holds Tryd.pinned (.plain (OpenSpec.upto headManySpec)) headManyUptoCard

/-- THE SECOND FORM's CARD OF 'gatepostlaw05.HeadFields'. -/
def headFieldsUptoCard : Claim7 := { stood := { row := headFieldsUptoRow, standIns := [], harness := (true, "272f25ca0cdbf6c879191dc58d2c0017741e879d16e258aa75d0db0f37df33d3"), looks := true }, kinds := [], alts := [], laidByText := true, laidKinds := [.data, .data, .data, .data], laidTests := true, laidLooks := .later }
def HeadFieldsUptoCardSaid : Prop := Claim7.holds Tryd.pinned (.plain (OpenSpec.upto headFieldsSpec)) headFieldsUptoCard

/-- THE SECOND FORM's CARD OF 'gatepostlaw06.FramingOf'. -/
def framingOfUptoCard : Claim7 := { stood := { row := framingOfUptoRow, standIns := [], harness := (true, "272f25ca0cdbf6c879191dc58d2c0017741e879d16e258aa75d0db0f37df33d3"), looks := true }, kinds := [], alts := [], laidByText := true, laidKinds := [.data], laidTests := true, laidLooks := .later }
def FramingOfUptoCardSaid : Prop := Claim7.holds Tryd.pinned (.plain (OpenSpec.upto framingOfSpec)) framingOfUptoCard

/-- THE SECOND FORM's CARD OF 'gatepostlaw06.FramingReads'. -/
def framingReadsUptoCard : Claim7 := { stood := { row := framingReadsUptoRow, standIns := [], harness := (true, "272f25ca0cdbf6c879191dc58d2c0017741e879d16e258aa75d0db0f37df33d3"), looks := true }, kinds := [], alts := [], laidByText := true, laidKinds := [.data, .data, .data, .data, .sentinel, .sentinel, .data, .pinned], laidTests := true, laidLooks := .later }
def FramingReadsUptoCardSaid : Prop := Claim7.holds Tryd.pinned (.plain (OpenSpec.upto framingReadsSpec)) framingReadsUptoCard

/-- THE SECOND FORM's CARD OF 'gatepostlaw06.FramingChunks'. -/
def framingChunksUptoCard : Claim7 := { stood := { row := framingChunksUptoRow, standIns := [], harness := (true, "272f25ca0cdbf6c879191dc58d2c0017741e879d16e258aa75d0db0f37df33d3"), looks := true }, kinds := [], alts := [], laidByText := true, laidKinds := [.data, .data, .data], laidTests := true, laidLooks := .later }
def FramingChunksUptoCardSaid : Prop := Claim7.holds Tryd.pinned (.plain (OpenSpec.upto framingChunksSpec)) framingChunksUptoCard

/-- THE SECOND FORM's CARD OF 'gatepostlaw06.FramingNobody'. -/
def framingNobodyUptoCard : Claim7 := { stood := { row := framingNobodyUptoRow, standIns := [], harness := (true, "272f25ca0cdbf6c879191dc58d2c0017741e879d16e258aa75d0db0f37df33d3"), looks := true }, kinds := [], alts := [], laidByText := true, laidKinds := [.data, .data, .data, .data, .sentinel, .sentinel, .data, .pinned], laidTests := true, laidLooks := .later }
def FramingNobodyUptoCardSaid : Prop := Claim7.holds Tryd.pinned (.plain (OpenSpec.upto framingNobodySpec)) framingNobodyUptoCard

/-- THE SECOND FORM's CARD OF 'gatepostlaw06.FramingBack'. -/
def framingBackUptoCard : Claim7 := { stood := { row := framingBackUptoRow, standIns := [], harness := (true, "272f25ca0cdbf6c879191dc58d2c0017741e879d16e258aa75d0db0f37df33d3"), looks := true }, kinds := [], alts := [], laidByText := true, laidKinds := [.data, .data, .data, .data, .sentinel, .sentinel, .data, .pinned], laidTests := true, laidLooks := .later }
def FramingBackUptoCardSaid : Prop := Claim7.holds Tryd.pinned (.plain (OpenSpec.upto framingBackSpec)) framingBackUptoCard

/-- THE SECOND FORM's CARD OF 'gatepostlaw06.FramingCuts'. -/
def framingCutsUptoCard : Claim7 := { stood := { row := framingCutsUptoRow, standIns := [], harness := (true, "272f25ca0cdbf6c879191dc58d2c0017741e879d16e258aa75d0db0f37df33d3"), looks := true }, kinds := [], alts := [], laidByText := true, laidKinds := [.data, .data, .data, .data, .sentinel, .sentinel, .data, .pinned], laidTests := true, laidLooks := .later }
def FramingCutsUptoCardSaid : Prop := Claim7.holds Tryd.pinned (.plain (OpenSpec.upto framingCutsSpec)) framingCutsUptoCard

/-- THE SECOND FORM's CARD OF 'gatepostlaw06.FramingSame'. -/
def framingSameUptoCard : Claim7 := { stood := { row := framingSameUptoRow, standIns := [], harness := (true, "272f25ca0cdbf6c879191dc58d2c0017741e879d16e258aa75d0db0f37df33d3"), looks := true }, kinds := [], alts := [], laidByText := true, laidKinds := [.data], laidTests := true, laidLooks := .later }
def FramingSameUptoCardSaid : Prop := Claim7.holds Tryd.pinned (.plain (OpenSpec.upto framingSameSpec)) framingSameUptoCard
end Rows
end Go.Proofs.YtoofdompafkddaaDoor
