/-
  DERIVED. GIVEN WITH THE SEED: THE CARDS: each row of YtimlgclejaoboaaGreatDoorRows.lean that lists a variable, with what it lists TIED to the program's text (the seventh form; the later family's looks); each row that meets fmt, with fmt's text TOLD by the authors' own Lean function (tested against real Go, not proved from fmt's source: count such statements apart). THE CARD IS WHAT COUNTS. Prove the row's statement (the work); the ties are given (YtimlgclejaoboaaGreatDoorTie.lean); close each card by the builder's one call (the guide's Derived/Test/ToyasCard.lean, 'card_holds'). Laid BY PROGRAM, IN A SANDBOX (cutbox-door.mjs). By AI agents, Wed Nov 11 2026. No macro, syntax, notation, axiom, sorry.
-/
import Derived.Test.YtimlgclejaoboaaGreatDoorRows
import GoSem.ClaimSeven
namespace Go.Proofs.YtimlgclejaoboaaGreatDoor
namespace Rows

/-- THE TIED CARD OF 'afterwordlaw04.BagNews'. -/
def bagNewsCard : Claim7 := { stood := { row := bagNewsRow, standIns := [], harness := (true, "9fd1ae18b8f01e420c794fcd5b97979b9519b515858d6d4d22124194bfec43ea"), looks := true }, kinds := [], alts := [], laidByText := true, laidKinds := [.data, .data, .data, .data, .sentinel, .sentinel, .pinned], laidTests := true, laidLooks := .later }
def BagNewsCardSaid : Prop := Claim7.holds Tryz.pinned (.plain (OpenSpec.ofChange bagNewsSpec)) bagNewsCard

/-- THE TIED CARD OF 'afterwordlaw04.BagSums'. -/
def bagSumsCard : Claim7 := { stood := { row := bagSumsRow, standIns := [], harness := (true, "9fd1ae18b8f01e420c794fcd5b97979b9519b515858d6d4d22124194bfec43ea"), looks := true }, kinds := [], alts := [], laidByText := true, laidKinds := [.data, .data, .data, .data, .sentinel, .sentinel, .pinned], laidTests := true, laidLooks := .later }
def BagSumsCardSaid : Prop := Claim7.holds Tryz.pinned (.plain (OpenSpec.ofChange bagSumsSpec)) bagSumsCard

/-- THE TIED CARD OF 'afterwordlaw04.BagCuts'. -/
def bagCutsCard : Claim7 := { stood := { row := bagCutsRow, standIns := [], harness := (true, "9fd1ae18b8f01e420c794fcd5b97979b9519b515858d6d4d22124194bfec43ea"), looks := true }, kinds := [], alts := [], laidByText := true, laidKinds := [.data, .data, .data, .data, .sentinel, .sentinel, .pinned], laidTests := true, laidLooks := .later }
def BagCutsCardSaid : Prop := Claim7.holds Tryz.pinned (.plain (OpenSpec.ofChange bagCutsSpec)) bagCutsCard

/-- THE TIED CARD OF 'afterwordlaw04.BagPairs'. -/
def bagPairsCard : Claim7 := { stood := { row := bagPairsRow, standIns := [], harness := (true, "9fd1ae18b8f01e420c794fcd5b97979b9519b515858d6d4d22124194bfec43ea"), looks := true }, kinds := [], alts := [], laidByText := true, laidKinds := [.data, .data, .data, .data, .sentinel, .sentinel, .pinned], laidTests := true, laidLooks := .later }
def BagPairsCardSaid : Prop := Claim7.holds Tryz.pinned (.plain (OpenSpec.ofChange bagPairsSpec)) bagPairsCard

/-- THE TIED CARD OF 'afterwordlaw04.BagEdits'. -/
def bagEditsCard : Claim7 := { stood := { row := bagEditsRow, standIns := [], harness := (true, "9fd1ae18b8f01e420c794fcd5b97979b9519b515858d6d4d22124194bfec43ea"), looks := true }, kinds := [], alts := [], laidByText := true, laidKinds := [.data, .data, .data, .data, .sentinel, .sentinel, .pinned], laidTests := true, laidLooks := .later }
def BagEditsCardSaid : Prop := Claim7.holds Tryz.pinned (.plain (OpenSpec.ofChange bagEditsSpec)) bagEditsCard

/-- THE TIED CARD OF 'afterwordlaw04.BagTexts'. -/
def bagTextsCard : Claim7 := { stood := { row := bagTextsRow, standIns := [], harness := (true, "9fd1ae18b8f01e420c794fcd5b97979b9519b515858d6d4d22124194bfec43ea"), looks := true }, kinds := [], alts := [], laidByText := true, laidKinds := [.data, .data, .data, .data, .sentinel, .sentinel, .pinned], laidTests := true, laidLooks := .later }
def BagTextsCardSaid : Prop := Claim7.holds Tryz.pinned (.plain (OpenSpec.ofChange bagTextsSpec)) bagTextsCard

/-- THE TIED CARD OF 'afterwordlaw04.BagReads'. -/
def bagReadsCard : Claim7 := { stood := { row := bagReadsRow, standIns := [], harness := (true, "9fd1ae18b8f01e420c794fcd5b97979b9519b515858d6d4d22124194bfec43ea"), looks := true }, kinds := [], alts := [], laidByText := true, laidKinds := [.data, .data, .data, .data, .sentinel, .sentinel, .pinned], laidTests := true, laidLooks := .later }
def BagReadsCardSaid : Prop := Claim7.holds Tryz.pinned (.plain (OpenSpec.ofChange bagReadsSpec)) bagReadsCard

/-- THE TIED CARD OF 'afterwordlaw04.BagGroup'. -/
def bagGroupCard : Claim7 := { stood := { row := bagGroupRow, standIns := [], harness := (true, "9fd1ae18b8f01e420c794fcd5b97979b9519b515858d6d4d22124194bfec43ea"), looks := true }, kinds := [], alts := [], laidByText := true, laidKinds := [.data, .data, .data, .data, .sentinel, .sentinel, .pinned], laidTests := true, laidLooks := .later }
def BagGroupCardSaid : Prop := Claim7.holds Tryz.pinned (.plain (OpenSpec.ofChange bagGroupSpec)) bagGroupCard

/-- THE TIED CARD OF 'afterwordlaw04.BagParted'. -/
def bagPartedCard : Claim7 := { stood := { row := bagPartedRow, standIns := [], harness := (true, "9fd1ae18b8f01e420c794fcd5b97979b9519b515858d6d4d22124194bfec43ea"), looks := true }, kinds := [], alts := [], laidByText := true, laidKinds := [.data, .data, .data, .data, .sentinel, .sentinel, .pinned], laidTests := true, laidLooks := .later }
def BagPartedCardSaid : Prop := Claim7.holds Tryz.pinned (.plain (OpenSpec.ofChange bagPartedSpec)) bagPartedCard

/-- THE TIED CARD OF 'afterwordlaw04.BagBilinear'. -/
def bagBilinearCard : Claim7 := { stood := { row := bagBilinearRow, standIns := [], harness := (true, "9fd1ae18b8f01e420c794fcd5b97979b9519b515858d6d4d22124194bfec43ea"), looks := true }, kinds := [], alts := [], laidByText := true, laidKinds := [.data, .data, .data, .data, .sentinel, .sentinel, .pinned], laidTests := true, laidLooks := .later }
def BagBilinearCardSaid : Prop := Claim7.holds Tryz.pinned (.plain (OpenSpec.ofChange bagBilinearSpec)) bagBilinearCard

/-- THE TIED CARD OF 'afterwordlaw04.BagLeast'. -/
def bagLeastCard : Claim7 := { stood := { row := bagLeastRow, standIns := [], harness := (true, "9fd1ae18b8f01e420c794fcd5b97979b9519b515858d6d4d22124194bfec43ea"), looks := true }, kinds := [], alts := [], laidByText := true, laidKinds := [.data, .data, .data, .data, .sentinel, .sentinel, .pinned], laidTests := true, laidLooks := .later }
def BagLeastCardSaid : Prop := Claim7.holds Tryz.pinned (.plain (OpenSpec.ofChange bagLeastSpec)) bagLeastCard

/-- THE TIED CARD OF 'afterwordlaw04.BagBack'. -/
def bagBackCard : Claim7 := { stood := { row := bagBackRow, standIns := [], harness := (true, "9fd1ae18b8f01e420c794fcd5b97979b9519b515858d6d4d22124194bfec43ea"), looks := true }, kinds := [], alts := [], laidByText := true, laidKinds := [.data, .data, .data, .data, .sentinel, .sentinel, .pinned], laidTests := true, laidLooks := .later }
def BagBackCardSaid : Prop := Claim7.holds Tryz.pinned (.plain (OpenSpec.ofChange bagBackSpec)) bagBackCard

/-- THE TIED CARD OF 'afterwordlaw04.BagKnown'. -/
def bagKnownCard : Claim7 := { stood := { row := bagKnownRow, standIns := [], harness := (true, "9fd1ae18b8f01e420c794fcd5b97979b9519b515858d6d4d22124194bfec43ea"), looks := true }, kinds := [], alts := [], laidByText := true, laidKinds := [.data, .data, .data, .data, .sentinel, .sentinel, .pinned], laidTests := true, laidLooks := .later }
def BagKnownCardSaid : Prop := Claim7.holds Tryz.pinned (.plain (OpenSpec.ofChange bagKnownSpec)) bagKnownCard

/-- THE SECOND FORM's CARD OF 'afterwordlaw04.BagNews'. -/
def bagNewsUptoCard : Claim7 := { stood := { row := bagNewsUptoRow, standIns := [], harness := (true, "9fd1ae18b8f01e420c794fcd5b97979b9519b515858d6d4d22124194bfec43ea"), looks := true }, kinds := [], alts := [], laidByText := true, laidKinds := [.data, .data, .data, .data, .sentinel, .sentinel, .pinned], laidTests := true, laidLooks := .later }
def BagNewsUptoCardSaid : Prop := Claim7.holds Tryz.pinned (.plain (OpenSpec.upto bagNewsSpec)) bagNewsUptoCard

/-- THE SECOND FORM's CARD OF 'afterwordlaw04.BagSums'. -/
def bagSumsUptoCard : Claim7 := { stood := { row := bagSumsUptoRow, standIns := [], harness := (true, "9fd1ae18b8f01e420c794fcd5b97979b9519b515858d6d4d22124194bfec43ea"), looks := true }, kinds := [], alts := [], laidByText := true, laidKinds := [.data, .data, .data, .data, .sentinel, .sentinel, .pinned], laidTests := true, laidLooks := .later }
def BagSumsUptoCardSaid : Prop := Claim7.holds Tryz.pinned (.plain (OpenSpec.upto bagSumsSpec)) bagSumsUptoCard

/-- THE SECOND FORM's CARD OF 'afterwordlaw04.BagCuts'. -/
def bagCutsUptoCard : Claim7 := { stood := { row := bagCutsUptoRow, standIns := [], harness := (true, "9fd1ae18b8f01e420c794fcd5b97979b9519b515858d6d4d22124194bfec43ea"), looks := true }, kinds := [], alts := [], laidByText := true, laidKinds := [.data, .data, .data, .data, .sentinel, .sentinel, .pinned], laidTests := true, laidLooks := .later }
def BagCutsUptoCardSaid : Prop := Claim7.holds Tryz.pinned (.plain (OpenSpec.upto bagCutsSpec)) bagCutsUptoCard

/-- THE SECOND FORM's CARD OF 'afterwordlaw04.BagPairs'. -/
def bagPairsUptoCard : Claim7 := { stood := { row := bagPairsUptoRow, standIns := [], harness := (true, "9fd1ae18b8f01e420c794fcd5b97979b9519b515858d6d4d22124194bfec43ea"), looks := true }, kinds := [], alts := [], laidByText := true, laidKinds := [.data, .data, .data, .data, .sentinel, .sentinel, .pinned], laidTests := true, laidLooks := .later }
def BagPairsUptoCardSaid : Prop := Claim7.holds Tryz.pinned (.plain (OpenSpec.upto bagPairsSpec)) bagPairsUptoCard

/-- THE SECOND FORM's CARD OF 'afterwordlaw04.BagEdits'. -/
def bagEditsUptoCard : Claim7 := { stood := { row := bagEditsUptoRow, standIns := [], harness := (true, "9fd1ae18b8f01e420c794fcd5b97979b9519b515858d6d4d22124194bfec43ea"), looks := true }, kinds := [], alts := [], laidByText := true, laidKinds := [.data, .data, .data, .data, .sentinel, .sentinel, .pinned], laidTests := true, laidLooks := .later }
def BagEditsUptoCardSaid : Prop := Claim7.holds Tryz.pinned (.plain (OpenSpec.upto bagEditsSpec)) bagEditsUptoCard

/-- THE SECOND FORM's CARD OF 'afterwordlaw04.BagTexts'. -/
def bagTextsUptoCard : Claim7 := { stood := { row := bagTextsUptoRow, standIns := [], harness := (true, "9fd1ae18b8f01e420c794fcd5b97979b9519b515858d6d4d22124194bfec43ea"), looks := true }, kinds := [], alts := [], laidByText := true, laidKinds := [.data, .data, .data, .data, .sentinel, .sentinel, .pinned], laidTests := true, laidLooks := .later }
def BagTextsUptoCardSaid : Prop := Claim7.holds Tryz.pinned (.plain (OpenSpec.upto bagTextsSpec)) bagTextsUptoCard

/-- THE SECOND FORM's CARD OF 'afterwordlaw04.BagReads'. -/
def bagReadsUptoCard : Claim7 := { stood := { row := bagReadsUptoRow, standIns := [], harness := (true, "9fd1ae18b8f01e420c794fcd5b97979b9519b515858d6d4d22124194bfec43ea"), looks := true }, kinds := [], alts := [], laidByText := true, laidKinds := [.data, .data, .data, .data, .sentinel, .sentinel, .pinned], laidTests := true, laidLooks := .later }
def BagReadsUptoCardSaid : Prop := Claim7.holds Tryz.pinned (.plain (OpenSpec.upto bagReadsSpec)) bagReadsUptoCard

/-- THE SECOND FORM's CARD OF 'afterwordlaw04.BagGroup'. -/
def bagGroupUptoCard : Claim7 := { stood := { row := bagGroupUptoRow, standIns := [], harness := (true, "9fd1ae18b8f01e420c794fcd5b97979b9519b515858d6d4d22124194bfec43ea"), looks := true }, kinds := [], alts := [], laidByText := true, laidKinds := [.data, .data, .data, .data, .sentinel, .sentinel, .pinned], laidTests := true, laidLooks := .later }
def BagGroupUptoCardSaid : Prop := Claim7.holds Tryz.pinned (.plain (OpenSpec.upto bagGroupSpec)) bagGroupUptoCard

/-- THE SECOND FORM's CARD OF 'afterwordlaw04.BagParted'. -/
def bagPartedUptoCard : Claim7 := { stood := { row := bagPartedUptoRow, standIns := [], harness := (true, "9fd1ae18b8f01e420c794fcd5b97979b9519b515858d6d4d22124194bfec43ea"), looks := true }, kinds := [], alts := [], laidByText := true, laidKinds := [.data, .data, .data, .data, .sentinel, .sentinel, .pinned], laidTests := true, laidLooks := .later }
def BagPartedUptoCardSaid : Prop := Claim7.holds Tryz.pinned (.plain (OpenSpec.upto bagPartedSpec)) bagPartedUptoCard

/-- THE SECOND FORM's CARD OF 'afterwordlaw04.BagBilinear'. -/
def bagBilinearUptoCard : Claim7 := { stood := { row := bagBilinearUptoRow, standIns := [], harness := (true, "9fd1ae18b8f01e420c794fcd5b97979b9519b515858d6d4d22124194bfec43ea"), looks := true }, kinds := [], alts := [], laidByText := true, laidKinds := [.data, .data, .data, .data, .sentinel, .sentinel, .pinned], laidTests := true, laidLooks := .later }
def BagBilinearUptoCardSaid : Prop := Claim7.holds Tryz.pinned (.plain (OpenSpec.upto bagBilinearSpec)) bagBilinearUptoCard

/-- THE SECOND FORM's CARD OF 'afterwordlaw04.BagLeast'. -/
def bagLeastUptoCard : Claim7 := { stood := { row := bagLeastUptoRow, standIns := [], harness := (true, "9fd1ae18b8f01e420c794fcd5b97979b9519b515858d6d4d22124194bfec43ea"), looks := true }, kinds := [], alts := [], laidByText := true, laidKinds := [.data, .data, .data, .data, .sentinel, .sentinel, .pinned], laidTests := true, laidLooks := .later }
def BagLeastUptoCardSaid : Prop := Claim7.holds Tryz.pinned (.plain (OpenSpec.upto bagLeastSpec)) bagLeastUptoCard

/-- THE SECOND FORM's CARD OF 'afterwordlaw04.BagBack'. -/
def bagBackUptoCard : Claim7 := { stood := { row := bagBackUptoRow, standIns := [], harness := (true, "9fd1ae18b8f01e420c794fcd5b97979b9519b515858d6d4d22124194bfec43ea"), looks := true }, kinds := [], alts := [], laidByText := true, laidKinds := [.data, .data, .data, .data, .sentinel, .sentinel, .pinned], laidTests := true, laidLooks := .later }
def BagBackUptoCardSaid : Prop := Claim7.holds Tryz.pinned (.plain (OpenSpec.upto bagBackSpec)) bagBackUptoCard

/-- THE SECOND FORM's CARD OF 'afterwordlaw04.BagKnown'. -/
def bagKnownUptoCard : Claim7 := { stood := { row := bagKnownUptoRow, standIns := [], harness := (true, "9fd1ae18b8f01e420c794fcd5b97979b9519b515858d6d4d22124194bfec43ea"), looks := true }, kinds := [], alts := [], laidByText := true, laidKinds := [.data, .data, .data, .data, .sentinel, .sentinel, .pinned], laidTests := true, laidLooks := .later }
def BagKnownUptoCardSaid : Prop := Claim7.holds Tryz.pinned (.plain (OpenSpec.upto bagKnownSpec)) bagKnownUptoCard
end Rows
end Go.Proofs.YtimlgclejaoboaaGreatDoor
