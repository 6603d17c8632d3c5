/-
  DERIVED. GIVEN WITH THE SEED: THE CARDS: each row of YtfhljcpicdabmaaGreatDoorRows.lean that lists a variable, with what it lists TIED to the program's text (the seventh form; the later family's looks); each row that meets fmt, with fmt's text TOLD by the authors' own Lean function (tested against real Go, not proved from fmt's source: count such statements apart). THE CARD IS WHAT COUNTS. Prove the row's statement (the work); the ties are given (YtfhljcpicdabmaaGreatDoorTie.lean); close each card by the builder's one call (the guide's Derived/Test/ToyasCard.lean, 'card_holds'). Laid BY PROGRAM, IN A SANDBOX (cutbox-door.mjs). By AI agents, Wed Nov 11 2026. No macro, syntax, notation, axiom, sorry.
-/
import Derived.Test.YtfhljcpicdabmaaGreatDoorRows
import GoSem.ClaimSeven
namespace Go.Proofs.YtfhljcpicdabmaaGreatDoor
namespace Rows

/-- THE TIED CARD OF 'afterwordlaw01.DateDays'. -/
def dateDaysCard : Claim7 := { stood := { row := dateDaysRow, standIns := [], harness := (true, "508c4aa762a3e00f7e370147798f564ff6e35bc0cebca693cc499fc7fc05f8f7"), looks := false }, kinds := [], alts := [], laidByText := true, laidKinds := [.data, .data, .data, .data, .data], laidTests := true, laidLooks := .later }
def DateDaysCardSaid : Prop := Claim7.holds Tryz.pinned (.plain (OpenSpec.ofChange dateDaysSpec)) dateDaysCard

/-- THE TIED CARD OF 'afterwordlaw01.DateWeeks'. -/
def dateWeeksCard : Claim7 := { stood := { row := dateWeeksRow, standIns := [], harness := (true, "508c4aa762a3e00f7e370147798f564ff6e35bc0cebca693cc499fc7fc05f8f7"), looks := false }, kinds := [], alts := [], laidByText := true, laidKinds := [.data, .data, .data, .data, .data], laidTests := true, laidLooks := .later }
def DateWeeksCardSaid : Prop := Claim7.holds Tryz.pinned (.plain (OpenSpec.ofChange dateWeeksSpec)) dateWeeksCard

/-- THE TIED CARD OF 'afterwordlaw01.DateMonths'. -/
def dateMonthsCard : Claim7 := { stood := { row := dateMonthsRow, standIns := [], harness := (true, "508c4aa762a3e00f7e370147798f564ff6e35bc0cebca693cc499fc7fc05f8f7"), looks := false }, kinds := [], alts := [], laidByText := true, laidKinds := [.data, .data, .data, .data, .data], laidTests := true, laidLooks := .later }
def DateMonthsCardSaid : Prop := Claim7.holds Tryz.pinned (.plain (OpenSpec.ofChange dateMonthsSpec)) dateMonthsCard

/-- THE TIED CARD OF 'afterwordlaw01.DateSets'. -/
def dateSetsCard : Claim7 := { stood := { row := dateSetsRow, standIns := [], harness := (true, "508c4aa762a3e00f7e370147798f564ff6e35bc0cebca693cc499fc7fc05f8f7"), looks := false }, kinds := [], alts := [], laidByText := true, laidKinds := [.data, .data, .data, .data, .data], laidTests := true, laidLooks := .later }
def DateSetsCardSaid : Prop := Claim7.holds Tryz.pinned (.plain (OpenSpec.ofChange dateSetsSpec)) dateSetsCard

/-- THE TIED CARD OF 'afterwordlaw01.DateWays'. -/
def dateWaysCard : Claim7 := { stood := { row := dateWaysRow, standIns := [], harness := (true, "508c4aa762a3e00f7e370147798f564ff6e35bc0cebca693cc499fc7fc05f8f7"), looks := false }, kinds := [], alts := [], laidByText := true, laidKinds := [.data, .data, .data, .data, .data], laidTests := true, laidLooks := .later }
def DateWaysCardSaid : Prop := Claim7.holds Tryz.pinned (.plain (OpenSpec.ofChange dateWaysSpec)) dateWaysCard

/-- THE TIED CARD OF 'afterwordlaw01.DatePlaces'. -/
def datePlacesCard : Claim7 := { stood := { row := datePlacesRow, standIns := [], harness := (true, "508c4aa762a3e00f7e370147798f564ff6e35bc0cebca693cc499fc7fc05f8f7"), looks := false }, kinds := [], alts := [], laidByText := true, laidKinds := [.data, .data, .data, .data, .data], laidTests := true, laidLooks := .later }
def DatePlacesCardSaid : Prop := Claim7.holds Tryz.pinned (.plain (OpenSpec.ofChange datePlacesSpec)) datePlacesCard

/-- THE TIED CARD OF 'afterwordlaw01.DateCals'. -/
def dateCalsCard : Claim7 := { stood := { row := dateCalsRow, standIns := [], harness := (true, "508c4aa762a3e00f7e370147798f564ff6e35bc0cebca693cc499fc7fc05f8f7"), looks := false }, kinds := [], alts := [], laidByText := true, laidKinds := [.data, .data, .data, .data, .data], laidTests := true, laidLooks := .later }
def DateCalsCardSaid : Prop := Claim7.holds Tryz.pinned (.plain (OpenSpec.ofChange dateCalsSpec)) dateCalsCard

/-- THE TIED CARD OF 'afterwordlaw01.DateTexts'. -/
def dateTextsCard : Claim7 := { stood := { row := dateTextsRow, standIns := [], harness := (true, "508c4aa762a3e00f7e370147798f564ff6e35bc0cebca693cc499fc7fc05f8f7"), looks := false }, kinds := [], alts := [], laidByText := true, laidKinds := [.data, .data, .data, .data, .data, .data, .pinned], laidTests := true, laidLooks := .later }
def DateTextsCardSaid : Prop := Claim7.holds Tryz.pinned (.plain (OpenSpec.ofChange dateTextsSpec)) dateTextsCard

/-- THE TIED CARD OF 'afterwordlaw01.DateFollows'. -/
def dateFollowsCard : Claim7 := { stood := { row := dateFollowsRow, standIns := [], harness := (true, "508c4aa762a3e00f7e370147798f564ff6e35bc0cebca693cc499fc7fc05f8f7"), looks := false }, kinds := [], alts := [], laidByText := true, laidKinds := [.data, .data, .data, .data, .data], laidTests := true, laidLooks := .later }
def DateFollowsCardSaid : Prop := Claim7.holds Tryz.pinned (.plain (OpenSpec.ofChange dateFollowsSpec)) dateFollowsCard

/-- THE TIED CARD OF 'afterwordlaw01.DateParts'. -/
def datePartsCard : Claim7 := { stood := { row := datePartsRow, standIns := [], harness := (true, "508c4aa762a3e00f7e370147798f564ff6e35bc0cebca693cc499fc7fc05f8f7"), looks := false }, kinds := [], alts := [], laidByText := true, laidKinds := [.data, .data, .data, .data, .data], laidTests := true, laidLooks := .later }
def DatePartsCardSaid : Prop := Claim7.holds Tryz.pinned (.plain (OpenSpec.ofChange datePartsSpec)) datePartsCard

/-- THE TIED CARD OF 'afterwordlaw01.DateAlgebra'. -/
def dateAlgebraCard : Claim7 := { stood := { row := dateAlgebraRow, standIns := [], harness := (true, "508c4aa762a3e00f7e370147798f564ff6e35bc0cebca693cc499fc7fc05f8f7"), looks := false }, kinds := [], alts := [], laidByText := true, laidKinds := [.data, .data, .data, .data, .data], laidTests := true, laidLooks := .later }
def DateAlgebraCardSaid : Prop := Claim7.holds Tryz.pinned (.plain (OpenSpec.ofChange dateAlgebraSpec)) dateAlgebraCard

/-- THE TIED CARD OF 'afterwordlaw01.DateTurned'. -/
def dateTurnedCard : Claim7 := { stood := { row := dateTurnedRow, standIns := [], harness := (true, "508c4aa762a3e00f7e370147798f564ff6e35bc0cebca693cc499fc7fc05f8f7"), looks := false }, kinds := [], alts := [], laidByText := true, laidKinds := [.data, .data, .data, .data, .data], laidTests := true, laidLooks := .later }
def DateTurnedCardSaid : Prop := Claim7.holds Tryz.pinned (.plain (OpenSpec.ofChange dateTurnedSpec)) dateTurnedCard

/-- THE TIED CARD OF 'afterwordlaw01.DatePlaced'. -/
def datePlacedCard : Claim7 := { stood := { row := datePlacedRow, standIns := [], harness := (true, "508c4aa762a3e00f7e370147798f564ff6e35bc0cebca693cc499fc7fc05f8f7"), looks := false }, kinds := [], alts := [], laidByText := true, laidKinds := [.data, .data, .data, .data, .data], laidTests := true, laidLooks := .later }
def DatePlacedCardSaid : Prop := Claim7.holds Tryz.pinned (.plain (OpenSpec.ofChange datePlacedSpec)) datePlacedCard

/-- THE TIED CARD OF 'afterwordlaw01.DateAgain'. -/
def dateAgainCard : Claim7 := { stood := { row := dateAgainRow, standIns := [], harness := (true, "508c4aa762a3e00f7e370147798f564ff6e35bc0cebca693cc499fc7fc05f8f7"), looks := false }, kinds := [], alts := [], laidByText := true, laidKinds := [.data, .data, .data, .data, .data], laidTests := true, laidLooks := .later }
def DateAgainCardSaid : Prop := Claim7.holds Tryz.pinned (.plain (OpenSpec.ofChange dateAgainSpec)) dateAgainCard

/-- THE TIED CARD OF 'afterwordlaw01.DateBack'. -/
def dateBackCard : Claim7 := { stood := { row := dateBackRow, standIns := [], harness := (true, "508c4aa762a3e00f7e370147798f564ff6e35bc0cebca693cc499fc7fc05f8f7"), looks := false }, kinds := [], alts := [], laidByText := true, laidKinds := [.data, .data, .data, .data, .data, .data, .pinned], laidTests := true, laidLooks := .later }
def DateBackCardSaid : Prop := Claim7.holds Tryz.pinned (.plain (OpenSpec.ofChange dateBackSpec)) dateBackCard

/-- THE TIED CARD OF 'afterwordlaw01.DateKnown'. -/
def dateKnownCard : Claim7 := { stood := { row := dateKnownRow, standIns := [], harness := (true, "508c4aa762a3e00f7e370147798f564ff6e35bc0cebca693cc499fc7fc05f8f7"), looks := false }, kinds := [], alts := [], laidByText := true, laidKinds := [.data, .data, .data, .data, .data, .data, .pinned], laidTests := true, laidLooks := .later }
def DateKnownCardSaid : Prop := Claim7.holds Tryz.pinned (.plain (OpenSpec.ofChange dateKnownSpec)) dateKnownCard

/-- THE SECOND FORM's CARD OF 'afterwordlaw01.DateDays'. -/
def dateDaysUptoCard : Claim7 := { stood := { row := dateDaysUptoRow, standIns := [], harness := (true, "508c4aa762a3e00f7e370147798f564ff6e35bc0cebca693cc499fc7fc05f8f7"), looks := false }, kinds := [], alts := [], laidByText := true, laidKinds := [.data, .data, .data, .data, .data], laidTests := true, laidLooks := .later }
def DateDaysUptoCardSaid : Prop := Claim7.holds Tryz.pinned (.plain (OpenSpec.upto dateDaysSpec)) dateDaysUptoCard

/-- THE SECOND FORM's CARD OF 'afterwordlaw01.DateWeeks'. -/
def dateWeeksUptoCard : Claim7 := { stood := { row := dateWeeksUptoRow, standIns := [], harness := (true, "508c4aa762a3e00f7e370147798f564ff6e35bc0cebca693cc499fc7fc05f8f7"), looks := false }, kinds := [], alts := [], laidByText := true, laidKinds := [.data, .data, .data, .data, .data], laidTests := true, laidLooks := .later }
def DateWeeksUptoCardSaid : Prop := Claim7.holds Tryz.pinned (.plain (OpenSpec.upto dateWeeksSpec)) dateWeeksUptoCard

/-- THE SECOND FORM's CARD OF 'afterwordlaw01.DateMonths'. -/
def dateMonthsUptoCard : Claim7 := { stood := { row := dateMonthsUptoRow, standIns := [], harness := (true, "508c4aa762a3e00f7e370147798f564ff6e35bc0cebca693cc499fc7fc05f8f7"), looks := false }, kinds := [], alts := [], laidByText := true, laidKinds := [.data, .data, .data, .data, .data], laidTests := true, laidLooks := .later }
def DateMonthsUptoCardSaid : Prop := Claim7.holds Tryz.pinned (.plain (OpenSpec.upto dateMonthsSpec)) dateMonthsUptoCard

/-- THE SECOND FORM's CARD OF 'afterwordlaw01.DateSets'. -/
def dateSetsUptoCard : Claim7 := { stood := { row := dateSetsUptoRow, standIns := [], harness := (true, "508c4aa762a3e00f7e370147798f564ff6e35bc0cebca693cc499fc7fc05f8f7"), looks := false }, kinds := [], alts := [], laidByText := true, laidKinds := [.data, .data, .data, .data, .data], laidTests := true, laidLooks := .later }
def DateSetsUptoCardSaid : Prop := Claim7.holds Tryz.pinned (.plain (OpenSpec.upto dateSetsSpec)) dateSetsUptoCard

/-- THE SECOND FORM's CARD OF 'afterwordlaw01.DateWays'. -/
def dateWaysUptoCard : Claim7 := { stood := { row := dateWaysUptoRow, standIns := [], harness := (true, "508c4aa762a3e00f7e370147798f564ff6e35bc0cebca693cc499fc7fc05f8f7"), looks := false }, kinds := [], alts := [], laidByText := true, laidKinds := [.data, .data, .data, .data, .data], laidTests := true, laidLooks := .later }
def DateWaysUptoCardSaid : Prop := Claim7.holds Tryz.pinned (.plain (OpenSpec.upto dateWaysSpec)) dateWaysUptoCard

/-- THE SECOND FORM's CARD OF 'afterwordlaw01.DatePlaces'. -/
def datePlacesUptoCard : Claim7 := { stood := { row := datePlacesUptoRow, standIns := [], harness := (true, "508c4aa762a3e00f7e370147798f564ff6e35bc0cebca693cc499fc7fc05f8f7"), looks := false }, kinds := [], alts := [], laidByText := true, laidKinds := [.data, .data, .data, .data, .data], laidTests := true, laidLooks := .later }
def DatePlacesUptoCardSaid : Prop := Claim7.holds Tryz.pinned (.plain (OpenSpec.upto datePlacesSpec)) datePlacesUptoCard

/-- THE SECOND FORM's CARD OF 'afterwordlaw01.DateCals'. -/
def dateCalsUptoCard : Claim7 := { stood := { row := dateCalsUptoRow, standIns := [], harness := (true, "508c4aa762a3e00f7e370147798f564ff6e35bc0cebca693cc499fc7fc05f8f7"), looks := false }, kinds := [], alts := [], laidByText := true, laidKinds := [.data, .data, .data, .data, .data], laidTests := true, laidLooks := .later }
def DateCalsUptoCardSaid : Prop := Claim7.holds Tryz.pinned (.plain (OpenSpec.upto dateCalsSpec)) dateCalsUptoCard

/-- THE SECOND FORM's CARD OF 'afterwordlaw01.DateTexts'. -/
def dateTextsUptoCard : Claim7 := { stood := { row := dateTextsUptoRow, standIns := [], harness := (true, "508c4aa762a3e00f7e370147798f564ff6e35bc0cebca693cc499fc7fc05f8f7"), looks := false }, kinds := [], alts := [], laidByText := true, laidKinds := [.data, .data, .data, .data, .data, .data, .pinned], laidTests := true, laidLooks := .later }
def DateTextsUptoCardSaid : Prop := Claim7.holds Tryz.pinned (.plain (OpenSpec.upto dateTextsSpec)) dateTextsUptoCard

/-- THE SECOND FORM's CARD OF 'afterwordlaw01.DateFollows'. -/
def dateFollowsUptoCard : Claim7 := { stood := { row := dateFollowsUptoRow, standIns := [], harness := (true, "508c4aa762a3e00f7e370147798f564ff6e35bc0cebca693cc499fc7fc05f8f7"), looks := false }, kinds := [], alts := [], laidByText := true, laidKinds := [.data, .data, .data, .data, .data], laidTests := true, laidLooks := .later }
def DateFollowsUptoCardSaid : Prop := Claim7.holds Tryz.pinned (.plain (OpenSpec.upto dateFollowsSpec)) dateFollowsUptoCard

/-- THE SECOND FORM's CARD OF 'afterwordlaw01.DateParts'. -/
def datePartsUptoCard : Claim7 := { stood := { row := datePartsUptoRow, standIns := [], harness := (true, "508c4aa762a3e00f7e370147798f564ff6e35bc0cebca693cc499fc7fc05f8f7"), looks := false }, kinds := [], alts := [], laidByText := true, laidKinds := [.data, .data, .data, .data, .data], laidTests := true, laidLooks := .later }
def DatePartsUptoCardSaid : Prop := Claim7.holds Tryz.pinned (.plain (OpenSpec.upto datePartsSpec)) datePartsUptoCard

/-- THE SECOND FORM's CARD OF 'afterwordlaw01.DateAlgebra'. -/
def dateAlgebraUptoCard : Claim7 := { stood := { row := dateAlgebraUptoRow, standIns := [], harness := (true, "508c4aa762a3e00f7e370147798f564ff6e35bc0cebca693cc499fc7fc05f8f7"), looks := false }, kinds := [], alts := [], laidByText := true, laidKinds := [.data, .data, .data, .data, .data], laidTests := true, laidLooks := .later }
def DateAlgebraUptoCardSaid : Prop := Claim7.holds Tryz.pinned (.plain (OpenSpec.upto dateAlgebraSpec)) dateAlgebraUptoCard

/-- THE SECOND FORM's CARD OF 'afterwordlaw01.DateTurned'. -/
def dateTurnedUptoCard : Claim7 := { stood := { row := dateTurnedUptoRow, standIns := [], harness := (true, "508c4aa762a3e00f7e370147798f564ff6e35bc0cebca693cc499fc7fc05f8f7"), looks := false }, kinds := [], alts := [], laidByText := true, laidKinds := [.data, .data, .data, .data, .data], laidTests := true, laidLooks := .later }
def DateTurnedUptoCardSaid : Prop := Claim7.holds Tryz.pinned (.plain (OpenSpec.upto dateTurnedSpec)) dateTurnedUptoCard

/-- THE SECOND FORM's CARD OF 'afterwordlaw01.DatePlaced'. -/
def datePlacedUptoCard : Claim7 := { stood := { row := datePlacedUptoRow, standIns := [], harness := (true, "508c4aa762a3e00f7e370147798f564ff6e35bc0cebca693cc499fc7fc05f8f7"), looks := false }, kinds := [], alts := [], laidByText := true, laidKinds := [.data, .data, .data, .data, .data], laidTests := true, laidLooks := .later }
def DatePlacedUptoCardSaid : Prop := Claim7.holds Tryz.pinned (.plain (OpenSpec.upto datePlacedSpec)) datePlacedUptoCard

/-- THE SECOND FORM's CARD OF 'afterwordlaw01.DateAgain'. -/
def dateAgainUptoCard : Claim7 := { stood := { row := dateAgainUptoRow, standIns := [], harness := (true, "508c4aa762a3e00f7e370147798f564ff6e35bc0cebca693cc499fc7fc05f8f7"), looks := false }, kinds := [], alts := [], laidByText := true, laidKinds := [.data, .data, .data, .data, .data], laidTests := true, laidLooks := .later }
def DateAgainUptoCardSaid : Prop := Claim7.holds Tryz.pinned (.plain (OpenSpec.upto dateAgainSpec)) dateAgainUptoCard

/-- THE SECOND FORM's CARD OF 'afterwordlaw01.DateBack'. -/
def dateBackUptoCard : Claim7 := { stood := { row := dateBackUptoRow, standIns := [], harness := (true, "508c4aa762a3e00f7e370147798f564ff6e35bc0cebca693cc499fc7fc05f8f7"), looks := false }, kinds := [], alts := [], laidByText := true, laidKinds := [.data, .data, .data, .data, .data, .data, .pinned], laidTests := true, laidLooks := .later }
def DateBackUptoCardSaid : Prop := Claim7.holds Tryz.pinned (.plain (OpenSpec.upto dateBackSpec)) dateBackUptoCard

/-- THE SECOND FORM's CARD OF 'afterwordlaw01.DateKnown'. -/
def dateKnownUptoCard : Claim7 := { stood := { row := dateKnownUptoRow, standIns := [], harness := (true, "508c4aa762a3e00f7e370147798f564ff6e35bc0cebca693cc499fc7fc05f8f7"), looks := false }, kinds := [], alts := [], laidByText := true, laidKinds := [.data, .data, .data, .data, .data, .data, .pinned], laidTests := true, laidLooks := .later }
def DateKnownUptoCardSaid : Prop := Claim7.holds Tryz.pinned (.plain (OpenSpec.upto dateKnownSpec)) dateKnownUptoCard
end Rows
end Go.Proofs.YtfhljcpicdabmaaGreatDoor
