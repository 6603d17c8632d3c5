/-
  DERIVED. GIVEN WITH THE SEED: THE CARDS: each row of YtkdcpnfbpplhdaaDoorRows.lean that lists a variable, with what it lists TIED to the program's text (the seventh form; the later family's looks); each row that meets fmt, with fmt's text TOLD by the authors' own Lean function (tested against real Go, not proved from fmt's source: count such statements apart). THE CARD IS WHAT COUNTS. Prove the row's statement (the work); the ties are given (YtkdcpnfbpplhdaaDoorTie.lean); close each card by the builder's one call (the guide's Derived/Test/ToyasCard.lean, 'card_holds'). Laid BY PROGRAM, IN A SANDBOX (cutbox-door.mjs). By AI agents, Wed Nov 11 2026. No macro, syntax, notation, axiom, sorry.
-/
import Derived.Test.YtkdcpnfbpplhdaaDoorRows
import GoSem.ClaimSeven
namespace Go.Proofs.YtkdcpnfbpplhdaaDoor
namespace Rows

/-- THE TIED CARD OF 'afterwordlaw02.TermNames'. -/
def termNamesCard : Claim7 := { stood := { row := termNamesRow, standIns := [], harness := (true, "ba1fe1470d5e90f3c7b7e1c44339b07788fbac2fb159b0139acbd8a9d1dae593"), looks := false }, kinds := [], alts := [], laidByText := true, laidKinds := [.data], laidTests := true, laidLooks := .later }
def TermNamesCardSaid : Prop := Claim7.holds Tryd.pinned (.plain (OpenSpec.ofChange termNamesSpec)) termNamesCard

/-- THE TIED CARD OF 'afterwordlaw02.TermChecks'. -/
def termChecksCard : Claim7 := { stood := { row := termChecksRow, standIns := [], harness := (true, "ba1fe1470d5e90f3c7b7e1c44339b07788fbac2fb159b0139acbd8a9d1dae593"), looks := false }, kinds := [], alts := [], laidByText := true, laidKinds := [.data], laidTests := true, laidLooks := .later }
def TermChecksCardSaid : Prop := Claim7.holds Tryd.pinned (.plain (OpenSpec.ofChange termChecksSpec)) termChecksCard

/-- THE TIED CARD OF 'afterwordlaw02.TermReaches'. -/
def termReachesCard : Claim7 := { stood := { row := termReachesRow, standIns := [], harness := (true, "ba1fe1470d5e90f3c7b7e1c44339b07788fbac2fb159b0139acbd8a9d1dae593"), looks := false }, kinds := [], alts := [], laidByText := true, laidKinds := [.data], laidTests := true, laidLooks := .later }
def TermReachesCardSaid : Prop := Claim7.holds Tryd.pinned (.plain (OpenSpec.ofChange termReachesSpec)) termReachesCard

/-- THE TIED CARD OF 'afterwordlaw02.TermRings'. -/
def termRingsCard : Claim7 := { stood := { row := termRingsRow, standIns := [], harness := (true, "ba1fe1470d5e90f3c7b7e1c44339b07788fbac2fb159b0139acbd8a9d1dae593"), looks := false }, kinds := [], alts := [], laidByText := true, laidKinds := [.data], laidTests := true, laidLooks := .later }
def TermRingsCardSaid : Prop := Claim7.holds Tryd.pinned (.plain (OpenSpec.ofChange termRingsSpec)) termRingsCard

/-- THE SECOND FORM's CARD OF 'afterwordlaw02.TermNames'. -/
def termNamesUptoCard : Claim7 := { stood := { row := termNamesUptoRow, standIns := [], harness := (true, "ba1fe1470d5e90f3c7b7e1c44339b07788fbac2fb159b0139acbd8a9d1dae593"), looks := false }, kinds := [], alts := [], laidByText := true, laidKinds := [.data], laidTests := true, laidLooks := .later }
def TermNamesUptoCardSaid : Prop := Claim7.holds Tryd.pinned (.plain (OpenSpec.upto termNamesSpec)) termNamesUptoCard

/-- THE SECOND FORM's CARD OF 'afterwordlaw02.TermChecks'. -/
def termChecksUptoCard : Claim7 := { stood := { row := termChecksUptoRow, standIns := [], harness := (true, "ba1fe1470d5e90f3c7b7e1c44339b07788fbac2fb159b0139acbd8a9d1dae593"), looks := false }, kinds := [], alts := [], laidByText := true, laidKinds := [.data], laidTests := true, laidLooks := .later }
def TermChecksUptoCardSaid : Prop := Claim7.holds Tryd.pinned (.plain (OpenSpec.upto termChecksSpec)) termChecksUptoCard

/-- THE SECOND FORM's CARD OF 'afterwordlaw02.TermReaches'. -/
def termReachesUptoCard : Claim7 := { stood := { row := termReachesUptoRow, standIns := [], harness := (true, "ba1fe1470d5e90f3c7b7e1c44339b07788fbac2fb159b0139acbd8a9d1dae593"), looks := false }, kinds := [], alts := [], laidByText := true, laidKinds := [.data], laidTests := true, laidLooks := .later }
def TermReachesUptoCardSaid : Prop := Claim7.holds Tryd.pinned (.plain (OpenSpec.upto termReachesSpec)) termReachesUptoCard

/-- THE SECOND FORM's CARD OF 'afterwordlaw02.TermRings'. -/
def termRingsUptoCard : Claim7 := { stood := { row := termRingsUptoRow, standIns := [], harness := (true, "ba1fe1470d5e90f3c7b7e1c44339b07788fbac2fb159b0139acbd8a9d1dae593"), looks := false }, kinds := [], alts := [], laidByText := true, laidKinds := [.data], laidTests := true, laidLooks := .later }
def TermRingsUptoCardSaid : Prop := Claim7.holds Tryd.pinned (.plain (OpenSpec.upto termRingsSpec)) termRingsUptoCard
end Rows
end Go.Proofs.YtkdcpnfbpplhdaaDoor
