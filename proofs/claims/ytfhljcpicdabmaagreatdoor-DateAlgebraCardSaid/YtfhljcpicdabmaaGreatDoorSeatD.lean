/- The seat: known() returns true. -/
import Derived.Test.YtfhljcpicdabmaaGreatDoorSeatC
namespace Go.Proofs.YtfhljcpicdabmaaGreatDoor
open Go Go.Ev
set_option maxRecDepth 100000
theorem c25 (es : Nat → TypeId) : answers (evCall env lib2 1000 1000 25 [] (st es)) (.bool true) = true := by kernel_rfl
theorem known_any (w : World) (hw : TabsIn tabs w) : Calls Tryz.prog 25 #[] w fun e w' => e = .returned (.bool true) ∧ RowKit.Below w.heap.size w w' :=
  run_ok env_ok lib2_ok (tabs_below 1000 (by decide)) (by show (8 : Nat) ≤ 1000; decide) (Nat.le_refl _) rfl (fun es => answers_eq (c25 es)) hw
end Go.Proofs.YtfhljcpicdabmaaGreatDoor
#print axioms Go.Proofs.YtfhljcpicdabmaaGreatDoor.known_any
