/- Stage 2's seat: known() returns true. -/
import Derived.Test.YtkdcpnfbpplhdaaDoorTmKo
namespace Go.Proofs.YtkdcpnfbpplhdaaDoor
open Go Go.Ev
set_option maxRecDepth 100000
theorem c11 (es : Nat → TypeId) : answers (evCall env lTmK 1000 1000 11 [] (st es)) (.bool true) = true := by kernel_rfl
theorem known_any (w : World) (hw : TabsIn tabs w) : Calls Tryd.prog 11 #[] w fun e w' => e = .returned (.bool true) ∧ RowKit.Below w.heap.size w w' :=
  run_ok env_ok lTmK_ok (tabs_below 1000 (by decide)) (by show (1 : Nat) ≤ 1000; decide) (Nat.le_refl _) rfl (fun es => answers_eq (c11 es)) hw
end Go.Proofs.YtkdcpnfbpplhdaaDoor
#print axioms Go.Proofs.YtkdcpnfbpplhdaaDoor.known_any
