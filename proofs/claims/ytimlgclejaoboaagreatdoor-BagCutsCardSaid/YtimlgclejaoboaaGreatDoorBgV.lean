/- Stage 4's seat: known() returns true. -/
import Derived.Test.YtimlgclejaoboaaGreatDoorBgF
namespace Go.Proofs.YtimlgclejaoboaaGreatDoor
open Go Go.Ev
set_option maxRecDepth 100000
theorem c22 : answers (evCall env lib0 100000 1000 22 [] st) (.bool true) = true := by kernel_rfl
theorem known_any (w : World) (hw : TabsIn tabs w) : Calls Tryz.prog 22 #[] w fun e w' => e = .returned (.bool true) ∧ RowKit.Below w.heap.size w w' :=
  run_ok0 env_ok lib0_ok (tabs_below 1000 (by decide)) (by show (8 : Nat) ≤ 1000; decide) (Nat.le_refl _) rfl (answers_eq c22) hw
end Go.Proofs.YtimlgclejaoboaaGreatDoor
