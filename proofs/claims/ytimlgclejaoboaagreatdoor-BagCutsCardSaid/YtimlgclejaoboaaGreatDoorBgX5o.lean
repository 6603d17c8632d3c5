/- Stage 4's seat: BagCuts, the row. -/
import Derived.Test.YtimlgclejaoboaaGreatDoorBgX5
namespace Go.Proofs.YtimlgclejaoboaaGreatDoor
open Go Go.ChangeShapes Go.WideShapes Go.RowKit
set_option maxRecDepth 100000
set_option maxHeartbeats 0 in
theorem bagCuts_closed : joinedFacts Tryz.pinned.checked.prog 5 Tryz.f5 Rows.bagCutsSpec Rows.bagCutsRow = true := by
  unfold joinedFacts
  repeat' (with_reducible (apply band))
  all_goals as_aux_lemma => kernel_rfl
theorem bagCuts_inst : Tryz.f5.isInstance Tryz.pinned.checked.prog Rows.bagCutsRow.origin Rows.bagCutsRow.targs := of_decide_eq_true (by kernel_rfl)
theorem bagCuts_wrap : Tryz.f5.isWrapper Tryz.pinned.checked.prog Rows.bagCutsRow.wrapper Rows.bagCutsRow.mainSum := by unfold Func.isWrapper; rw [if_neg (of_decide_eq_false (by kernel_rfl))]; exact ⟨rfl, rfl⟩
theorem bagCuts_named : Tryz.pinned.checked.prog.funcNamed Rows.bagCutsRow.func = some 5 := by kernel_rfl
theorem bagCuts_holds : Rows.BagCutsSaid :=
  OpenClaim.holds_of_wide 5 Tryz.f5 rfl rfl rfl rfl rfl rfl rfl ⟨rfl, rfl, rfl, rfl, rfl⟩ rfl rfl rfl rfl rfl bagCuts_named Tryz.func5 bagCuts_closed bagCuts_inst bagCuts_wrap
    (fun os started H enc _ => bagCuts_lifted os started H enc)
end Go.Proofs.YtimlgclejaoboaaGreatDoor
#print axioms Go.Proofs.YtimlgclejaoboaaGreatDoor.bagCuts_holds
