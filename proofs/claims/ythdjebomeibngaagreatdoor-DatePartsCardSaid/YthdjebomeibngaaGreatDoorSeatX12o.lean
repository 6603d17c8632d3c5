/- The seat: DateParts, the row. -/
import Derived.Test.YthdjebomeibngaaGreatDoorSeatX12
namespace Go.Proofs.YthdjebomeibngaaGreatDoor
open Go Go.ChangeShapes Go.WideShapes Go.RowKit
set_option maxRecDepth 100000
set_option maxHeartbeats 0 in
theorem dateParts_closed : joinedFacts Tryz.pinned.checked.prog 12 Tryz.f12 Rows.datePartsSpec Rows.datePartsRow = true := by
  unfold joinedFacts
  repeat' (with_reducible (apply band))
  all_goals as_aux_lemma => kernel_rfl
theorem dateParts_inst : Tryz.f12.isInstance Tryz.pinned.checked.prog Rows.datePartsRow.origin Rows.datePartsRow.targs := of_decide_eq_true (by kernel_rfl)
theorem dateParts_wrap : Tryz.f12.isWrapper Tryz.pinned.checked.prog Rows.datePartsRow.wrapper Rows.datePartsRow.mainSum := by unfold Func.isWrapper; rw [if_neg (of_decide_eq_false (by kernel_rfl))]; exact ⟨rfl, rfl⟩
theorem dateParts_named : Tryz.pinned.checked.prog.funcNamed Rows.datePartsRow.func = some 12 := by kernel_rfl
theorem dateParts_holds : Rows.DatePartsSaid :=
  OpenClaim.holds_of_wide 12 Tryz.f12 rfl rfl rfl rfl rfl rfl rfl ⟨rfl, rfl, rfl, rfl, rfl⟩ rfl rfl rfl rfl rfl dateParts_named Tryz.func12 dateParts_closed dateParts_inst dateParts_wrap
    (fun os started H enc _ => dateParts_lifted os started H enc)
end Go.Proofs.YthdjebomeibngaaGreatDoor
#print axioms Go.Proofs.YthdjebomeibngaaGreatDoor.dateParts_holds
