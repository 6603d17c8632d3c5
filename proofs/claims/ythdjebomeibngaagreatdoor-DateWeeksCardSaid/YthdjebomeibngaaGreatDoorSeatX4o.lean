/- The seat: DateWeeks, the row. -/
import Derived.Test.YthdjebomeibngaaGreatDoorSeatX4
namespace Go.Proofs.YthdjebomeibngaaGreatDoor
open Go Go.ChangeShapes Go.WideShapes Go.RowKit
set_option maxRecDepth 100000
set_option maxHeartbeats 0 in
theorem dateWeeks_closed : joinedFacts Tryz.pinned.checked.prog 4 Tryz.f4 Rows.dateWeeksSpec Rows.dateWeeksRow = true := by
  unfold joinedFacts
  repeat' (with_reducible (apply band))
  all_goals as_aux_lemma => kernel_rfl
theorem dateWeeks_inst : Tryz.f4.isInstance Tryz.pinned.checked.prog Rows.dateWeeksRow.origin Rows.dateWeeksRow.targs := of_decide_eq_true (by kernel_rfl)
theorem dateWeeks_wrap : Tryz.f4.isWrapper Tryz.pinned.checked.prog Rows.dateWeeksRow.wrapper Rows.dateWeeksRow.mainSum := by unfold Func.isWrapper; rw [if_neg (of_decide_eq_false (by kernel_rfl))]; exact ⟨rfl, rfl⟩
theorem dateWeeks_named : Tryz.pinned.checked.prog.funcNamed Rows.dateWeeksRow.func = some 4 := by kernel_rfl
theorem dateWeeks_holds : Rows.DateWeeksSaid :=
  OpenClaim.holds_of_wide 4 Tryz.f4 rfl rfl rfl rfl rfl rfl rfl ⟨rfl, rfl, rfl, rfl, rfl⟩ rfl rfl rfl rfl rfl dateWeeks_named Tryz.func4 dateWeeks_closed dateWeeks_inst dateWeeks_wrap
    (fun os started H enc _ => dateWeeks_lifted os started H enc)
end Go.Proofs.YthdjebomeibngaaGreatDoor
#print axioms Go.Proofs.YthdjebomeibngaaGreatDoor.dateWeeks_holds
