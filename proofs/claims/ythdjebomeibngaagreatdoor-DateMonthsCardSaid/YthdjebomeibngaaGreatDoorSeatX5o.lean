/- The seat: DateMonths, the row. -/
import Derived.Test.YthdjebomeibngaaGreatDoorSeatX5
namespace Go.Proofs.YthdjebomeibngaaGreatDoor
open Go Go.ChangeShapes Go.WideShapes Go.RowKit
set_option maxRecDepth 100000
set_option maxHeartbeats 0 in
theorem dateMonths_closed : joinedFacts Tryz.pinned.checked.prog 5 Tryz.f5 Rows.dateMonthsSpec Rows.dateMonthsRow = true := by
  unfold joinedFacts
  repeat' (with_reducible (apply band))
  all_goals as_aux_lemma => kernel_rfl
theorem dateMonths_inst : Tryz.f5.isInstance Tryz.pinned.checked.prog Rows.dateMonthsRow.origin Rows.dateMonthsRow.targs := of_decide_eq_true (by kernel_rfl)
theorem dateMonths_wrap : Tryz.f5.isWrapper Tryz.pinned.checked.prog Rows.dateMonthsRow.wrapper Rows.dateMonthsRow.mainSum := by unfold Func.isWrapper; rw [if_neg (of_decide_eq_false (by kernel_rfl))]; exact ⟨rfl, rfl⟩
theorem dateMonths_named : Tryz.pinned.checked.prog.funcNamed Rows.dateMonthsRow.func = some 5 := by kernel_rfl
theorem dateMonths_holds : Rows.DateMonthsSaid :=
  OpenClaim.holds_of_wide 5 Tryz.f5 rfl rfl rfl rfl rfl rfl rfl ⟨rfl, rfl, rfl, rfl, rfl⟩ rfl rfl rfl rfl rfl dateMonths_named Tryz.func5 dateMonths_closed dateMonths_inst dateMonths_wrap
    (fun os started H enc _ => dateMonths_lifted os started H enc)
end Go.Proofs.YthdjebomeibngaaGreatDoor
#print axioms Go.Proofs.YthdjebomeibngaaGreatDoor.dateMonths_holds
