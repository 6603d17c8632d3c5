/- The seat: DateDays, row and card. -/
import Derived.Test.YthdjebomeibngaaGreatDoorSeatN
namespace Go.Proofs.YthdjebomeibngaaGreatDoor
open Go Go.ChangeShapes Go.WideShapes Go.RowKit
set_option maxRecDepth 100000
theorem band {a b : Bool} (h1 : a = true) (h2 : b = true) : (a && b) = true := by rw [h1, h2]; rfl
set_option maxHeartbeats 0 in
theorem dd_closed : joinedFacts Tryz.pinned.checked.prog 3 Tryz.f3 Rows.dateDaysSpec Rows.dateDaysRow = true := by
  unfold joinedFacts
  repeat' (with_reducible (apply band))
  all_goals as_aux_lemma => kernel_rfl
theorem dd_inst : Tryz.f3.isInstance Tryz.pinned.checked.prog Rows.dateDaysRow.origin Rows.dateDaysRow.targs := of_decide_eq_true (by kernel_rfl)
theorem dd_wrap : Tryz.f3.isWrapper Tryz.pinned.checked.prog Rows.dateDaysRow.wrapper Rows.dateDaysRow.mainSum := by unfold Func.isWrapper; rw [if_neg (of_decide_eq_false (by kernel_rfl))]; exact ⟨rfl, rfl⟩
theorem dd_named : Tryz.pinned.checked.prog.funcNamed Rows.dateDaysRow.func = some 3 := by kernel_rfl
theorem days_holds : Rows.DateDaysSaid :=
  OpenClaim.holds_of_wide 3 Tryz.f3 rfl rfl rfl rfl rfl rfl rfl ⟨rfl, rfl, rfl, rfl, rfl⟩ rfl rfl rfl rfl rfl dd_named Tryz.func3 dd_closed dd_inst dd_wrap
    (fun os started H enc _ => days_lifted os started H enc)
end Go.Proofs.YthdjebomeibngaaGreatDoor
#print axioms Go.Proofs.YthdjebomeibngaaGreatDoor.days_holds
