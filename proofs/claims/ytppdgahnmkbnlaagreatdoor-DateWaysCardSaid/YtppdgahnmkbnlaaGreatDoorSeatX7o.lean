/- The seat: DateWays, the row. -/
import Derived.Test.YtppdgahnmkbnlaaGreatDoorSeatX7
namespace Go.Proofs.YtppdgahnmkbnlaaGreatDoor
open Go Go.ChangeShapes Go.WideShapes Go.RowKit
set_option maxRecDepth 100000
set_option maxHeartbeats 0 in
theorem dateWays_closed : joinedFacts Tryz.pinned.checked.prog 7 Tryz.f7 Rows.dateWaysSpec Rows.dateWaysRow = true := by
  unfold joinedFacts
  repeat' (with_reducible (apply band))
  all_goals as_aux_lemma => kernel_rfl
theorem dateWays_inst : Tryz.f7.isInstance Tryz.pinned.checked.prog Rows.dateWaysRow.origin Rows.dateWaysRow.targs := of_decide_eq_true (by kernel_rfl)
theorem dateWays_wrap : Tryz.f7.isWrapper Tryz.pinned.checked.prog Rows.dateWaysRow.wrapper Rows.dateWaysRow.mainSum := by unfold Func.isWrapper; rw [if_neg (of_decide_eq_false (by kernel_rfl))]; exact ⟨rfl, rfl⟩
theorem dateWays_named : Tryz.pinned.checked.prog.funcNamed Rows.dateWaysRow.func = some 7 := by kernel_rfl
theorem dateWays_holds : Rows.DateWaysSaid :=
  OpenClaim.holds_of_wide 7 Tryz.f7 rfl rfl rfl rfl rfl rfl rfl ⟨rfl, rfl, rfl, rfl, rfl⟩ rfl rfl rfl rfl rfl dateWays_named Tryz.func7 dateWays_closed dateWays_inst dateWays_wrap
    (fun os started H enc _ => dateWays_lifted os started H enc)
end Go.Proofs.YtppdgahnmkbnlaaGreatDoor
#print axioms Go.Proofs.YtppdgahnmkbnlaaGreatDoor.dateWays_holds
