/- The seat: DateTurned, the row. -/
import Derived.Test.YtppdgahnmkbnlaaGreatDoorSeatX14
namespace Go.Proofs.YtppdgahnmkbnlaaGreatDoor
open Go Go.ChangeShapes Go.WideShapes Go.RowKit
set_option maxRecDepth 100000
set_option maxHeartbeats 0 in
theorem dateTurned_closed : joinedFacts Tryz.pinned.checked.prog 14 Tryz.f14 Rows.dateTurnedSpec Rows.dateTurnedRow = true := by
  unfold joinedFacts
  repeat' (with_reducible (apply band))
  all_goals as_aux_lemma => kernel_rfl
theorem dateTurned_inst : Tryz.f14.isInstance Tryz.pinned.checked.prog Rows.dateTurnedRow.origin Rows.dateTurnedRow.targs := of_decide_eq_true (by kernel_rfl)
theorem dateTurned_wrap : Tryz.f14.isWrapper Tryz.pinned.checked.prog Rows.dateTurnedRow.wrapper Rows.dateTurnedRow.mainSum := by unfold Func.isWrapper; rw [if_neg (of_decide_eq_false (by kernel_rfl))]; exact ⟨rfl, rfl⟩
theorem dateTurned_named : Tryz.pinned.checked.prog.funcNamed Rows.dateTurnedRow.func = some 14 := by kernel_rfl
theorem dateTurned_holds : Rows.DateTurnedSaid :=
  OpenClaim.holds_of_wide 14 Tryz.f14 rfl rfl rfl rfl rfl rfl rfl ⟨rfl, rfl, rfl, rfl, rfl⟩ rfl rfl rfl rfl rfl dateTurned_named Tryz.func14 dateTurned_closed dateTurned_inst dateTurned_wrap
    (fun os started H enc _ => dateTurned_lifted os started H enc)
end Go.Proofs.YtppdgahnmkbnlaaGreatDoor
#print axioms Go.Proofs.YtppdgahnmkbnlaaGreatDoor.dateTurned_holds
