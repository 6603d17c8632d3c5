/- The seat: DateSets, the row. -/
import Derived.Test.YtppdgahnmkbnlaaGreatDoorSeatX6
namespace Go.Proofs.YtppdgahnmkbnlaaGreatDoor
open Go Go.ChangeShapes Go.WideShapes Go.RowKit
set_option maxRecDepth 100000
set_option maxHeartbeats 0 in
theorem dateSets_closed : joinedFacts Tryz.pinned.checked.prog 6 Tryz.f6 Rows.dateSetsSpec Rows.dateSetsRow = true := by
  unfold joinedFacts
  repeat' (with_reducible (apply band))
  all_goals as_aux_lemma => kernel_rfl
theorem dateSets_inst : Tryz.f6.isInstance Tryz.pinned.checked.prog Rows.dateSetsRow.origin Rows.dateSetsRow.targs := of_decide_eq_true (by kernel_rfl)
theorem dateSets_wrap : Tryz.f6.isWrapper Tryz.pinned.checked.prog Rows.dateSetsRow.wrapper Rows.dateSetsRow.mainSum := by unfold Func.isWrapper; rw [if_neg (of_decide_eq_false (by kernel_rfl))]; exact ⟨rfl, rfl⟩
theorem dateSets_named : Tryz.pinned.checked.prog.funcNamed Rows.dateSetsRow.func = some 6 := by kernel_rfl
theorem dateSets_holds : Rows.DateSetsSaid :=
  OpenClaim.holds_of_wide 6 Tryz.f6 rfl rfl rfl rfl rfl rfl rfl ⟨rfl, rfl, rfl, rfl, rfl⟩ rfl rfl rfl rfl rfl dateSets_named Tryz.func6 dateSets_closed dateSets_inst dateSets_wrap
    (fun os started H enc _ => dateSets_lifted os started H enc)
end Go.Proofs.YtppdgahnmkbnlaaGreatDoor
#print axioms Go.Proofs.YtppdgahnmkbnlaaGreatDoor.dateSets_holds
