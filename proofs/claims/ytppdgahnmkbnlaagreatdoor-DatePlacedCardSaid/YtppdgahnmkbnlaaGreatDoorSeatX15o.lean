/- The seat: DatePlaced, the row. -/
import Derived.Test.YtppdgahnmkbnlaaGreatDoorSeatX15
namespace Go.Proofs.YtppdgahnmkbnlaaGreatDoor
open Go Go.ChangeShapes Go.WideShapes Go.RowKit
set_option maxRecDepth 100000
set_option maxHeartbeats 0 in
theorem datePlaced_closed : joinedFacts Tryz.pinned.checked.prog 15 Tryz.f15 Rows.datePlacedSpec Rows.datePlacedRow = true := by
  unfold joinedFacts
  repeat' (with_reducible (apply band))
  all_goals as_aux_lemma => kernel_rfl
theorem datePlaced_inst : Tryz.f15.isInstance Tryz.pinned.checked.prog Rows.datePlacedRow.origin Rows.datePlacedRow.targs := of_decide_eq_true (by kernel_rfl)
theorem datePlaced_wrap : Tryz.f15.isWrapper Tryz.pinned.checked.prog Rows.datePlacedRow.wrapper Rows.datePlacedRow.mainSum := by unfold Func.isWrapper; rw [if_neg (of_decide_eq_false (by kernel_rfl))]; exact ⟨rfl, rfl⟩
theorem datePlaced_named : Tryz.pinned.checked.prog.funcNamed Rows.datePlacedRow.func = some 15 := by kernel_rfl
theorem datePlaced_holds : Rows.DatePlacedSaid :=
  OpenClaim.holds_of_wide 15 Tryz.f15 rfl rfl rfl rfl rfl rfl rfl ⟨rfl, rfl, rfl, rfl, rfl⟩ rfl rfl rfl rfl rfl datePlaced_named Tryz.func15 datePlaced_closed datePlaced_inst datePlaced_wrap
    (fun os started H enc _ => datePlaced_lifted os started H enc)
end Go.Proofs.YtppdgahnmkbnlaaGreatDoor
#print axioms Go.Proofs.YtppdgahnmkbnlaaGreatDoor.datePlaced_holds
