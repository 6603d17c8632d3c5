/- The seat: DateFollows, the row. -/
import Derived.Test.YthdjebomeibngaaGreatDoorSeatX11
namespace Go.Proofs.YthdjebomeibngaaGreatDoor
open Go Go.ChangeShapes Go.WideShapes Go.RowKit
set_option maxRecDepth 100000
set_option maxHeartbeats 0 in
theorem dateFollows_closed : joinedFacts Tryz.pinned.checked.prog 11 Tryz.f11 Rows.dateFollowsSpec Rows.dateFollowsRow = true := by
  unfold joinedFacts
  repeat' (with_reducible (apply band))
  all_goals as_aux_lemma => kernel_rfl
theorem dateFollows_inst : Tryz.f11.isInstance Tryz.pinned.checked.prog Rows.dateFollowsRow.origin Rows.dateFollowsRow.targs := of_decide_eq_true (by kernel_rfl)
theorem dateFollows_wrap : Tryz.f11.isWrapper Tryz.pinned.checked.prog Rows.dateFollowsRow.wrapper Rows.dateFollowsRow.mainSum := by unfold Func.isWrapper; rw [if_neg (of_decide_eq_false (by kernel_rfl))]; exact ⟨rfl, rfl⟩
theorem dateFollows_named : Tryz.pinned.checked.prog.funcNamed Rows.dateFollowsRow.func = some 11 := by kernel_rfl
theorem dateFollows_holds : Rows.DateFollowsSaid :=
  OpenClaim.holds_of_wide 11 Tryz.f11 rfl rfl rfl rfl rfl rfl rfl ⟨rfl, rfl, rfl, rfl, rfl⟩ rfl rfl rfl rfl rfl dateFollows_named Tryz.func11 dateFollows_closed dateFollows_inst dateFollows_wrap
    (fun os started H enc _ => dateFollows_lifted os started H enc)
end Go.Proofs.YthdjebomeibngaaGreatDoor
#print axioms Go.Proofs.YthdjebomeibngaaGreatDoor.dateFollows_holds
