/- Stage 4's seat: BagKnown, the row. -/
import Derived.Test.YtimlgclejaoboaaGreatDoorBgX15
namespace Go.Proofs.YtimlgclejaoboaaGreatDoor
open Go Go.ChangeShapes Go.WideShapes Go.RowKit
set_option maxRecDepth 100000
set_option maxHeartbeats 0 in
theorem bagKnown_closed : joinedFacts Tryz.pinned.checked.prog 15 Tryz.f15 Rows.bagKnownSpec Rows.bagKnownRow = true := by
  unfold joinedFacts
  repeat' (with_reducible (apply band))
  all_goals as_aux_lemma => kernel_rfl
theorem bagKnown_inst : Tryz.f15.isInstance Tryz.pinned.checked.prog Rows.bagKnownRow.origin Rows.bagKnownRow.targs := of_decide_eq_true (by kernel_rfl)
theorem bagKnown_wrap : Tryz.f15.isWrapper Tryz.pinned.checked.prog Rows.bagKnownRow.wrapper Rows.bagKnownRow.mainSum := by unfold Func.isWrapper; rw [if_neg (of_decide_eq_false (by kernel_rfl))]; exact ⟨rfl, rfl⟩
theorem bagKnown_named : Tryz.pinned.checked.prog.funcNamed Rows.bagKnownRow.func = some 15 := by kernel_rfl
theorem bagKnown_holds : Rows.BagKnownSaid :=
  OpenClaim.holds_of_wide 15 Tryz.f15 rfl rfl rfl rfl rfl rfl rfl ⟨rfl, rfl, rfl, rfl, rfl⟩ rfl rfl rfl rfl rfl bagKnown_named Tryz.func15 bagKnown_closed bagKnown_inst bagKnown_wrap
    (fun os started H enc _ => bagKnown_lifted os started H enc)
end Go.Proofs.YtimlgclejaoboaaGreatDoor
#print axioms Go.Proofs.YtimlgclejaoboaaGreatDoor.bagKnown_holds
