/- The seat: DatePlaces, the row. -/
import Derived.Test.YtppdgahnmkbnlaaGreatDoorSeatX8
namespace Go.Proofs.YtppdgahnmkbnlaaGreatDoor
open Go Go.ChangeShapes Go.WideShapes Go.RowKit
set_option maxRecDepth 100000
set_option maxHeartbeats 0 in
theorem datePlaces_closed : joinedFacts Tryz.pinned.checked.prog 8 Tryz.f8 Rows.datePlacesSpec Rows.datePlacesRow = true := by
  unfold joinedFacts
  repeat' (with_reducible (apply band))
  all_goals as_aux_lemma => kernel_rfl
theorem datePlaces_inst : Tryz.f8.isInstance Tryz.pinned.checked.prog Rows.datePlacesRow.origin Rows.datePlacesRow.targs := of_decide_eq_true (by kernel_rfl)
theorem datePlaces_wrap : Tryz.f8.isWrapper Tryz.pinned.checked.prog Rows.datePlacesRow.wrapper Rows.datePlacesRow.mainSum := by unfold Func.isWrapper; rw [if_neg (of_decide_eq_false (by kernel_rfl))]; exact ⟨rfl, rfl⟩
theorem datePlaces_named : Tryz.pinned.checked.prog.funcNamed Rows.datePlacesRow.func = some 8 := by kernel_rfl
theorem datePlaces_holds : Rows.DatePlacesSaid :=
  OpenClaim.holds_of_wide 8 Tryz.f8 rfl rfl rfl rfl rfl rfl rfl ⟨rfl, rfl, rfl, rfl, rfl⟩ rfl rfl rfl rfl rfl datePlaces_named Tryz.func8 datePlaces_closed datePlaces_inst datePlaces_wrap
    (fun os started H enc _ => datePlaces_lifted os started H enc)
end Go.Proofs.YtppdgahnmkbnlaaGreatDoor
#print axioms Go.Proofs.YtppdgahnmkbnlaaGreatDoor.datePlaces_holds
