/- The seat: DateAlgebra, the row. -/
import Derived.Test.YtfhljcpicdabmaaGreatDoorSeatX13
namespace Go.Proofs.YtfhljcpicdabmaaGreatDoor
open Go Go.ChangeShapes Go.WideShapes Go.RowKit
set_option maxRecDepth 100000
set_option maxHeartbeats 0 in
theorem dateAlgebra_closed : joinedFacts Tryz.pinned.checked.prog 13 Tryz.f13 Rows.dateAlgebraSpec Rows.dateAlgebraRow = true := by
  unfold joinedFacts
  repeat' (with_reducible (apply band))
  all_goals as_aux_lemma => kernel_rfl
theorem dateAlgebra_inst : Tryz.f13.isInstance Tryz.pinned.checked.prog Rows.dateAlgebraRow.origin Rows.dateAlgebraRow.targs := of_decide_eq_true (by kernel_rfl)
theorem dateAlgebra_wrap : Tryz.f13.isWrapper Tryz.pinned.checked.prog Rows.dateAlgebraRow.wrapper Rows.dateAlgebraRow.mainSum := by unfold Func.isWrapper; rw [if_neg (of_decide_eq_false (by kernel_rfl))]; exact ⟨rfl, rfl⟩
theorem dateAlgebra_named : Tryz.pinned.checked.prog.funcNamed Rows.dateAlgebraRow.func = some 13 := by kernel_rfl
theorem dateAlgebra_holds : Rows.DateAlgebraSaid :=
  OpenClaim.holds_of_wide 13 Tryz.f13 rfl rfl rfl rfl rfl rfl rfl ⟨rfl, rfl, rfl, rfl, rfl⟩ rfl rfl rfl rfl rfl dateAlgebra_named Tryz.func13 dateAlgebra_closed dateAlgebra_inst dateAlgebra_wrap
    (fun os started H enc _ => dateAlgebra_lifted os started H enc)
end Go.Proofs.YtfhljcpicdabmaaGreatDoor
#print axioms Go.Proofs.YtfhljcpicdabmaaGreatDoor.dateAlgebra_holds
