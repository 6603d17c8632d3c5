/- The seat: DateKnown, the row. -/
import Derived.Test.YtiekgkjdhjdcoaaGreatDoorSeatX18
namespace Go.Proofs.YtiekgkjdhjdcoaaGreatDoor
open Go Go.ChangeShapes Go.WideShapes Go.RowKit
set_option maxRecDepth 100000
set_option maxHeartbeats 0 in
theorem dateKnown_closed : joinedFacts Tryz.pinned.checked.prog 18 Tryz.f18 Rows.dateKnownSpec Rows.dateKnownRow = true := by
  unfold joinedFacts
  repeat' (with_reducible (apply band))
  all_goals as_aux_lemma => kernel_rfl
theorem dateKnown_inst : Tryz.f18.isInstance Tryz.pinned.checked.prog Rows.dateKnownRow.origin Rows.dateKnownRow.targs := of_decide_eq_true (by kernel_rfl)
theorem dateKnown_wrap : Tryz.f18.isWrapper Tryz.pinned.checked.prog Rows.dateKnownRow.wrapper Rows.dateKnownRow.mainSum := by unfold Func.isWrapper; rw [if_neg (of_decide_eq_false (by kernel_rfl))]; exact ⟨rfl, rfl⟩
theorem dateKnown_named : Tryz.pinned.checked.prog.funcNamed Rows.dateKnownRow.func = some 18 := by kernel_rfl
theorem dateKnown_holds : Rows.DateKnownSaid :=
  OpenClaim.holds_of_wide 18 Tryz.f18 rfl rfl rfl rfl rfl rfl rfl ⟨rfl, rfl, rfl, rfl, rfl⟩ rfl rfl rfl rfl rfl dateKnown_named Tryz.func18 dateKnown_closed dateKnown_inst dateKnown_wrap
    (fun os started H enc _ => dateKnown_lifted os started H enc)
end Go.Proofs.YtiekgkjdhjdcoaaGreatDoor
#print axioms Go.Proofs.YtiekgkjdhjdcoaaGreatDoor.dateKnown_holds
