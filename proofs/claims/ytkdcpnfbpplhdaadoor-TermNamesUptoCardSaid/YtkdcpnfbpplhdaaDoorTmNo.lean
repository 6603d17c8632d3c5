/- Stage 2's seat: TermNames, the second form: the row. -/
import Derived.Test.YtkdcpnfbpplhdaaDoorTmN
namespace Go.Proofs.YtkdcpnfbpplhdaaDoor
open Go Go.ChangeShapes Go.WideShapes Go.RowKit
set_option maxRecDepth 100000
set_option maxHeartbeats 0 in
theorem names_closed : joinedFacts Tryd.pinned.checked.prog 3 Tryd.f3 (Rows.OpenSpec.upto Rows.termNamesSpec).bare Rows.termNamesUptoRow = true := by
  unfold joinedFacts
  repeat' (with_reducible (apply band))
  all_goals as_aux_lemma => kernel_rfl
theorem names_inst : Tryd.f3.isInstance Tryd.pinned.checked.prog Rows.termNamesUptoRow.origin Rows.termNamesUptoRow.targs := of_decide_eq_true (by kernel_rfl)
theorem names_wrap : Tryd.f3.isWrapper Tryd.pinned.checked.prog Rows.termNamesUptoRow.wrapper Rows.termNamesUptoRow.mainSum := by unfold Func.isWrapper; rw [if_neg (of_decide_eq_false (by kernel_rfl))]; exact ⟨rfl, rfl⟩
theorem names_named : Tryd.pinned.checked.prog.funcNamed Rows.termNamesUptoRow.func = some 3 := by kernel_rfl
theorem names_said : Rows.TermNamesUptoSaid :=
  OpenClaim.holds_of_cond 3 Tryd.f3 rfl rfl rfl rfl rfl rfl rfl ⟨rfl, rfl, rfl, rfl, rfl⟩ rfl rfl rfl rfl rfl names_named Tryd.func3 names_closed names_inst names_wrap
    (fun os started H enc _ F => by rw [OpenClaim.pre_eq_preRow]; exact names_lifted os started H enc F)
end Go.Proofs.YtkdcpnfbpplhdaaDoor
#print axioms Go.Proofs.YtkdcpnfbpplhdaaDoor.names_said
