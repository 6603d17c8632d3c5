/- TermNames, the card of the second form: for every string and every list of strings of bulk at most 1048576 together the law returns true and leaves what it was given as it is; over the table of words as the program lays it. -/
import Derived.Test.YtkdcpnfbpplhdaaDoorTmNo
namespace Go.Proofs.YtkdcpnfbpplhdaaDoor
open Go Go.ChangeShapes Go.WideShapes Go.RowKit
set_option maxRecDepth 100000
set_option maxHeartbeats 0
theorem names_card : Rows.TermNamesUptoCardSaid :=
  Claim7.holds_tied_plain_at .later [] [.data] true (true, "ba1fe1470d5e90f3c7b7e1c44339b07788fbac2fb159b0139acbd8a9d1dae593") false
    names_said (fun _ h => by cases h) (by as_aux_lemma => kernel_rfl) (fun _ h => by cases h) termNamesUpto_row_tie rfl ⟨rfl, rfl⟩ (by as_aux_lemma => kernel_rfl) rfl
    (fun f fn hf hfn => by
      obtain rfl : f = 3 := Option.some.inj ((show Tryd.prog.funcNamed "afterword/afterwordlaw02.TermNames" = some 3 by kernel_rfl).symm.trans hf) |>.symm
      obtain rfl : fn = Tryd.f3 := (Option.some.inj (Tryd.func3.symm.trans hfn)).symm
      exact ⟨by as_aux_lemma => kernel_rfl, fun j t ht => by
        rw [Tryd.params3] at ht
        have h3 : t = 9 ∨ t = 22 := by
          rcases j with _ | _ | j
          · exact .inl (by simpa using ht.symm)
          · exact .inr (by simpa using ht.symm)
          · simp at ht
        rcases h3 with rfl | rfl
        · exact (show Tryd.prog.wantsStandIn 9 = false by kernel_rfl)
        · exact (show Tryd.prog.wantsStandIn 22 = false by kernel_rfl)⟩)
    (by as_aux_lemma => kernel_rfl)
end Go.Proofs.YtkdcpnfbpplhdaaDoor
#print axioms Go.Proofs.YtkdcpnfbpplhdaaDoor.names_card
