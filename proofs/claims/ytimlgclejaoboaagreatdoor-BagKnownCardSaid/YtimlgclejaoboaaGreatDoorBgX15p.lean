/- Stage 4's seat: BagKnown, the card: the law returns true, over the program's own tables. -/
import Derived.Test.YtimlgclejaoboaaGreatDoorBgX15o
namespace Go.Proofs.YtimlgclejaoboaaGreatDoor
open Go Go.ChangeShapes Go.WideShapes Go.RowKit
set_option maxRecDepth 100000
set_option maxHeartbeats 0
theorem bagKnown_card : Rows.BagKnownCardSaid :=
  Claim7.holds_tied_plain_at .later [] [.data, .data, .data, .data, .sentinel, .sentinel, .pinned] true (true, "9fd1ae18b8f01e420c794fcd5b97979b9519b515858d6d4d22124194bfec43ea") true
    bagKnown_holds (fun _ h => by cases h) (by as_aux_lemma => kernel_rfl) (fun _ h => by cases h) bagKnown_row_tie rfl ⟨rfl, rfl⟩ (by as_aux_lemma => kernel_rfl) rfl
    (fun f fn hf hfn => by
      obtain rfl : f = 15 := Option.some.inj ((show Tryz.prog.funcNamed "afterword/afterwordlaw04.BagKnown" = some 15 by kernel_rfl).symm.trans hf) |>.symm
      obtain rfl : fn = Tryz.f15 := (Option.some.inj (Tryz.func15.symm.trans hfn)).symm
      exact ⟨by as_aux_lemma => kernel_rfl, fun j t ht => by
        rw [Tryz.params15] at ht
        simp at ht⟩)
    (by as_aux_lemma => kernel_rfl)
end Go.Proofs.YtimlgclejaoboaaGreatDoor
#print axioms Go.Proofs.YtimlgclejaoboaaGreatDoor.bagKnown_card
