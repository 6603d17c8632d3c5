/- The seat: DateKnown, the card: the law returns true, over the program's own tables. -/
import Derived.Test.YtiekgkjdhjdcoaaGreatDoorSeatX18o
namespace Go.Proofs.YtiekgkjdhjdcoaaGreatDoor
open Go Go.ChangeShapes Go.WideShapes Go.RowKit
set_option maxRecDepth 100000
set_option maxHeartbeats 0
theorem dateKnown_card : Rows.DateKnownCardSaid :=
  Claim7.holds_tied_plain_at .later [] [.data, .data, .data, .data, .data, .data, .pinned] true (true, "508c4aa762a3e00f7e370147798f564ff6e35bc0cebca693cc499fc7fc05f8f7") false
    dateKnown_holds (fun _ h => by cases h) (by as_aux_lemma => kernel_rfl) (fun _ h => by cases h) dateKnown_row_tie rfl ⟨rfl, rfl⟩ (by as_aux_lemma => kernel_rfl) rfl
    (fun f fn hf hfn => by
      obtain rfl : f = 18 := Option.some.inj ((show Tryz.prog.funcNamed "afterword/afterwordlaw01.DateKnown" = some 18 by kernel_rfl).symm.trans hf) |>.symm
      obtain rfl : fn = Tryz.f18 := (Option.some.inj (Tryz.func18.symm.trans hfn)).symm
      exact ⟨by as_aux_lemma => kernel_rfl, fun j t ht => by
        rw [Tryz.params18] at ht
        simp at ht⟩)
    (by as_aux_lemma => kernel_rfl)
end Go.Proofs.YtiekgkjdhjdcoaaGreatDoor
#print axioms Go.Proofs.YtiekgkjdhjdcoaaGreatDoor.dateKnown_card
