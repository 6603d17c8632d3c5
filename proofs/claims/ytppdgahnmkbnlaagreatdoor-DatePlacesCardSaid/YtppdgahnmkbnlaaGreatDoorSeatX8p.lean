/- The seat: DatePlaces, the card: for every input the law returns true, over the program's own tables. -/
import Derived.Test.YtppdgahnmkbnlaaGreatDoorSeatX8o
namespace Go.Proofs.YtppdgahnmkbnlaaGreatDoor
open Go Go.ChangeShapes Go.WideShapes Go.RowKit
set_option maxRecDepth 100000
set_option maxHeartbeats 0
theorem datePlaces_card : Rows.DatePlacesCardSaid :=
  Claim7.holds_tied_plain_at .later [] [.data, .data, .data, .data, .data] true (true, "508c4aa762a3e00f7e370147798f564ff6e35bc0cebca693cc499fc7fc05f8f7") false
    datePlaces_holds (fun _ h => by cases h) (by as_aux_lemma => kernel_rfl) (fun _ h => by cases h) datePlaces_row_tie rfl ⟨rfl, rfl⟩ (by as_aux_lemma => kernel_rfl) rfl
    (fun f fn hf hfn => by
      obtain rfl : f = 8 := Option.some.inj ((show Tryz.prog.funcNamed "afterword/afterwordlaw01.DatePlaces" = some 8 by kernel_rfl).symm.trans hf) |>.symm
      obtain rfl : fn = Tryz.f8 := (Option.some.inj (Tryz.func8.symm.trans hfn)).symm
      exact ⟨by as_aux_lemma => kernel_rfl, fun j t ht => by
        rw [Tryz.params8] at ht
        have h3 : t = 57 := by
          rcases j with _ | j
          · exact (by simpa using ht.symm)
          · simp at ht
        rcases h3 with rfl
        · exact (show Tryz.prog.wantsStandIn 57 = false by kernel_rfl)⟩)
    (by as_aux_lemma => kernel_rfl)
end Go.Proofs.YtppdgahnmkbnlaaGreatDoor
#print axioms Go.Proofs.YtppdgahnmkbnlaaGreatDoor.datePlaces_card
