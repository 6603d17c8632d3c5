/- The seat: DatePlaces: its row and its card: for every input the law returns true. -/
import Derived.Test.YtppdgahnmkbnlaaGreatDoorSeatN
import Derived.Test.YtppdgahnmkbnlaaGreatDoorSeatPi
import Derived.Carry
namespace Go.Proofs.YtppdgahnmkbnlaaGreatDoor
open Go Go.ChangeShapes Go.WideShapes Go.RowKit Go.Ev
set_option maxRecDepth 100000
theorem datePlaces_met (os : Os) (args : Array Value) : laidMet Tryz.prog Rows.datePlacesRow.laid ((laidWorld os).forCall (fun _ _ => 0) ⟨#[], args, []⟩).memory :=
  laidWorld_met os args
theorem datePlaces_lifted (os : Os) (started : os.Started) (H : Type) (enc : TypeId × Value → H) :
    ReturnsInHanded {} Tryz.checked os 8 .any (fun w args => (Rows.datePlacesSpec.pre enc Tryz.prog Tryz.f8 [] false w args ∧ laidMet Tryz.prog Rows.datePlacesRow.laid w) ∧ sizedMet enc Tryz.prog Tryz.f8 (OpenSpec.ofChange Rows.datePlacesSpec) false w args)
      (Rows.datePlacesSpec.post enc Tryz.prog Tryz.f8 false Rows.datePlacesRow.fresh Rows.datePlacesRow.handsOn Rows.datePlacesRow.again) := by
  refine returnsInHanded_of_change_and (C := Tryz.checked) (X := fun w _ => laidMet Tryz.prog Rows.datePlacesRow.laid w) (fun _ _ _ hh h => h.of_heap hh) Tryz.own started (by kernel_rfl) Tryz.func8
    (ChangeSpec.witness_at (enc := enc) (C := Tryz.checked) (os := os) (X := fun w _ => laidMet Tryz.prog Rows.datePlacesRow.laid w) false (laidWorld os) #[.slice none 0 0] 8 rfl (by kernel_rfl) (by kernel_rfl) (by kernel_rfl) (by kernel_rfl) (by kernel_rfl) (datePlaces_met os _)) ?_
  intro W base args ds gs before hval0 hW _ _ hL _
  have hval : ∀ (j : Nat) t v, Tryz.f8.params[j]? = some t → args[j]? = some v → Value.okWide Tryz.prog W .any base t v := hval0
  have hW' := hW
  obtain ⟨p, q, hA0, hV, rfl, hfz, hnd⟩ := hW
  have hA : DataW.TrodAll enc Tryz.prog W 0 (fun _ => true) true Tryz.f8.params.toList args.toList ds p := hA0
  rw [Tryz.params8] at hA hval
  obtain ⟨v0, d0, rfl, rfl, h0⟩ := trodAll_one hA
  obtain ⟨rfl, rfl⟩ := trodVars_none hV
  obtain ⟨a0, ha0, hI0⟩ := net_open (hval 0 57 v0 rfl rfl) h0
  simp only [List.append_nil] at hW'
  have ht := tabs_of_laid hL
  refine (law_places v0 a0 W ha0 (Lib.hid hI0) (Lib.hid ht) (four_of_tabs ht)).mono fun e W' ⟨he, hbw⟩ => ?_
  subst he
  exact ⟨_, rfl, post_of_below (pa := p) (pv := []) hW' (fun _ _ _ => trodAll_mk1 (shut_bool Tryz.underlying4 true)) (fun sp hsp => trodAll_mk1 (stays (by kernel_rfl) (of_decide_eq_true (by kernel_rfl)) h0 hbw (fun x hx => hW'.lt x hx) (fun x hx => hsp x hx))) (fun _ _ => rfl) (by simp) hbw
    (ok_one (by kernel_rfl) rfl (okWide_bool_mk Tryz.underlying4 true))⟩
end Go.Proofs.YtppdgahnmkbnlaaGreatDoor
