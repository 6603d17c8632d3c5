/- The seat: DateFollows: its row and its card: for every input the law returns true. -/
import Derived.Test.YthdjebomeibngaaGreatDoorSeatN
import Derived.Test.YthdjebomeibngaaGreatDoorSeatFe
import Derived.Carry
namespace Go.Proofs.YthdjebomeibngaaGreatDoor
open Go Go.ChangeShapes Go.WideShapes Go.RowKit Go.Ev
set_option maxRecDepth 100000
theorem dateFollows_met (os : Os) (args : Array Value) : laidMet Tryz.prog Rows.dateFollowsRow.laid ((laidWorld os).forCall (fun _ _ => 0) ⟨#[], args, []⟩).memory :=
  laidWorld_met os args
theorem dateFollows_lifted (os : Os) (started : os.Started) (H : Type) (enc : TypeId × Value → H) :
    ReturnsInHanded {} Tryz.checked os 11 .any (fun w args => (Rows.dateFollowsSpec.pre enc Tryz.prog Tryz.f11 [] false w args ∧ laidMet Tryz.prog Rows.dateFollowsRow.laid w) ∧ sizedMet enc Tryz.prog Tryz.f11 (OpenSpec.ofChange Rows.dateFollowsSpec) false w args)
      (Rows.dateFollowsSpec.post enc Tryz.prog Tryz.f11 false Rows.dateFollowsRow.fresh Rows.dateFollowsRow.handsOn Rows.dateFollowsRow.again) := by
  refine returnsInHanded_of_change_and (C := Tryz.checked) (X := fun w _ => laidMet Tryz.prog Rows.dateFollowsRow.laid w) (fun _ _ _ hh h => h.of_heap hh) Tryz.own started (by kernel_rfl) Tryz.func11
    (ChangeSpec.witness_at (enc := enc) (C := Tryz.checked) (os := os) (X := fun w _ => laidMet Tryz.prog Rows.dateFollowsRow.laid w) false (laidWorld os) #[.int .i64 0] 8 rfl (by kernel_rfl) (by kernel_rfl) (by kernel_rfl) (by kernel_rfl) (by kernel_rfl) (dateFollows_met os _)) ?_
  intro W base args ds gs before hval0 hW _ _ hL _
  have hval : ∀ (j : Nat) t v, Tryz.f11.params[j]? = some t → args[j]? = some v → Value.okWide Tryz.prog W .any base t v := hval0
  have hW' := hW
  obtain ⟨p, q, hA0, hV, rfl, hfz, hnd⟩ := hW
  have hA : DataW.TrodAll enc Tryz.prog W 0 (fun _ => true) true Tryz.f11.params.toList args.toList ds p := hA0
  rw [Tryz.params11] at hA hval
  obtain ⟨v0, d0, rfl, rfl, h0⟩ := trodAll_one hA
  obtain ⟨rfl, rfl⟩ := trodVars_none hV
  obtain ⟨a0, rfl, rfl, rfl, wn0⟩ := open_int Tryz.underlying3 (hval 0 3 v0 rfl rfl) h0
  simp only [List.append_nil] at hW'
  have ht := tabs_of_laid hL
  have tri : ∀ (W' : World) (sp : Nat → Bool) (hd : Bool) (z : Int), (Lit.int .i64 z).wf = true → ∃ m, DataW.trod enc Tryz.prog W' 0 sp hd m 3 [.int .i64 z] = some (.lit (.int .i64 z), []) := fun W' sp hd z hz => ⟨1, by simp [DataW.trod, Tryz.underlying3, hz]⟩
  refine (law_follows a0 W (ahead_of_tabs ht) (Lib.hid ht) (four_of_tabs ht)).mono fun e W' ⟨he, hbw⟩ => ?_
  subst he
  exact ⟨_, rfl, post_of_below (pa := []) (pv := []) hW' (fun _ _ _ => trodAll_mk1 (shut_bool Tryz.underlying4 true)) (fun sp _ => trodAll_mk1 (shut_int Tryz.underlying3 wn0)) (fun _ _ => rfl) rfl hbw
    (ok_one (by kernel_rfl) rfl (okWide_bool_mk Tryz.underlying4 true))⟩
end Go.Proofs.YthdjebomeibngaaGreatDoor
