/- The seat: DateAlgebra: its row and its card: for every input the law returns true. -/
import Derived.Test.YtfhljcpicdabmaaGreatDoorSeatN
import Derived.Test.YtfhljcpicdabmaaGreatDoorSeatSetD
import Derived.Carry
namespace Go.Proofs.YtfhljcpicdabmaaGreatDoor
open Go Go.ChangeShapes Go.WideShapes Go.RowKit Go.Ev
set_option maxRecDepth 100000
theorem dateAlgebra_met (os : Os) (args : Array Value) : laidMet Tryz.prog Rows.dateAlgebraRow.laid ((laidWorld os).forCall (fun _ _ => 0) ⟨#[], args, []⟩).memory :=
  laidWorld_met os args
theorem dateAlgebra_lifted (os : Os) (started : os.Started) (H : Type) (enc : TypeId × Value → H) :
    ReturnsInHanded {} Tryz.checked os 13 .any (fun w args => (Rows.dateAlgebraSpec.pre enc Tryz.prog Tryz.f13 [] false w args ∧ laidMet Tryz.prog Rows.dateAlgebraRow.laid w) ∧ sizedMet enc Tryz.prog Tryz.f13 (OpenSpec.ofChange Rows.dateAlgebraSpec) false w args)
      (Rows.dateAlgebraSpec.post enc Tryz.prog Tryz.f13 false Rows.dateAlgebraRow.fresh Rows.dateAlgebraRow.handsOn Rows.dateAlgebraRow.again) := by
  refine returnsInHanded_of_change_and (C := Tryz.checked) (X := fun w _ => laidMet Tryz.prog Rows.dateAlgebraRow.laid w) (fun _ _ _ hh h => h.of_heap hh) Tryz.own started (by kernel_rfl) Tryz.func13
    (ChangeSpec.witness_at (enc := enc) (C := Tryz.checked) (os := os) (X := fun w _ => laidMet Tryz.prog Rows.dateAlgebraRow.laid w) false (laidWorld os) #[.slice none 0 0, .slice none 0 0, .int .i64 0] 8 rfl (by kernel_rfl) (by kernel_rfl) (by kernel_rfl) (by kernel_rfl) (by kernel_rfl) (dateAlgebra_met os _)) ?_
  intro W base args ds gs before hval0 hW _ hwt hL _
  have hval : ∀ (j : Nat) t v, Tryz.f13.params[j]? = some t → args[j]? = some v → Value.okWide Tryz.prog W .any base t v := hval0
  have hW' := hW
  obtain ⟨p, q, hA0, hV, rfl, hfz, hnd⟩ := hW
  have hA : DataW.TrodAll enc Tryz.prog W 0 (fun _ => true) true Tryz.f13.params.toList args.toList ds p := hA0
  rw [Tryz.params13] at hA hval
  obtain ⟨v0, v1, v2, d0, d1, d2, p0, p1, p2, rfl, rfl, rfl, h0, h1, h2⟩ := trodAll_three hA
  obtain ⟨rfl, rfl⟩ := trodVars_none hV
  obtain ⟨a0, ha0, hI0⟩ := spans_open (hval 0 42 v0 rfl rfl) h0
  obtain ⟨a1, ha1, hI1⟩ := spans_open (hval 1 42 v1 rfl rfl) h1
  obtain ⟨a2, rfl, rfl, rfl, wn2⟩ := open_int Tryz.underlying3 (hval 2 3 v2 rfl rfl) h2
  simp only [List.append_nil] at hW'
  have ht := tabs_of_laid hL
  have tri : ∀ (W' : World) (sp : Nat → Bool) (hd : Bool) (z : Int), (Lit.int .i64 z).wf = true → ∃ m, DataW.trod enc Tryz.prog W' 0 sp hd m 3 [.int .i64 z] = some (.lit (.int .i64 z), []) := fun W' sp hd z hz => ⟨1, by simp [DataW.trod, Tryz.underlying3, hz]⟩
  refine (law_algebra v0 v1 a0 a1 a2 W ha0 ha1 (spans_reach (j := 0) h0 ha0 hwt (by kernel_rfl) rfl) (spans_reach (j := 1) h1 ha1 hwt (by kernel_rfl) rfl) (Lib.hid ht) (four_of_tabs ht)).mono fun e W' ⟨he, hbw⟩ => ?_
  subst he
  exact ⟨_, rfl, post_of_below (pa := _) (pv := []) hW' (fun _ _ _ => trodAll_mk1 (shut_bool Tryz.underlying4 true)) (fun sp hsp => trodAll_mk3 (stays (by kernel_rfl) (of_decide_eq_true (by kernel_rfl)) h0 hbw (fun x hx => hW'.lt x (by simp [hx])) (fun x hx => hsp x (by simp [hx]))) (stays (by kernel_rfl) (of_decide_eq_true (by kernel_rfl)) h1 hbw (fun x hx => hW'.lt x (by simp [hx])) (fun x hx => hsp x (by simp [hx]))) (shut_int Tryz.underlying3 wn2)) (fun _ _ => rfl) (by simp) hbw
    (ok_one (by kernel_rfl) rfl (okWide_bool_mk Tryz.underlying4 true))⟩
end Go.Proofs.YtfhljcpicdabmaaGreatDoor
