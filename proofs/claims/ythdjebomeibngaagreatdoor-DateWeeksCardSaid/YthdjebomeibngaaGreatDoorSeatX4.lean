/- The seat: DateWeeks: its row and its card: for every input the law returns true. -/
import Derived.Test.YthdjebomeibngaaGreatDoorSeatN
import Derived.Test.YthdjebomeibngaaGreatDoorSeatVw
import Derived.Carry
namespace Go.Proofs.YthdjebomeibngaaGreatDoor
open Go Go.ChangeShapes Go.WideShapes Go.RowKit Go.Ev
set_option maxRecDepth 100000
theorem dateWeeks_cells33 : Tryz.prog.cellsOf 33 = 3 := by kernel_rfl
theorem dateWeeks_met (os : Os) (args : Array Value) : laidMet Tryz.prog Rows.dateWeeksRow.laid ((laidWorld os).forCall (fun _ _ => 0) ⟨#[], args, []⟩).memory :=
  laidWorld_met os args
theorem dateWeeks_lifted (os : Os) (started : os.Started) (H : Type) (enc : TypeId × Value → H) :
    ReturnsInHanded {} Tryz.checked os 4 .any (fun w args => (Rows.dateWeeksSpec.pre enc Tryz.prog Tryz.f4 [] false w args ∧ laidMet Tryz.prog Rows.dateWeeksRow.laid w) ∧ sizedMet enc Tryz.prog Tryz.f4 (OpenSpec.ofChange Rows.dateWeeksSpec) false w args)
      (Rows.dateWeeksSpec.post enc Tryz.prog Tryz.f4 false Rows.dateWeeksRow.fresh Rows.dateWeeksRow.handsOn Rows.dateWeeksRow.again) := by
  refine returnsInHanded_of_change_and (C := Tryz.checked) (X := fun w _ => laidMet Tryz.prog Rows.dateWeeksRow.laid w) (fun _ _ _ hh h => h.of_heap hh) Tryz.own started (by kernel_rfl) Tryz.func4
    (ChangeSpec.witness_at (enc := enc) (C := Tryz.checked) (os := os) (X := fun w _ => laidMet Tryz.prog Rows.dateWeeksRow.laid w) false (laidWorld os) #[.int .i64 0, .agg #[.int .i64 0, .int .i64 0, .int .i64 0]] 8 rfl (by kernel_rfl) (by kernel_rfl) (by kernel_rfl) (by kernel_rfl) (by kernel_rfl) (dateWeeks_met os _)) ?_
  intro W base args ds gs before hval0 hW _ _ hL _
  have hval : ∀ (j : Nat) t v, Tryz.f4.params[j]? = some t → args[j]? = some v → Value.okWide Tryz.prog W .any base t v := hval0
  have hW' := hW
  obtain ⟨p, q, hA0, hV, rfl, hfz, hnd⟩ := hW
  have hA : DataW.TrodAll enc Tryz.prog W 0 (fun _ => true) true Tryz.f4.params.toList args.toList ds p := hA0
  rw [Tryz.params4] at hA hval
  obtain ⟨v0, v1, d0, d1, p0, p1, rfl, rfl, rfl, h0, h1⟩ := trodAll_two hA
  obtain ⟨rfl, rfl⟩ := trodVars_none hV
  obtain ⟨a0, rfl, rfl, rfl, wn0⟩ := open_int Tryz.underlying3 (hval 0 3 v0 rfl rfl) h0
  obtain ⟨u10, u11, u12, y10, y11, y12, k1, rfl, rfl, rfl, t10, t11, t12⟩ := Go.Joins.open_agg3 Tryz.underlying33 (by kernel_rfl) dateWeeks_cells33 (hval 1 33 v1 rfl rfl) h1
  obtain ⟨a10, q10, rfl, w10⟩ := DataW.trod_int Tryz.underlying3 t10
  cases q10
  obtain ⟨a11, q11, rfl, w11⟩ := DataW.trod_int Tryz.underlying3 t11
  cases q11
  obtain ⟨a12, q12, rfl, w12⟩ := DataW.trod_int Tryz.underlying3 t12
  cases q12
  simp only [List.append_nil] at hW'
  have ht := tabs_of_laid hL
  have tri : ∀ (W' : World) (sp : Nat → Bool) (hd : Bool) (z : Int), (Lit.int .i64 z).wf = true → ∃ m, DataW.trod enc Tryz.prog W' 0 sp hd m 3 [.int .i64 z] = some (.lit (.int .i64 z), []) := fun W' sp hd z hz => ⟨1, by simp [DataW.trod, Tryz.underlying3, hz]⟩
  refine (law_weeks a0 a10 a11 a12 W (ahead_of_tabs ht) (Lib.hid ht) (four_of_tabs ht)).mono fun e W' ⟨he, hbw⟩ => ?_
  subst he
  exact ⟨_, rfl, post_of_below (pa := []) (pv := []) hW' (fun _ _ _ => trodAll_mk1 (shut_bool Tryz.underlying4 true)) (fun sp _ => trodAll_mk2 (shut_int Tryz.underlying3 wn0) (Go.Joins.shut_agg3 Tryz.underlying33 (by kernel_rfl) dateWeeks_cells33 (tri W' sp true a10 (by assumption)) (tri W' sp true a11 (by assumption)) (tri W' sp true a12 (by assumption)))) (fun _ _ => rfl) rfl hbw
    (ok_one (by kernel_rfl) rfl (okWide_bool_mk Tryz.underlying4 true))⟩
end Go.Proofs.YthdjebomeibngaaGreatDoor
