/- The seat: DateTurned: its row and its card: for every input the law returns true. -/
import Derived.Test.YtppdgahnmkbnlaaGreatDoorSeatN
import Derived.Test.YtppdgahnmkbnlaaGreatDoorSeatLh
import Derived.Test.YtppdgahnmkbnlaaGreatDoorSeatT5
import Derived.Carry
namespace Go.Proofs.YtppdgahnmkbnlaaGreatDoor
open Go Go.ChangeShapes Go.WideShapes Go.RowKit Go.Ev
set_option maxRecDepth 100000
theorem dateTurned_cells48 : Tryz.prog.cellsOf 48 = 2 := by kernel_rfl
theorem dateTurned_met (os : Os) (args : Array Value) : laidMet Tryz.prog Rows.dateTurnedRow.laid ((laidWorld os).forCall (fun _ _ => 0) ⟨#[], args, []⟩).memory :=
  laidWorld_met os args
theorem dateTurned_lifted (os : Os) (started : os.Started) (H : Type) (enc : TypeId × Value → H) :
    ReturnsInHanded {} Tryz.checked os 14 .any (fun w args => (Rows.dateTurnedSpec.pre enc Tryz.prog Tryz.f14 [] false w args ∧ laidMet Tryz.prog Rows.dateTurnedRow.laid w) ∧ sizedMet enc Tryz.prog Tryz.f14 (OpenSpec.ofChange Rows.dateTurnedSpec) false w args)
      (Rows.dateTurnedSpec.post enc Tryz.prog Tryz.f14 false Rows.dateTurnedRow.fresh Rows.dateTurnedRow.handsOn Rows.dateTurnedRow.again) := by
  refine returnsInHanded_of_change_and (C := Tryz.checked) (X := fun w _ => laidMet Tryz.prog Rows.dateTurnedRow.laid w) (fun _ _ _ hh h => h.of_heap hh) Tryz.own started (by kernel_rfl) Tryz.func14
    (ChangeSpec.witness_at (enc := enc) (C := Tryz.checked) (os := os) (X := fun w _ => laidMet Tryz.prog Rows.dateTurnedRow.laid w) false (laidWorld os) #[.agg #[.int .i64 0, .int .i64 0], .agg #[.int .i64 0, .int .i64 0], .agg #[.int .i64 0, .int .i64 0], .int .u8 0, .int .u8 0] 8 rfl (by kernel_rfl) (by kernel_rfl) (by kernel_rfl) (by kernel_rfl) (by kernel_rfl) (dateTurned_met os _)) ?_
  intro W base args ds gs before hval0 hW _ _ hL _
  have hval : ∀ (j : Nat) t v, Tryz.f14.params[j]? = some t → args[j]? = some v → Value.okWide Tryz.prog W .any base t v := hval0
  have hW' := hW
  obtain ⟨p, q, hA0, hV, rfl, hfz, hnd⟩ := hW
  have hA : DataW.TrodAll enc Tryz.prog W 0 (fun _ => true) true Tryz.f14.params.toList args.toList ds p := hA0
  rw [Tryz.params14] at hA hval
  obtain ⟨v0, v1, v2, v3, v4, d0, d1, d2, d3, d4, p0, p1, p2, p3, p4, rfl, rfl, rfl, h0, h1, h2, h3, h4⟩ := trodAll_five hA
  obtain ⟨rfl, rfl⟩ := trodVars_none hV
  obtain ⟨u00, u01, y00, y01, k0, rfl, rfl, rfl, t00, t01⟩ := Go.Joins.open_agg2 Tryz.underlying48 (by kernel_rfl) dateTurned_cells48 (hval 0 48 v0 rfl rfl) h0
  obtain ⟨a00, q00, rfl, w00⟩ := DataW.trod_int Tryz.underlying3 t00
  cases q00
  obtain ⟨a01, q01, rfl, w01⟩ := DataW.trod_int Tryz.underlying3 t01
  cases q01
  obtain ⟨u10, u11, y10, y11, k1, rfl, rfl, rfl, t10, t11⟩ := Go.Joins.open_agg2 Tryz.underlying48 (by kernel_rfl) dateTurned_cells48 (hval 1 48 v1 rfl rfl) h1
  obtain ⟨a10, q10, rfl, w10⟩ := DataW.trod_int Tryz.underlying3 t10
  cases q10
  obtain ⟨a11, q11, rfl, w11⟩ := DataW.trod_int Tryz.underlying3 t11
  cases q11
  obtain ⟨u20, u21, y20, y21, k2, rfl, rfl, rfl, t20, t21⟩ := Go.Joins.open_agg2 Tryz.underlying48 (by kernel_rfl) dateTurned_cells48 (hval 2 48 v2 rfl rfl) h2
  obtain ⟨a20, q20, rfl, w20⟩ := DataW.trod_int Tryz.underlying3 t20
  cases q20
  obtain ⟨a21, q21, rfl, w21⟩ := DataW.trod_int Tryz.underlying3 t21
  cases q21
  obtain ⟨a3, rfl, rfl, rfl, wn3⟩ := open_int Tryz.underlying5 (hval 3 5 v3 rfl rfl) h3
  obtain ⟨a4, rfl, rfl, rfl, wn4⟩ := open_int Tryz.underlying5 (hval 4 5 v4 rfl rfl) h4
  simp only [List.append_nil] at hW'
  have ht := tabs_of_laid hL
  have tri : ∀ (W' : World) (sp : Nat → Bool) (hd : Bool) (z : Int), (Lit.int .i64 z).wf = true → ∃ m, DataW.trod enc Tryz.prog W' 0 sp hd m 3 [.int .i64 z] = some (.lit (.int .i64 z), []) := fun W' sp hd z hz => ⟨1, by simp [DataW.trod, Tryz.underlying3, hz]⟩
  refine (law_turned a00 a01 a10 a11 a20 a21 a3 a4 W (Lib.hid ht) (four_of_tabs ht) (u8_wf wn3).1 (u8_wf wn3).2 (u8_wf wn4).1 (u8_wf wn4).2).mono fun e W' ⟨he, hbw⟩ => ?_
  subst he
  exact ⟨_, rfl, post_of_below (pa := []) (pv := []) hW' (fun _ _ _ => trodAll_mk1 (shut_bool Tryz.underlying4 true)) (fun sp _ => trodAll_mk5 (Go.Joins.shut_agg2 Tryz.underlying48 (by kernel_rfl) dateTurned_cells48 (tri W' sp true a00 (by assumption)) (tri W' sp true a01 (by assumption))) (Go.Joins.shut_agg2 Tryz.underlying48 (by kernel_rfl) dateTurned_cells48 (tri W' sp true a10 (by assumption)) (tri W' sp true a11 (by assumption))) (Go.Joins.shut_agg2 Tryz.underlying48 (by kernel_rfl) dateTurned_cells48 (tri W' sp true a20 (by assumption)) (tri W' sp true a21 (by assumption))) (shut_int Tryz.underlying5 wn3) (shut_int Tryz.underlying5 wn4)) (fun _ _ => rfl) rfl hbw
    (ok_one (by kernel_rfl) rfl (okWide_bool_mk Tryz.underlying4 true))⟩
end Go.Proofs.YtppdgahnmkbnlaaGreatDoor
