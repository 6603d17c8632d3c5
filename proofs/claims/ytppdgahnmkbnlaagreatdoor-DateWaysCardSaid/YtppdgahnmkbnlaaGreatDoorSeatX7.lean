/- The seat: DateWays: its row and its card: for every input the law returns true. -/
import Derived.Test.YtppdgahnmkbnlaaGreatDoorSeatN
import Derived.Test.YtppdgahnmkbnlaaGreatDoorSeatLf
import Derived.Carry
namespace Go.Proofs.YtppdgahnmkbnlaaGreatDoor
open Go Go.ChangeShapes Go.WideShapes Go.RowKit Go.Ev
set_option maxRecDepth 100000
theorem dateWays_cells48 : Tryz.prog.cellsOf 48 = 2 := by kernel_rfl
theorem dateWays_met (os : Os) (args : Array Value) : laidMet Tryz.prog Rows.dateWaysRow.laid ((laidWorld os).forCall (fun _ _ => 0) ⟨#[], args, []⟩).memory :=
  laidWorld_met os args
theorem dateWays_lifted (os : Os) (started : os.Started) (H : Type) (enc : TypeId × Value → H) :
    ReturnsInHanded {} Tryz.checked os 7 .any (fun w args => (Rows.dateWaysSpec.pre enc Tryz.prog Tryz.f7 [] false w args ∧ laidMet Tryz.prog Rows.dateWaysRow.laid w) ∧ sizedMet enc Tryz.prog Tryz.f7 (OpenSpec.ofChange Rows.dateWaysSpec) false w args)
      (Rows.dateWaysSpec.post enc Tryz.prog Tryz.f7 false Rows.dateWaysRow.fresh Rows.dateWaysRow.handsOn Rows.dateWaysRow.again) := by
  refine returnsInHanded_of_change_and (C := Tryz.checked) (X := fun w _ => laidMet Tryz.prog Rows.dateWaysRow.laid w) (fun _ _ _ hh h => h.of_heap hh) Tryz.own started (by kernel_rfl) Tryz.func7
    (ChangeSpec.witness_at (enc := enc) (C := Tryz.checked) (os := os) (X := fun w _ => laidMet Tryz.prog Rows.dateWaysRow.laid w) false (laidWorld os) #[.agg #[.int .i64 0, .int .i64 0], .agg #[.int .i64 0, .int .i64 0], .int .i64 0, .int .i64 0] 8 rfl (by kernel_rfl) (by kernel_rfl) (by kernel_rfl) (by kernel_rfl) (by kernel_rfl) (dateWays_met os _)) ?_
  intro W base args ds gs before hval0 hW _ _ hL _
  have hval : ∀ (j : Nat) t v, Tryz.f7.params[j]? = some t → args[j]? = some v → Value.okWide Tryz.prog W .any base t v := hval0
  have hW' := hW
  obtain ⟨p, q, hA0, hV, rfl, hfz, hnd⟩ := hW
  have hA : DataW.TrodAll enc Tryz.prog W 0 (fun _ => true) true Tryz.f7.params.toList args.toList ds p := hA0
  rw [Tryz.params7] at hA hval
  obtain ⟨v0, v1, v2, v3, d0, d1, d2, d3, p0, p1, p2, p3, rfl, rfl, rfl, h0, h1, h2, h3⟩ := trodAll_four hA
  obtain ⟨rfl, rfl⟩ := trodVars_none hV
  obtain ⟨u00, u01, y00, y01, k0, rfl, rfl, rfl, t00, t01⟩ := Go.Joins.open_agg2 Tryz.underlying48 (by kernel_rfl) dateWays_cells48 (hval 0 48 v0 rfl rfl) h0
  obtain ⟨a00, q00, rfl, w00⟩ := DataW.trod_int Tryz.underlying3 t00
  cases q00
  obtain ⟨a01, q01, rfl, w01⟩ := DataW.trod_int Tryz.underlying3 t01
  cases q01
  obtain ⟨u10, u11, y10, y11, k1, rfl, rfl, rfl, t10, t11⟩ := Go.Joins.open_agg2 Tryz.underlying48 (by kernel_rfl) dateWays_cells48 (hval 1 48 v1 rfl rfl) h1
  obtain ⟨a10, q10, rfl, w10⟩ := DataW.trod_int Tryz.underlying3 t10
  cases q10
  obtain ⟨a11, q11, rfl, w11⟩ := DataW.trod_int Tryz.underlying3 t11
  cases q11
  obtain ⟨a2, rfl, rfl, rfl, wn2⟩ := open_int Tryz.underlying3 (hval 2 3 v2 rfl rfl) h2
  obtain ⟨a3, rfl, rfl, rfl, wn3⟩ := open_int Tryz.underlying3 (hval 3 3 v3 rfl rfl) h3
  simp only [List.append_nil] at hW'
  have ht := tabs_of_laid hL
  have tri : ∀ (W' : World) (sp : Nat → Bool) (hd : Bool) (z : Int), (Lit.int .i64 z).wf = true → ∃ m, DataW.trod enc Tryz.prog W' 0 sp hd m 3 [.int .i64 z] = some (.lit (.int .i64 z), []) := fun W' sp hd z hz => ⟨1, by simp [DataW.trod, Tryz.underlying3, hz]⟩
  refine (law_ways a00 a01 a10 a11 a2 a3 W (Lib.hid ht) (four_of_tabs ht)).mono fun e W' ⟨he, hbw⟩ => ?_
  subst he
  exact ⟨_, rfl, post_of_below (pa := []) (pv := []) hW' (fun _ _ _ => trodAll_mk1 (shut_bool Tryz.underlying4 true)) (fun sp _ => trodAll_mk4 (Go.Joins.shut_agg2 Tryz.underlying48 (by kernel_rfl) dateWays_cells48 (tri W' sp true a00 (by assumption)) (tri W' sp true a01 (by assumption))) (Go.Joins.shut_agg2 Tryz.underlying48 (by kernel_rfl) dateWays_cells48 (tri W' sp true a10 (by assumption)) (tri W' sp true a11 (by assumption))) (shut_int Tryz.underlying3 wn2) (shut_int Tryz.underlying3 wn3)) (fun _ _ => rfl) rfl hbw
    (ok_one (by kernel_rfl) rfl (okWide_bool_mk Tryz.underlying4 true))⟩
end Go.Proofs.YtppdgahnmkbnlaaGreatDoor
