/- The seat: DateDays, the row. -/
import Derived.Test.YtfhljcpicdabmaaGreatDoorRows
import Derived.Test.YtfhljcpicdabmaaGreatDoorSeatM
import Derived.ChangeSame
import Derived.ChangeVars
import Derived.JoinedOf
import Derived.RowKit
import Derived.RowKitTokens
import Derived.LaidLaws
import Derived.Lib.LaidTab
import Derived.Lib.SmallJoins
import Derived.Stop.LaidErr
import Derived.ProofKit
import Derived.Test.YtfhljcpicdabmaaGreatDoorTie
import Derived.Test.YtfhljcpicdabmaaGreatDoorCards
import Derived.SevenTiedAt
import Derived.Below
namespace Go.Proofs.YtfhljcpicdabmaaGreatDoor
open Go Go.ChangeShapes Go.WideShapes Go.RowKit Go.Ev
set_option maxRecDepth 100000

theorem band {a b : Bool} (h1 : a = true) (h2 : b = true) : (a && b) = true := by rw [h1, h2]; rfl
theorem Tryz.own : ownKnob Tryz.prog.godebug = none := by kernel_rfl

def litV : DataW Unit → Value
  | .lit (.int k n) => .int k n
  | .lit (.string bs) => .string ⟨bs.toArray⟩
  | _ => undef
def aggV : DataW Unit → Array Value
  | .agg l => (l.map litV).toArray
  | _ => #[]
def putCells (c : Array Value) : Obj → Obj
  | .cells _ t frozen => .cells c t frozen
  | o => o
noncomputable def laidWorld (os : Os) : World :=
  let w0 := World.holding Tryz.prog os ⟨#[], #[], []⟩
  { w0 with heap := ((((w0.heap.modify 0 (putCells (aggV Rows.laid_afterword_date_ahead))).modify 1 (putCells (aggV Rows.laid_afterword_date_weekdays))).modify 3 (putCells (aggV Rows.laid_internal_strconv_uint64pow10))).modify 6 (putCells (aggV Rows.laid_math_bits_deBruijn32tab))).modify 7 (putCells (aggV Rows.laid_math_bits_deBruijn64tab)) }

theorem laidWorld_met (os : Os) (args : Array Value) : laidMet Tryz.prog Rows.dateDaysRow.laid ((laidWorld os).forCall (fun _ _ => 0) ⟨#[], args, []⟩).memory :=
  laidMet_of_run' 8 (by kernel_rfl) (by kernel_rfl)

theorem gAhead : Tryz.prog.globalNamed "afterword/date.ahead" = some 0 := by kernel_rfl
theorem gAheadT : (Tryz.prog.globals[0]?).map (·.type) = some 186 := by kernel_rfl
theorem gPow : Tryz.prog.globalNamed "internal/strconv.uint64pow10" = some 3 := by kernel_rfl

/-- From a row's laid premise to the tables. -/
theorem tabs_of_laid {W : World} (h : laidMet Tryz.prog Rows.dateDaysRow.laid W) : TabsIn tabs W := by
  have h1 : laidMet Tryz.prog [("internal/strconv.uint64pow10", Rows.laid_internal_strconv_uint64pow10), ("afterword/date.ahead", Rows.laid_afterword_date_ahead), ("afterword/date.weekdays", Rows.laid_afterword_date_weekdays)] W := laidMet.tail (laidMet.tail h)
  have h2 := laidMet.tail h1
  have t1 : Lib.TabIs Tryz.prog W "internal/strconv.uint64pow10" .u64 Lib.pow10Tab := by
    obtain ⟨ps, ⟨g, t, cs, fuel, p, q, hg, ht, hvar, hd, _, _⟩, _⟩ := h1
    obtain rfl := Option.some.inj (gPow.symm.trans hg)
    obtain rfl := Option.some.inj ((show (Tryz.prog.globals[3]?).map (·.type) = some 253 by kernel_rfl).symm.trans ht)
    unfold Lib.TabIs
    rw [hvar, ← Lib.cells_of_tab (k := .u64) (zs := Lib.pow10Tab) (e := 220) (n := 20) (by kernel_rfl) (by kernel_rfl) (by kernel_rfl) (by kernel_rfl) hd]
  have t0 : Lib.TabIs Tryz.prog W "afterword/date.ahead" .i64 aheadL := by
    obtain ⟨ps, ⟨g, t, cs, fuel, p, q, hg, ht, hvar, hd, _, _⟩, _⟩ := h2
    obtain rfl := Option.some.inj (gAhead.symm.trans hg)
    obtain rfl := Option.some.inj (gAheadT.symm.trans ht)
    unfold Lib.TabIs
    rw [hvar, ← Lib.cells_of_tab (k := .i64) (zs := aheadL) (e := 3) (n := 13) (by kernel_rfl) (by kernel_rfl) (by kernel_rfl) (by kernel_rfl) hd]
  have at_ : ∀ {name : String} {g : Nat} {k : IntKind} {zs : List Int}, Tryz.prog.globalNamed name = some g → Lib.TabIs Tryz.prog W name k zs → ∃ e fz, W.heap[g]? = some (.cells (zs.map fun z => Value.int k z).toArray e fz) := by
    intro name g k zs hg ht
    unfold Lib.TabIs World.var? at ht
    rw [hg] at ht
    simp only [Option.bind_some] at ht
    split at ht
    · rename_i cs e fz hc
      simp only [Option.some.injEq] at ht
      exact ⟨e, fz, by rw [hc, ht]⟩
    · cases ht
  intro t ht
  simp only [tabs, List.mem_cons, List.not_mem_nil, or_false] at ht
  rcases ht with rfl | rfl
  · exact at_ gAhead t0
  · exact at_ gPow t1

theorem ahead_of_tabs {W : World} (h : TabsIn tabs W) : Ahead W := by
  obtain ⟨e, fz, hc⟩ := h (intTab 0 .i64 aheadL) (by simp [tabs])
  have hc' : W.heap[0]? = some (.cells (aheadL.map fun z => Value.int .i64 z).toArray e fz) := hc
  refine ⟨?_, fun m h1 h2 => ?_⟩
  · rcases Nat.lt_or_ge 0 W.heap.size with h' | h'
    · exact h'
    · rw [Array.getElem?_eq_none h'] at hc'; cases hc'
  · unfold World.cell?
    simp only [hc']
    have hm : m = 1 ∨ m = 2 ∨ m = 3 ∨ m = 4 ∨ m = 5 ∨ m = 6 ∨ m = 7 ∨ m = 8 ∨ m = 9 ∨ m = 10 ∨ m = 11 ∨ m = 12 ∨ m = 13 := by omega
    rcases hm with rfl | rfl | rfl | rfl | rfl | rfl | rfl | rfl | rfl | rfl | rfl | rfl | rfl <;> rfl

section
variable {H : Type} {enc : TypeId × Value → H} {P : Program}
theorem post_of_below {f : Func} {s : ChangeSpec} {apart fresh handsOn again : Bool} {W W' : World} {args : Array Value} {v : Value} {ds gs : List (DataW H)} {before pa pv : List MemPlace}
    (hW : DataW.Whole enc P f.params.toList s.vars apart W args.toList ds gs before)
    (hres : ∀ (b : Nat) (sp : Nat → Bool) (hd : Bool), DataW.TrodAll enc P W' b sp hd f.resultTypes.toList (v.resultList f.resultTypes.size) (s.fn H (ds ++ gs)).results [])
    (hargs : ∀ sp : Nat → Bool, (∀ p ∈ before, sp p.block = true) → DataW.TrodAll enc P W' 0 sp true f.params.toList args.toList (s.fn H (ds ++ gs)).args pa)
    (hvars : ∀ sp : Nat → Bool, (∀ p ∈ before, sp p.block = true) → DataW.TrodVars enc P W' sp s.vars (s.fn H (ds ++ gs)).vars pv)
    (hps : before = pa ++ pv) (hb : Below W.heap.size W W')
    (hok : ∀ (j : Nat) (t : TypeId) (r : Value), f.resultTypes[j]? = some t → (v.resultList f.resultTypes.size)[j]? = some r → Value.okWide P W' .any 0 t r) :
    s.post enc P f apart fresh handsOn again W args v W' := by
  have hlt : ∀ p ∈ before, p.block < W.heap.size := fun p hp => hW.lt p hp
  have hold : ∀ p ∈ before, (fun b => decide (b < W.heap.size)) p.block = true := fun p hp => by simpa using hlt p hp
  refine ⟨ds, gs, before, [], pa, pv, hW, hres _ _ _, hargs _ hold, hvars _ hold, World.keptBut_mono (fun p hp => ⟨hp, ?_⟩) (hb.frame (· ∈ before)), fun _ => ?_⟩
  · rw [hps, List.mem_append] at hp
    exact Or.inr hp
  · obtain ⟨_, _, _, _, _, hz, hn⟩ := hW
    refine ⟨hok, _, _, ([] ++ pa) ++ pv, ⟨[] ++ pa, pv, trodAll_append (hargs _ (fun _ _ => rfl)) (hres _ _ _), hvars _ (fun _ _ => rfl), rfl, ?_, ?_⟩, ?_⟩
    · intro b off hp
      have hin : MemPlace.cell b off ∈ before := by rw [hps]; simpa using hp
      rw [hb.frozen (hlt _ hin)]
      exact hz b off hin
    · intro ha
      have := hn ha
      rw [hps] at this
      simpa using this
    · intro p hp _
      rw [hps]
      simpa using hp
end

theorem four_of_tabs {W : World} (h : TabsIn tabs W) : 4 ≤ W.heap.size := by
  obtain ⟨e, fz, hc⟩ := h (intTab 3 .u64 Lib.pow10Tab) (by simp [tabs])
  have hc' : W.heap[3]? = some (.cells (Lib.pow10Tab.map fun z => Value.int .u64 z).toArray e fz) := hc
  rcases Nat.lt_or_ge 3 W.heap.size with h' | h'
  · exact h'
  · rw [Array.getElem?_eq_none h'] at hc'; cases hc'

theorem cells23 : Tryz.prog.cellsOf 23 = 3 := by kernel_rfl

theorem days_lifted (os : Os) (started : os.Started) (H : Type) (enc : TypeId × Value → H) :
    ReturnsInHanded {} Tryz.checked os 3 .any (fun w args => (Rows.dateDaysSpec.pre enc Tryz.prog Tryz.f3 [] false w args ∧ laidMet Tryz.prog Rows.dateDaysRow.laid w) ∧ sizedMet enc Tryz.prog Tryz.f3 (OpenSpec.ofChange Rows.dateDaysSpec) false w args)
      (Rows.dateDaysSpec.post enc Tryz.prog Tryz.f3 false Rows.dateDaysRow.fresh Rows.dateDaysRow.handsOn Rows.dateDaysRow.again) := by
  refine returnsInHanded_of_change_and (C := Tryz.checked) (X := fun w _ => laidMet Tryz.prog Rows.dateDaysRow.laid w) (fun _ _ _ hh h => h.of_heap hh) Tryz.own started (by kernel_rfl) Tryz.func3
    (ChangeSpec.witness_at (enc := enc) (C := Tryz.checked) (os := os) (X := fun w _ => laidMet Tryz.prog Rows.dateDaysRow.laid w) false (laidWorld os) #[.agg #[.int .i64 0, .int .i64 0, .int .i64 0], .int .i64 0] 8 rfl (by kernel_rfl) (by kernel_rfl) (by kernel_rfl) (by kernel_rfl) (by kernel_rfl) (laidWorld_met os _)) ?_
  intro W base args ds gs before hval0 hW _ _ hL _
  have hval : ∀ (j : Nat) t v, Tryz.f3.params[j]? = some t → args[j]? = some v → Value.okWide Tryz.prog W .any base t v := hval0
  have hW' := hW
  obtain ⟨p, q, hA0, hV, rfl, hfz, hnd⟩ := hW
  have hA : DataW.TrodAll enc Tryz.prog W 0 (fun _ => true) true Tryz.f3.params.toList args.toList ds p := hA0
  rw [Tryz.params3] at hA hval
  obtain ⟨v0, v1, d0, d1, p0, p1, rfl, rfl, rfl, h0, h1⟩ := trodAll_two hA
  obtain ⟨rfl, rfl⟩ := trodVars_none hV
  obtain ⟨n, rfl, rfl, rfl, wn⟩ := open_int Tryz.underlying3 (hval 1 3 v1 rfl rfl) h1
  have c23 : Tryz.prog.cellsOf 23 = 3 := cells23
  obtain ⟨u0, u1, u2, y0, y1, y2, k, rfl, rfl, rfl, t0, t1, t2⟩ := Go.Joins.open_agg3 Tryz.underlying23 (by kernel_rfl) c23 (hval 0 23 v0 rfl rfl) h0
  obtain ⟨a, ha, rfl, _⟩ := DataW.trod_int Tryz.underlying3 t0
  obtain ⟨b, hb, rfl, _⟩ := DataW.trod_int Tryz.underlying3 t1
  obtain ⟨c, hc, rfl, _⟩ := DataW.trod_int Tryz.underlying3 t2
  cases ha
  cases hb
  cases hc
  simp only [List.append_nil] at hW'
  have ht := tabs_of_laid hL
  have tri : ∀ (W' : World) (sp : Nat → Bool) (hd : Bool) (z : Int), (Lit.int .i64 z).wf = true → ∃ m, DataW.trod enc Tryz.prog W' 0 sp hd m 3 [.int .i64 z] = some (.lit (.int .i64 z), []) := fun W' sp hd z hz => ⟨1, by simp [DataW.trod, Tryz.underlying3, hz]⟩
  refine (law_days a b c n W (ahead_of_tabs ht) (Lib.hid ht) (four_of_tabs ht)).mono fun e W' ⟨he, hbw⟩ => ?_
  subst he
  exact ⟨_, rfl, post_of_below (pa := []) (pv := []) hW' (fun _ _ _ => trodAll_mk1 (shut_bool Tryz.underlying4 true)) (fun sp _ => trodAll_mk2 (Go.Joins.shut_agg3 Tryz.underlying23 (by kernel_rfl) cells23 (tri W' sp true a (by assumption)) (tri W' sp true b (by assumption)) (tri W' sp true c (by assumption))) (shut_int Tryz.underlying3 wn)) (fun _ _ => rfl) rfl hbw
    (ok_one (by kernel_rfl) rfl (okWide_bool_mk Tryz.underlying4 true))⟩

end Go.Proofs.YtfhljcpicdabmaaGreatDoor
#print axioms Go.Proofs.YtfhljcpicdabmaaGreatDoor.days_lifted
