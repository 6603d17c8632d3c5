/- The seat: DateKnown: what its row lists, and the tables; the law. -/
import Derived.Test.YtiekgkjdhjdcoaaGreatDoorSeatKno
import Derived.Lib.LaidTab
namespace Go.Proofs.YtiekgkjdhjdcoaaGreatDoor
open Go Go.ChangeShapes Go.WideShapes Go.RowKit Go.Ev
set_option maxRecDepth 100000

/-- An array of strings that reads as a list of strings holds just these. -/
theorem cells_of_strs {H : Type} {enc : TypeId × Value → H} {P : Program} {w : World} {base : Nat} {sp : Nat → Bool} {held : Bool} {fuel : Nat} {t e : TypeId} {n : Nat} {cs : List Value} {zs : List (List UInt8)} {p : List MemPlace}
    (ht : P.underlying t = some (.array n e)) (he : P.underlying e = some .string) (hce : P.cellsOf e = 1) (hct : P.cellsOf t = n)
    (h : DataW.trod enc P w base sp held fuel t cs = some (.agg (zs.map fun z => .lit (.string z)), p)) : cs = zs.map fun z => Value.string ⟨z.toArray⟩ := by
  cases fuel with
  | zero => simp [DataW.trod] at h
  | succ fuel =>
    simp only [DataW.trod, ht, hce, hct, Nat.mul_one] at h
    split at h
    · rename_i hl
      obtain ⟨xs, hm, hx⟩ := Option.map_eq_some_iff.1 h
      have hxs : xs.map (·.1) = zs.map fun z => (DataW.lit (.string z) : DataW H) := by
        have := congrArg Prod.fst hx
        simpa using this
      have hxl : xs.length = n := by simpa using Lib.mapM_length hm
      have hzl : zs.length = n := by
        have := congrArg List.length hxs
        simp at this
        omega
      apply List.ext_getElem?
      intro i
      by_cases hi : i < n
      · obtain ⟨b, hb, hf⟩ := Lib.mapM_at hm i i (by simp [hi])
        obtain ⟨z, hc, rfl, _⟩ := DataW.trod_string he hf
        have h1 : cs[i]? = some (.string z) := by
          have := congrArg (·[0]?) hc
          simpa [List.getElem?_take, List.getElem?_drop] using this
        have h2 : (xs.map (·.1))[i]? = some (DataW.lit (.string z.data.toList) : DataW H) := by simp [hb]
        rw [hxs] at h2
        simp only [List.getElem?_map, Option.map_eq_some_iff, DataW.lit.injEq, Lit.string.injEq] at h2
        obtain ⟨z', hz', hzz⟩ := h2
        rw [h1, List.getElem?_map, hz', Option.map_some, hzz]
      · rw [List.getElem?_eq_none (by omega), List.getElem?_eq_none (by simp; omega)]
    · cases h

def flatV : DataW Unit → List Value
  | .agg l => l.map litV
  | d => [litV d]
def aggW : DataW Unit → Array Value
  | .agg l => (l.flatMap flatV).toArray
  | _ => #[]
noncomputable def laidWorldK (os : Os) : World :=
  let w0 := laidWorld os
  { w0 with heap := (w0.heap.modify 4 (putCells (aggW Rows.laid_unicode_utf8_first))).modify 5 (putCells (aggW Rows.laid_unicode_utf8_acceptRanges)) }
theorem laidWorldK_met (os : Os) (args : Array Value) : laidMet Tryz.prog Rows.dateKnownRow.laid ((laidWorldK os).forCall (fun _ _ => 0) ⟨#[], args, []⟩).memory :=
  laidMet_of_run' 8 (by kernel_rfl) (by kernel_rfl)

theorem gWeek : Tryz.prog.globalNamed "afterword/date.weekdays" = some 1 := by kernel_rfl
def weekZ : List (List UInt8) := [[109, 111, 110], [116, 117, 101], [119, 101, 100], [116, 104, 117], [102, 114, 105], [115, 97, 116], [115, 117, 110]]
theorem weekL_eq : weekL = weekZ.map fun z => Value.string ⟨z.toArray⟩ := sames_eq (by kernel_rfl)

theorem tabsR_of_laidK {W : World} (h : laidMet Tryz.prog Rows.dateKnownRow.laid W) : TabsIn tabsR W := by
  have h1 : laidMet Tryz.prog [("internal/strconv.uint64pow10", Rows.laid_internal_strconv_uint64pow10), ("unicode/utf8.acceptRanges", Rows.laid_unicode_utf8_acceptRanges), ("afterword/date.ahead", Rows.laid_afterword_date_ahead), ("afterword/date.weekdays", Rows.laid_afterword_date_weekdays), ("unicode/utf8.first", Rows.laid_unicode_utf8_first)] W := laidMet.tail (laidMet.tail h)
  have h2 := laidMet.tail (laidMet.tail h1)
  have h3 := laidMet.tail h2
  have t1 : Lib.TabIs Tryz.prog W "internal/strconv.uint64pow10" .u64 Lib.pow10Tab := by
    obtain ⟨ps, ⟨g, t, cs, fuel, p, q, hg, ht, hvar, hd, _, _⟩, _⟩ := h1
    obtain rfl := Option.some.inj (gPow.symm.trans hg)
    obtain rfl := Option.some.inj ((show (Tryz.prog.globals[3]?).map (·.type) = some 253 by kernel_rfl).symm.trans ht)
    unfold Lib.TabIs
    rw [hvar, ← Lib.cells_of_tab (k := .u64) (zs := Lib.pow10Tab) (e := 220) (n := 20) (by kernel_rfl) (by kernel_rfl) (by kernel_rfl) (by kernel_rfl) hd]
  have t0 : Lib.TabIs Tryz.prog W "afterword/date.ahead" .i64 aheadL := by
    obtain ⟨ps, ⟨g, t, cs, fuel, p, q, hg, ht, hvar, hd, _, _⟩, _⟩ := h2
    obtain rfl := Option.some.inj (gAhead.symm.trans hg)
    obtain rfl := Option.some.inj (gAheadT.symm.trans ht)
    unfold Lib.TabIs
    rw [hvar, ← Lib.cells_of_tab (k := .i64) (zs := aheadL) (e := 3) (n := 13) (by kernel_rfl) (by kernel_rfl) (by kernel_rfl) (by kernel_rfl) hd]
  have t2 : W.var? Tryz.prog "afterword/date.weekdays" = some (weekZ.map fun z => Value.string ⟨z.toArray⟩).toArray := by
    obtain ⟨ps, ⟨g, t, cs, fuel, p, q, hg, ht, hvar, hd, _, _⟩, _⟩ := h3
    obtain rfl := Option.some.inj (gWeek.symm.trans hg)
    rw [hvar]
    obtain rfl := Option.some.inj ((show (Tryz.prog.globals[1]?).map (·.type) = some 194 by kernel_rfl).symm.trans ht)
    rw [← cells_of_strs (zs := weekZ) (e := 9) (n := 7) (by kernel_rfl) (by kernel_rfl) (by kernel_rfl) (by kernel_rfl) hd]
  have at_ : ∀ {name : String} {g : Nat} {l : List Value}, Tryz.prog.globalNamed name = some g → W.var? Tryz.prog name = some l.toArray → ∃ e fz, W.heap[g]? = some (.cells l.toArray e fz) := by
    intro name g l hg ht
    unfold World.var? at ht
    rw [hg] at ht
    simp only [Option.bind_some] at ht
    split at ht
    · rename_i cs e fz hc
      simp only [Option.some.injEq] at ht
      exact ⟨e, fz, by rw [hc, ht]⟩
    · cases ht
  intro t ht
  simp only [tabsR, List.mem_cons, List.not_mem_nil, or_false] at ht
  rcases ht with rfl | rfl | rfl
  · exact at_ gAhead t0
  · show ∃ e fz, W.heap[1]? = some (.cells weekL.toArray e fz)
    rw [weekL_eq]
    exact at_ gWeek t2
  · exact at_ gPow t1

theorem c18 (es : Nat → TypeId) : answers (evCall env lSeatKn 6000 1000 18 [] (stR es)) (.bool true) = true := by kernel_rfl
theorem law_known (w : World) (hw : TabsIn tabsR w) : Calls Tryz.prog 18 #[] w fun e w' => e = .returned (.bool true) ∧ RowKit.Below w.heap.size w w' :=
  run_ok env_ok lSeatKn_ok (tabsR_below 1000 (by decide)) (by show (8 : Nat) ≤ 1000; decide) (Nat.le_refl _) rfl (fun es => answers_eq (c18 es)) hw
end Go.Proofs.YtiekgkjdhjdcoaaGreatDoor
#print axioms Go.Proofs.YtiekgkjdhjdcoaaGreatDoor.law_known
