/- The seat: arguments that are rows of spans. -/
import Derived.Test.YtfhljcpicdabmaaGreatDoorSeatPi
import Derived.Deep.SlicePairs
namespace Go.Proofs.YtfhljcpicdabmaaGreatDoor
open Go Go.ChangeShapes Go.WideShapes Go.RowKit Go.Ev Go.WayM Go.Deep
set_option maxRecDepth 100000
set_option maxHeartbeats 1000000
theorem cells48 : Tryz.prog.cellsOf 48 = 2 := by kernel_rfl
section
variable {H : Type} {enc : TypeId × Value → H}
theorem spans_open {W : World} {base : Nat} {v : Value} {d : DataW H} {p : List MemPlace} (hv : Value.okWide Tryz.prog W .any base 42 v) (h : DataW.Trod enc Tryz.prog W 0 (fun _ => true) true 42 v d p) : ∃ l, SpAt W v l ∧ l.length ≤ 9223372036854775807 := by
  obtain ⟨a0, len, cap, rfl⟩ := okWide_slice Tryz.underlying42 hv
  obtain ⟨fuel, hf⟩ := h
  rcases open_slice_pairs Tryz.underlying42 Tryz.underlying48 cells48 rfl rfl cells3 cells3 hf with ⟨hcs0, _⟩ | ⟨a, len', cap', m, n, V0, V1, D0, D1, P0, P1, hcs0, _, hl, hm, hmm, _, hx⟩
  · simp [Value.cells] at hcs0
    obtain ⟨rfl, rfl, rfl⟩ := hcs0
    exact ⟨[], ⟨none, 0, rfl, fun h => by simp at h⟩, by simp⟩
  · simp [Value.cells] at hcs0
    obtain ⟨rfl, rfl, rfl⟩ := hcs0
    simp only [if_true] at hmm
    have each : ∀ i, i < len → W.cell? (a.add (i * 2)) = some (.int .i64 (intOf (V0 i))) ∧ W.cell? (a.add (i * 2 + 1)) = some (.int .i64 (intOf (V1 i))) := fun i hi => by
      obtain ⟨h0, h1, t0, t1⟩ := hx i (by omega)
      obtain ⟨z0, e0, _, _⟩ := DataW.trod_int Tryz.underlying3 t0
      obtain ⟨z1, e1, _, _⟩ := DataW.trod_int Tryz.underlying3 t1
      simp only [List.cons.injEq, and_true] at e0 e1
      rw [h0, h1, e0, e1]
      exact ⟨rfl, rfl⟩
    have hlen : ((List.range len).map fun i => (intOf (V0 i), intOf (V1 i))).length = len := by simp
    refine ⟨(List.range len).map fun i => (intOf (V0 i), intOf (V1 i)), ⟨some a, cap, by rw [hlen], fun hn => ?_⟩, by rw [hlen]; unfold maxLen at hm; omega⟩
    rw [hlen] at hn
    obtain ⟨bm, om, spot⟩ := a
    have hspot : spot = none := by simpa [Addr.add] using World.cell?_spot (each 0 hn).1
    subst hspot
    refine ⟨bm, om, rfl, cell_lt (each 0 hn).1 |> fun h => by rwa [add_at] at h, fun i q hi => ?_⟩
    have hil : i < len := by have := (List.getElem?_eq_some_iff.1 hi).1; rw [hlen] at this; exact this
    rw [List.getElem?_map, List.getElem?_range hil] at hi
    have e := (Option.some.inj hi).symm
    subst e
    have := each i hil
    rw [add_at, add_at] at this
    exact ⟨this.1, by rw [Nat.add_assoc]; exact this.2⟩
end
end Go.Proofs.YtfhljcpicdabmaaGreatDoor
