/- The seat: arguments that are rows of rows of numbers, and rows of spans. -/
import Derived.Test.YtfhljcpicdabmaaGreatDoorSeatN
import Derived.Test.YtfhljcpicdabmaaGreatDoorSeatPh
import Derived.Deep.Matrix
import Derived.Deep.Fields
import Derived.WideKeyArgs
namespace Go.Proofs.YtfhljcpicdabmaaGreatDoor
open Go Go.ChangeShapes Go.WideShapes Go.RowKit Go.Ev Go.WayM Go.Deep
set_option maxRecDepth 100000
set_option maxHeartbeats 1000000
theorem Tryz.laidOut : laidOutB Tryz.prog = true := by kernel_rfl
theorem cells66 : Tryz.prog.cellsOf 66 = 1 := by kernel_rfl
theorem cells3 : Tryz.prog.cellsOf 3 = 1 := by kernel_rfl
theorem add_at (b o j : Nat) : (⟨b, o, none⟩ : Addr).add j = ⟨b, o + j, none⟩ := by
  unfold Addr.add
  by_cases h : j = 0 <;> simp [h]
theorem cell_lt {w : World} {a : Addr} {v : Value} (h : w.cell? a = some v) : a.block < w.heap.size := by
  rcases Nat.lt_or_ge a.block w.heap.size with h' | h'
  · exact h'
  · unfold World.cell? at h
    simp [Array.getElem?_eq_none h'] at h
section
variable {H : Type} {enc : TypeId × Value → H}
theorem net_open {W : World} {base : Nat} {v : Value} {d : DataW H} {p : List MemPlace} (hv : Value.okWide Tryz.prog W .any base 57 v) (h : DataW.Trod enc Tryz.prog W 0 (fun _ => true) true 57 v d p) : ∃ net, NetAt W v net ∧ NetI net := by
  obtain ⟨a0, len, cap, rfl⟩ := okWide_slice Tryz.underlying57 hv
  obtain ⟨fuel, hf⟩ := h
  rcases open_int_rows Tryz.underlying57 Tryz.underlying66 Tryz.underlying3 cells66 cells3 hf with ⟨hcs0, _⟩ | ⟨a, len', cap', A, L, C, Z, hcs0, _, hl, hm, _, hrows⟩
  · simp [Value.cells] at hcs0
    obtain ⟨rfl, rfl, rfl⟩ := hcs0
    exact ⟨[], ⟨none, 0, rfl, fun h => by simp at h⟩, fun row hr => by cases hr⟩
  · simp [Value.cells] at hcs0
    obtain ⟨rfl, rfl, rfl⟩ := hcs0
    have hlen : ((List.range len).map fun r => (Z r).take (L r)).length = len := by simp
    have hrow : ∀ (i : Nat) (row : List Int), ((List.range len).map fun r => (Z r).take (L r))[i]? = some row → i < len ∧ row = (Z i).take (L i) := fun i row hi => by
      have hil : i < len := by have := (List.getElem?_eq_some_iff.1 hi).1; rw [hlen] at this; exact this
      rw [List.getElem?_map, List.getElem?_range hil] at hi
      exact ⟨hil, (Option.some.inj hi).symm⟩
    refine ⟨(List.range len).map fun r => (Z r).take (L r), ⟨some a, cap, by rw [hlen], fun hn => ?_⟩, fun row hr x hx => ?_⟩
    · rw [hlen] at hn
      obtain ⟨bm, om, spot⟩ := a
      have hspot : spot = none := by simpa [Addr.add] using World.cell?_spot (hrows 0 (by omega)).1
      subst hspot
      refine ⟨bm, om, rfl, cell_lt (hrows 0 (by omega)).1 |> fun h => by rwa [add_at] at h, fun i row hi => ?_⟩
      obtain ⟨hil, rfl⟩ := hrow i row hi
      obtain ⟨r1, r2, r3, r4, r5, r6, r7⟩ := hrows i (by omega)
      rw [add_at] at r1
      have hrl : ((Z i).take (L i)).length = L i := by rw [List.length_take]; omega
      refine ⟨_, r1, A i, C i, by rw [hrl], fun hn2 => ?_⟩
      rw [hrl] at hn2
      rcases hA : A i with _ | a'
      · have := r6 hA; omega
      · obtain ⟨_, hc⟩ := r7 a' hA
        obtain ⟨b', o', spot'⟩ := a'
        have hspot' : spot' = none := by simpa [Addr.add] using World.cell?_spot (hc 0 (by omega))
        subst hspot'
        refine ⟨b', o', rfl, cell_lt (hc 0 (by omega)) |> fun h => by rwa [add_at] at h, fun j x hx => ?_⟩
        have hjl : j < L i := by have := (List.getElem?_eq_some_iff.1 hx).1; rw [hrl] at this; exact this
        have := hc j (by omega)
        rw [add_at] at this
        rw [this]
        rw [List.getElem?_take, if_pos hjl] at hx
        rw [List.getD_eq_getElem?_getD, hx]
        rfl
    · obtain ⟨i, hi⟩ := List.getElem?_of_mem hr
      obtain ⟨hil, rfl⟩ := hrow i row hi
      have hw := (hrows i (by omega)).2.2.2.2.1 x (List.mem_of_mem_take hx)
      simpa [Lit.wf, IntKind.min, IntKind.max, IntKind.signed, IntKind.bits] using hw
theorem stays {W W' : World} {t : TypeId} (hr : Tryz.prog.readableRec t = true) (hrow : t < Tryz.prog.types.size) {v : Value} {d : DataW H} {p : List MemPlace} {sp : Nat → Bool} (h : DataW.Trod enc Tryz.prog W 0 (fun _ => true) true t v d p) (hb : Below W.heap.size W W')
    (hlt : ∀ x ∈ p, x.block < W.heap.size) (hs : ∀ x ∈ p, sp x.block = true) : DataW.Trod enc Tryz.prog W' 0 sp true t v d p :=
  WideElems.Trod_stays Tryz.laidOut hr hrow h (fun x hx => hb.same (hlt x hx)) hs
end
end Go.Proofs.YtfhljcpicdabmaaGreatDoor
