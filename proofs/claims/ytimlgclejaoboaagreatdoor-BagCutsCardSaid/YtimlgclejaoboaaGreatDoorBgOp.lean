/- Stage 4's seat: arguments that are bags, and slices of integers. -/
import Derived.Test.YtimlgclejaoboaaGreatDoorBgN
import Derived.Test.YtimlgclejaoboaaGreatDoorBgO
import Derived.Deep.Slices
import Derived.WideKeyArgs
import Derived.OpenShut
namespace Go.Proofs.YtimlgclejaoboaaGreatDoor
open Go Go.ChangeShapes Go.WideShapes Go.RowKit Go.RecM Go.Deep
set_option maxRecDepth 100000
set_option maxHeartbeats 1000000
theorem Tryz.laidOut : laidOutB Tryz.prog = true := by kernel_rfl
theorem cells33 : Tryz.prog.cellsOf 33 = 4 := by kernel_rfl
theorem cells31 : Tryz.prog.cellsOf 31 = 3 := by kernel_rfl
theorem add_at (b o j : Nat) : (⟨b, o, none⟩ : Addr).add j = ⟨b, o + j, none⟩ := by
  unfold Addr.add
  by_cases h : j = 0 <;> simp [h]
section
variable {H : Type} {enc : TypeId × Value → H}
theorem rec_open {w : World} {base n : Nat} {spare : Nat → Bool} {held : Bool} {cs : List Value} {x : DataW H × List MemPlace} (h : DataW.trod enc Tryz.prog w base spare held n 31 cs = some x) (hl : cs.length = 3) : ∃ x0 x1 x2 : Int, cs = [.int .i64 x0, .int .i64 x1, .int .i64 x2] := by
  obtain ⟨xs, k, _, _, _, hxl, hf⟩ := DataW.trod_struct Tryz.underlying31 h
  match cs, hl with
  | [v0, v1, v2], _ =>
    obtain ⟨y0, h0⟩ : ∃ y, xs[0]? = some y := ⟨_, List.getElem?_eq_getElem (by rw [hxl]; decide)⟩
    obtain ⟨y1, h1⟩ : ∃ y, xs[1]? = some y := ⟨_, List.getElem?_eq_getElem (by rw [hxl]; decide)⟩
    obtain ⟨y2, h2⟩ : ∃ y, xs[2]? = some y := ⟨_, List.getElem?_eq_getElem (by rw [hxl]; decide)⟩
    have g0 : DataW.trod enc Tryz.prog w base spare held k 3 ((([v0, v1, v2] : List Value).drop 0).take (Tryz.prog.cellsOf 3)) = xs[0]? := hf 0 _ rfl
    have g1 : DataW.trod enc Tryz.prog w base spare held k 3 ((([v0, v1, v2] : List Value).drop 1).take (Tryz.prog.cellsOf 3)) = xs[1]? := hf 1 _ rfl
    have g2 : DataW.trod enc Tryz.prog w base spare held k 3 ((([v0, v1, v2] : List Value).drop 2).take (Tryz.prog.cellsOf 3)) = xs[2]? := hf 2 _ rfl
    rw [h0] at g0
    rw [h1] at g1
    rw [h2] at g2
    simp only [cells3, List.drop_zero, List.drop_succ_cons, List.take_succ_cons, List.take_zero] at g0 g1 g2
    obtain ⟨z0, e0, _⟩ := DataW.trod_int Tryz.underlying3 g0
    obtain ⟨z1, e1, _⟩ := DataW.trod_int Tryz.underlying3 g1
    obtain ⟨z2, e2, _⟩ := DataW.trod_int Tryz.underlying3 g2
    cases e0; cases e1; cases e2
    exact ⟨z0, z1, z2, rfl⟩
theorem item_open {w : World} {base n : Nat} {spare : Nat → Bool} {held : Bool} {cs : List Value} {x : DataW H × List MemPlace} (h : DataW.trod enc Tryz.prog w base spare held n 33 cs = some x) (hl : cs.length = 4) : ∃ x : It, cs = encIt x := by
  obtain ⟨xs, k, _, _, _, hxl, hf⟩ := DataW.trod_struct Tryz.underlying33 h
  match cs, hl with
  | [v0, v1, v2, v3], _ =>
    obtain ⟨y0, h0⟩ : ∃ y, xs[0]? = some y := ⟨_, List.getElem?_eq_getElem (by rw [hxl]; decide)⟩
    obtain ⟨y1, h1⟩ : ∃ y, xs[1]? = some y := ⟨_, List.getElem?_eq_getElem (by rw [hxl]; decide)⟩
    have g0 : DataW.trod enc Tryz.prog w base spare held k 31 ((([v0, v1, v2, v3] : List Value).drop 0).take (Tryz.prog.cellsOf 31)) = xs[0]? := hf 0 _ rfl
    have g1 : DataW.trod enc Tryz.prog w base spare held k 3 ((([v0, v1, v2, v3] : List Value).drop 3).take (Tryz.prog.cellsOf 3)) = xs[1]? := hf 1 _ rfl
    rw [h0] at g0
    rw [h1] at g1
    simp only [cells3, cells31, List.drop_zero, List.drop_succ_cons, List.take_succ_cons, List.take_zero] at g0 g1
    obtain ⟨x0, x1, x2, e0⟩ := rec_open g0 rfl
    obtain ⟨z1, e1, _⟩ := DataW.trod_int Tryz.underlying3 g1
    cases e0; cases e1
    exact ⟨((x0, x1, x2), z1), rfl⟩
theorem bag_open {W : World} {base : Nat} {v : Value} {d : DataW H} {p : List MemPlace} (hv : Value.okWide Tryz.prog W .any base 23 v) (h : DataW.Trod enc Tryz.prog W 0 (fun _ => true) true 23 v d p) : ∃ l, BagAt W v l ∧ l.length ≤ 9223372036854775807 := by
  obtain ⟨a0, len, cap, rfl⟩ := okWide_slice Tryz.underlying23 hv
  obtain ⟨fuel, hf⟩ := h
  rcases open_slice Tryz.underlying23 hf with ⟨hcs0, _⟩ | ⟨a, len', cap', m, n, D, Pl, hcs0, _, hl, hm, hmm, _, hx⟩
  · simp [Value.cells] at hcs0
    obtain ⟨rfl, rfl, rfl⟩ := hcs0
    exact ⟨[], BagAt.nil W, by simp⟩
  · simp [Value.cells] at hcs0
    obtain ⟨rfl, rfl, rfl⟩ := hcs0
    simp only [if_true] at hmm
    have each : ∀ i, i < len → ∃ x : It, W.cell? (a.add (i * 4)) = some (.int .i64 x.1.1) ∧ W.cell? (a.add (i * 4 + 1)) = some (.int .i64 x.1.2.1) ∧ W.cell? (a.add (i * 4 + 2)) = some (.int .i64 x.1.2.2) ∧ W.cell? (a.add (i * 4 + 3)) = some (.int .i64 x.2) := fun i hi => by
      obtain ⟨cs', h1, h2⟩ := hx i (by omega)
      rw [cells33] at h1
      obtain ⟨_, hlen, hcell⟩ := World.cells?_some h1
      obtain ⟨x, rfl⟩ := item_open h2 hlen
      have e0 := hcell 0 (by omega)
      have e1 := hcell 1 (by omega)
      have e2 := hcell 2 (by omega)
      have e3 := hcell 3 (by omega)
      rw [add_add] at e0 e1 e2 e3
      exact ⟨x, by simpa [encIt] using e0, by simpa [encIt] using e1, by simpa [encIt] using e2, by simpa [encIt] using e3⟩
    obtain ⟨f, hff⟩ : ∃ f : Nat → It, ∀ i, i < len → W.cell? (a.add (i * 4)) = some (.int .i64 (f i).1.1) ∧ W.cell? (a.add (i * 4 + 1)) = some (.int .i64 (f i).1.2.1) ∧ W.cell? (a.add (i * 4 + 2)) = some (.int .i64 (f i).1.2.2) ∧ W.cell? (a.add (i * 4 + 3)) = some (.int .i64 (f i).2) := by
      refine ⟨fun i => if h : i < len then (each i h).choose else ((0, 0, 0), 0), fun i hi => ?_⟩
      simp only [dif_pos hi]
      exact (each i hi).choose_spec
    have hlen : ((List.range len).map f).length = len := by simp
    refine ⟨(List.range len).map f, ⟨some a, cap, by rw [hlen], fun hn => ?_⟩, by rw [hlen]; unfold maxLen at hm; omega⟩
    rw [hlen] at hn
    obtain ⟨bm, om, spot⟩ := a
    have hspot : spot = none := by simpa [Addr.add] using World.cell?_spot (hff 0 hn).1
    subst hspot
    have h00 := (hff 0 hn).1
    refine ⟨bm, om, rfl, World.block_lt_of_cell? W ⟨bm, om, none⟩ (by simpa [add_at] using h00), fun i q hi => ?_⟩
    have hil : i < len := by have := (List.getElem?_eq_some_iff.1 hi).1; rw [hlen] at this; exact this
    rw [List.getElem?_map, List.getElem?_range hil] at hi
    have e := (Option.some.inj hi).symm
    subst e
    have := hff i hil
    rw [add_at, add_at, add_at, add_at] at this
    exact ⟨this.1, by rw [Nat.add_assoc]; exact this.2.1, by rw [Nat.add_assoc]; exact this.2.2.1, by rw [Nat.add_assoc]; exact this.2.2.2⟩
theorem ints_open {W : World} {base : Nat} {v : Value} {d : DataW H} {p : List MemPlace} (hv : Value.okWide Tryz.prog W .any base 40 v) (h : DataW.Trod enc Tryz.prog W 0 (fun _ => true) true 40 v d p) : ∃ l, IntsAt W v l ∧ l.length ≤ 9223372036854775807 ∧ ∀ x ∈ l, -9223372036854775808 ≤ x ∧ x ≤ 9223372036854775807 := by
  obtain ⟨a0, len, cap, rfl⟩ := okWide_slice Tryz.underlying40 hv
  obtain ⟨fuel, hf⟩ := h
  rcases open_slice1 Tryz.underlying40 cells3 hf with ⟨hcs0, _⟩ | ⟨a, len', cap', m, n, V, D, Pl, hcs0, _, hl, hm, hmm, _, hx⟩
  · simp [Value.cells] at hcs0
    obtain ⟨rfl, rfl, rfl⟩ := hcs0
    exact ⟨[], ⟨none, 0, rfl, fun h => by simp at h⟩, by simp, by simp⟩
  · simp [Value.cells] at hcs0
    obtain ⟨rfl, rfl, rfl⟩ := hcs0
    simp only [if_true] at hmm
    have each : ∀ i, i < len → W.cell? (a.add i) = some (.int .i64 (intOf (V i))) ∧ (Lit.int .i64 (intOf (V i))).wf = true := fun i hi => by
      obtain ⟨h0, t0⟩ := hx i (by omega)
      obtain ⟨z0, e0, _, hz⟩ := DataW.trod_int Tryz.underlying3 t0
      simp only [List.cons.injEq, and_true] at e0
      rw [h0, e0]
      exact ⟨rfl, hz⟩
    have hlen : ((List.range len).map fun i => intOf (V i)).length = len := by simp
    refine ⟨(List.range len).map fun i => intOf (V i), ⟨some a, cap, by rw [hlen], fun hn => ?_⟩, by rw [hlen]; unfold maxLen at hm; omega, fun x hx => ?_⟩
    · rw [hlen] at hn
      obtain ⟨bm, om, spot⟩ := a
      have hspot : spot = none := by simpa [Addr.add] using World.cell?_spot (each 0 hn).1
      subst hspot
      have h00 := (each 0 hn).1
      refine ⟨bm, om, rfl, World.block_lt_of_cell? W ⟨bm, om, none⟩ (by simpa [add_at] using h00), fun i q hi => ?_⟩
      have hil : i < len := by have := (List.getElem?_eq_some_iff.1 hi).1; rw [hlen] at this; exact this
      rw [List.getElem?_map, List.getElem?_range hil] at hi
      have e := (Option.some.inj hi).symm
      subst e
      have := (each i hil).1
      rw [add_at] at this
      exact this
    · obtain ⟨i, hi, rfl⟩ := List.mem_map.1 hx
      exact bounds_i64 (each i (List.mem_range.1 hi)).2
theorem stays {W W' : World} {t : TypeId} (hr : Tryz.prog.readableRec t = true) (hrow : t < Tryz.prog.types.size) {v : Value} {d : DataW H} {p : List MemPlace} {sp : Nat → Bool} (h : DataW.Trod enc Tryz.prog W 0 (fun _ => true) true t v d p) (hb : Below W.heap.size W W')
    (hlt : ∀ x ∈ p, x.block < W.heap.size) (hs : ∀ x ∈ p, sp x.block = true) : DataW.Trod enc Tryz.prog W' 0 sp true t v d p :=
  WideElems.Trod_stays Tryz.laidOut hr hrow h (fun x hx => hb.same (hlt x hx)) hs
end
end Go.Proofs.YtimlgclejaoboaaGreatDoor
