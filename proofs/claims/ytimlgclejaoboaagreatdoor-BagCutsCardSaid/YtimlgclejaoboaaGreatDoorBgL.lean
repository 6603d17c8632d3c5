/- Stage 4's seat: which bags are formed, the project's side. -/
import Derived.Test.YtimlgclejaoboaaGreatDoorBgH
namespace Go.Proofs.YtimlgclejaoboaaGreatDoor
open Go Go.RowKit Go.RecM
set_option maxRecDepth 100000
set_option maxHeartbeats 1000000

theorem stepsTo_le {l : List It} {j k : Nat} (h : stepsTo l k = true) (hj : j ≤ k) : stepsTo l j = true := by
  unfold stepsTo at h ⊢
  rw [List.all_eq_true] at h ⊢
  exact fun i hi => h i (List.mem_range.2 (by have := List.mem_range.1 hi; omega))

theorem Grown.below {w w' : World} (h : Grown w w') : Below w.heap.size w w' := by
  obtain ⟨q, os, rfl⟩ := h
  exact ⟨rfl, rfl, rfl, by simp [Sort.grow, World.drewN], fun i hi => by simp [Sort.grow, World.drewN, Array.getElem?_append_left hi]⟩

theorem recGe (x y : R3) (w : World) : Calls Tryz.prog 118 #[aggR x, aggR y] w fun e w' => e = .returned (.int .i64 (cfR x y)) ∧ Below w.heap.size w w' := by
  refine (recCmp x y w).mono ?_
  rintro e w' ⟨rfl, hg⟩
  exact ⟨rfl, hg.below⟩

theorem drewN_below {B : Nat} {a w : World} (h : Below B a w) (n : Nat) : Below B a (w.drewN n) := ⟨h.os, h.tape, h.output, h.size, h.block⟩
theorem isBag_any (s : Value) (l : List It) (W0 : World) (h : BagAt W0 s l) (hl : l.length ≤ 9223372036854775807) : Calls Tryz.prog 106 #[s] W0 fun e w' => e = .returned (.bool (goodB l)) ∧ Below W0.heap.size W0 w' := by
  obtain ⟨A, c, rfl, -⟩ := id h
  obtain ⟨n, hn⟩ : ∃ n, Hid (l.length = n) := ⟨_, Lib.hid rfl⟩
  rw [hn.out] at h hl ⊢
  have HL := Lib.hid h
  clear h
  by_cases h3 : n ≤ 300
  · have h3b : decide ((300 : Int) < (n : Int)) = false := decide_eq_false (by omega)
    go_enter Tryz.func106, Tryz.ntmps106
    go_wp2
    go_loopw [10] (fun u10 wr => ∃ k : Nat, k ≤ n ∧ u10 = .int .i64 k ∧ Hid (stepsTo l k = true) ∧ Below W0.heap.size W0 wr) (fun u10 _ => n - (intOf u10).toNat)
    case atStart => exact ⟨0, by omega, rfl, Lib.hid rfl, Below.refl _ _⟩
    case round =>
      obtain ⟨k, hk, rfl, hst, hbw⟩ := hrel
      by_cases hlt : k < n
      · obtain ⟨x, hx⟩ : ∃ x, l[k]? = some x := ⟨_, List.getElem?_eq_getElem (by have := hn.out; omega)⟩
        obtain ⟨g, o, rfl, hg, d0, d1, d2, d3⟩ := (HL.out.below hbw (Nat.le_refl _)).get hx
        have HX := Lib.hid hx
        clear hx
        obtain ⟨⟨x0, x1, x2⟩, x3⟩ := x
        obtain ⟨p, hp⟩ : ∃ p, Hid (itemB ((x0, x1, x2), x3) = p) := ⟨_, Lib.hid rfl⟩
        have cI : ∀ w, Calls Tryz.prog 59 #[.agg #[.int .i64 x0, .int .i64 x1, .int .i64 x2, .int .i64 x3]] w fun e w' => e = .returned (.bool p) ∧ Below w.heap.size w w' := fun w => by rw [← hp.out]; exact isItem_any ((x0, x1, x2), x3) w
        dsimp only at d0 d1 d2 d3
        have bk1 : (0 : Int) ≤ k := by omega
        have bk2 : (k : Int) < n := by omega
        go_wp2_with fail
        refine (cI _).mono ?_
        rintro e w1 ⟨rfl, b1⟩
        have b1' : Below wr.heap.size wr w1 := (Below.alloc (Below.refl _ _) (Nat.le_refl _) _).trans (b1.mono (by go_simp))
        have hw1 : wr.heap.size < w1.heap.size := by have := b1.size; simp at this; omega
        have i0 : w1.cell? ⟨wr.heap.size, 0, none⟩ = some (.int .i64 x0) := by rw [b1.cell (p := ⟨wr.heap.size, 0, none⟩) (by go_simp)]; go_simp
        have i1 : w1.cell? ⟨wr.heap.size, 1, none⟩ = some (.int .i64 x1) := by rw [b1.cell (p := ⟨wr.heap.size, 1, none⟩) (by go_simp)]; go_simp
        have i2 : w1.cell? ⟨wr.heap.size, 2, none⟩ = some (.int .i64 x2) := by rw [b1.cell (p := ⟨wr.heap.size, 2, none⟩) (by go_simp)]; go_simp
        have i3 : w1.cell? ⟨wr.heap.size, 3, none⟩ = some (.int .i64 x3) := by rw [b1.cell (p := ⟨wr.heap.size, 3, none⟩) (by go_simp)]; go_simp
        have bw1 : Below W0.heap.size W0 w1 := hbw.trans (b1'.mono hbw.size)
        clear d0 d1 d2 d3 b1
        have no : Hid (stepB l k = false → goodB l = false) := Lib.hid fun h => goodB_no h (by have := hn.out; omega)
        cases p with
        | false =>
          go_wp2
          go_ret
          exact ⟨by rw [no.out (stepB_bad HX.out (.inl hp.out))]; rfl, bw1⟩
        | true =>
          by_cases hz : x3 = 0
          · have hzb : decide (x3 = 0) = true := decide_eq_true hz
            go_wp2
            go_ret
            exact ⟨by rw [no.out (stepB_bad HX.out (.inr hz))]; rfl, bw1⟩
          · have hzb : decide (x3 = 0) = false := decide_eq_false hz
            obtain hk0 | ⟨j, hj⟩ : k = 0 ∨ ∃ j, k = j + 1 := by cases k with | zero => exact .inl rfl | succ j => exact .inr ⟨j, rfl⟩
            · have hk0b : decide ((0 : Int) < (k : Int)) = false := decide_eq_false (by omega)
              go_wp2
              go_quiet (fail)
              go_wp2
              go_roundw
              case rel =>
                refine ⟨k + 1, by omega, by go_num, Lib.hid ?_, drewN_below bw1 _⟩
                subst hk0
                rw [stepsTo_succ, hst.out, stepB_zero HX.out, hp.out]
                simp [hz]
              case measure => simp [intOf]; omega
            · have hk0b : decide ((0 : Int) < (k : Int)) = true := decide_eq_true (by omega)
              obtain ⟨y, hy⟩ : ∃ y, l[j]? = some y := ⟨_, List.getElem?_eq_getElem (by have := hn.out; omega)⟩
              obtain ⟨g', o', he, -, e0, e1, e2, -⟩ := (HL.out.below bw1 (Nat.le_refl _)).get hy
              cases he
              have HY := Lib.hid hy
              clear hy
              obtain ⟨⟨y0, y1, y2⟩, y3⟩ := y
              obtain ⟨r, hr⟩ : ∃ r, Hid (cfR (y0, y1, y2) (x0, x1, x2) = r) := ⟨_, Lib.hid rfl⟩
              have cC : ∀ w, Calls Tryz.prog 118 #[.agg #[.int .i64 y0, .int .i64 y1, .int .i64 y2], .agg #[.int .i64 x0, .int .i64 x1, .int .i64 x2]] w fun e w' => e = .returned (.int .i64 r) ∧ Below w.heap.size w w' := fun w => by rw [← hr.out]; exact recGe (y0, y1, y2) (x0, x1, x2) w
              have hrr : Hid (decide (0 ≤ r) = !decide (rLt (y0, y1, y2) (x0, x1, x2))) := Lib.hid (by rw [← hr.out, ← ltR]; unfold ltOf; by_cases h : cfR (y0, y1, y2) (x0, x1, x2) < 0 <;> simp [h] <;> omega)
              have hwj : IntKind.i64.wrap (j : Int) = (j : Int) := IntWalk.i64_in _ (by omega)
              subst hj
              dsimp only at e0 e1 e2
              have bj1 : (0 : Int) ≤ j := by omega
              have bj2 : (j : Int) < n := by omega
              have bgw : Below W0.heap.size W0 w1.drew := bw1.drew
              go_wp2
              refine wp_region_still_tail 11 (by kernel_rfl) (by kernel_rfl) ?_
              change wpStill Tryz.prog _ w1.drew (fun a' => wpList Tryz.prog _ _ _ a' w1.drew) _ _
              have f0 : w1.drew.cell? ⟨g, o + j * 4, none⟩ = some (.int .i64 y0) := e0
              have f1 : w1.drew.cell? ⟨g, o + j * 4 + 1, none⟩ = some (.int .i64 y1) := e1
              have f2 : w1.drew.cell? ⟨g, o + j * 4 + 2, none⟩ = some (.int .i64 y2) := e2
              have k0 : w1.drew.cell? ⟨wr.heap.size, 0, none⟩ = some (.int .i64 x0) := i0
              have k1 : w1.drew.cell? ⟨wr.heap.size, 1, none⟩ = some (.int .i64 x1) := i1
              have k2 : w1.drew.cell? ⟨wr.heap.size, 2, none⟩ = some (.int .i64 x2) := i2
              generalize w1.drew = w3 at bgw f0 f1 f2 k0 k1 k2 ⊢
              simp only [List.take_succ_cons, List.take_zero, List.drop_succ_cons, List.drop_zero]
              repeat still_step
              refine wpStill_nil ?_
              go_wp2_with fail
              refine (cC _).mono ?_
              rintro e w4 ⟨rfl, b4⟩
              cases hlt2 : decide (rLt (y0, y1, y2) (x0, x1, x2)) with
              | true =>
                have hge : decide (0 ≤ r) = false := by rw [hrr.out, hlt2]; rfl
                go_wp2
                go_roundw
                case rel =>
                  refine ⟨j + 2, by omega, by go_num, Lib.hid ?_, bgw.trans (b4.mono bgw.size)⟩
                  rw [stepsTo_succ, hst.out, stepB_succ HX.out HY.out, hp.out]
                  simp [hz, hlt2]
                case measure => simp [intOf]; omega
              | false =>
                have hge : decide (0 ≤ r) = true := by rw [hrr.out, hlt2]; rfl
                go_wp2
                go_ret
                exact ⟨by rw [no.out (by rw [stepB_succ HX.out HY.out]; dsimp only; rw [hlt2]; simp)]; rfl, bgw.trans (b4.mono bgw.size)⟩
      · go_wp2
        go_ret
        exact ⟨by unfold goodB; rw [decide_eq_true (by have := hn.out; omega), hn.out, stepsTo_le hst.out (by omega)]; rfl, hbw⟩
  · have h3b : decide ((300 : Int) < (n : Int)) = true := decide_eq_true (by omega)
    go_enter Tryz.func106, Tryz.ntmps106
    go_wp2
    go_ret
    exact ⟨by unfold goodB; rw [decide_eq_false (by have := hn.out; omega)]; rfl, Below.refl _ _⟩
end Go.Proofs.YtimlgclejaoboaaGreatDoor
