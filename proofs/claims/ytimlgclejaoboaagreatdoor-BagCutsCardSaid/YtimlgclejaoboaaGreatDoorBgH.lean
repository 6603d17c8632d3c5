/- Stage 4's seat: records that are formed, and their order, the specification's side. -/
import Derived.Test.YtimlgclejaoboaaGreatDoorBgG
namespace Go.Proofs.YtimlgclejaoboaaGreatDoor
open Go Go.RowKit Go.RecM
set_option maxRecDepth 100000
set_option maxHeartbeats 1000000

theorem rec_any (x : R3) (w : World) : Calls Tryz.prog 63 #[aggR x] w fun e w' => e = .returned (.bool (recFB x)) ∧ Below w.heap.size w w' := by
  obtain ⟨x0, x1, x2⟩ := x
  obtain ⟨p1, h1⟩ : ∃ p1, Hid (inB x1 (-1000000000) 1000000000 = p1) := ⟨_, Lib.hid rfl⟩
  obtain ⟨p2, h2⟩ : ∃ p2, Hid (inB x2 (-1000000000) 1000000000 = p2) := ⟨_, Lib.hid rfl⟩
  have c1 : ∀ w, Calls Tryz.prog 108 #[.int .i64 x1] w fun e w' => e = .returned (.bool p1) ∧ w' = w := fun w => by rw [← h1.out]; exact in_any _ w
  have c2 : ∀ w, Calls Tryz.prog 108 #[.int .i64 x2] w fun e w' => e = .returned (.bool p2) ∧ w' = w := fun w => by rw [← h2.out]; exact in_any _ w
  change Calls Tryz.prog 63 #[.agg #[.int .i64 x0, .int .i64 x1, .int .i64 x2]] w _
  by_cases a1 : 0 ≤ x0
  · have a1b : decide (0 ≤ x0) = true := decide_eq_true a1
    by_cases a2 : x0 ≤ 200
    · have a2b : decide (x0 ≤ 200) = true := decide_eq_true a2
      have hr : Hid (recFB (x0, x1, x2) = (p1 && p2)) := Lib.hid (by unfold recFB; rw [h1.out, h2.out, show inB x0 0 200 = true by unfold inB; rw [a1b, a2b]; rfl, Bool.true_and])
      rw [hr.out]
      cases p1 with
      | false =>
        go_enter Tryz.func63, Tryz.ntmps63
        go_wp2_with fail
        refine (c1 _).mono ?_
        rintro e w1 ⟨rfl, hw1⟩
        subst hw1
        go_wp2
        go_ret
        exact ⟨rfl, Below.alloc (Below.refl _ _) (Nat.le_refl _) _⟩
      | true =>
        go_enter Tryz.func63, Tryz.ntmps63
        go_wp2_with fail
        refine (c1 _).mono ?_
        rintro e w1 ⟨rfl, hw1⟩
        subst hw1
        go_wp2_with fail
        refine (c2 _).mono ?_
        rintro e w1 ⟨rfl, hw1⟩
        subst hw1
        go_wp2
        go_ret
        exact ⟨by cases p2 <;> rfl, Below.alloc (Below.refl _ _) (Nat.le_refl _) _⟩
    · have a2b : decide (x0 ≤ 200) = false := decide_eq_false a2
      have hr : Hid (recFB (x0, x1, x2) = false) := Lib.hid (by unfold recFB; rw [show inB x0 0 200 = false by unfold inB; rw [a1b, a2b]; rfl, Bool.false_and])
      rw [hr.out]
      go_enter Tryz.func63, Tryz.ntmps63
      go_wp2
      go_ret
      exact ⟨rfl, Below.alloc (Below.refl _ _) (Nat.le_refl _) _⟩
  · have a1b : decide (0 ≤ x0) = false := decide_eq_false a1
    have hr : Hid (recFB (x0, x1, x2) = false) := Lib.hid (by unfold recFB; rw [show inB x0 0 200 = false by unfold inB; rw [a1b]; rfl, Bool.false_and])
    rw [hr.out]
    go_enter Tryz.func63, Tryz.ntmps63
    go_wp2
    go_ret
    exact ⟨rfl, Below.alloc (Below.refl _ _) (Nat.le_refl _) _⟩

theorem less_any (x y : R3) (w : World) : Calls Tryz.prog 99 #[aggR x, aggR y] w fun e w' => e = .returned (.bool (decide (rLt x y))) ∧ Below w.heap.size w w' := by
  obtain ⟨x0, x1, x2⟩ := x
  obtain ⟨y0, y1, y2⟩ := y
  have two : ∀ (o o' : Obj), Below w.heap.size w ((w.alloc o).alloc o') := fun o o' => Below.alloc (Below.alloc (Below.refl _ _) (Nat.le_refl _) _) (by go_simp) _
  change Calls Tryz.prog 99 #[.agg #[.int .i64 x0, .int .i64 x1, .int .i64 x2], .agg #[.int .i64 y0, .int .i64 y1, .int .i64 y2]] w _
  by_cases a : x0 = y0
  · have ab : decide (x0 = y0) = true := decide_eq_true a
    by_cases b : x1 = y1
    · have bb : decide (x1 = y1) = true := decide_eq_true b
      have hr : Hid (decide (rLt (x0, x1, x2) (y0, y1, y2)) = decide (x2 < y2)) := Lib.hid (by rw [decide_eq_decide]; subst a b; simp [rLt])
      rw [hr.out]
      go_enter Tryz.func99, Tryz.ntmps99
      go_wp2
      go_ret
      exact ⟨rfl, two _ _⟩
    · have bb : decide (x1 = y1) = false := decide_eq_false b
      have hr : Hid (decide (rLt (x0, x1, x2) (y0, y1, y2)) = decide (x1 < y1)) := Lib.hid (by rw [decide_eq_decide]; subst a; simp [rLt, b])
      rw [hr.out]
      go_enter Tryz.func99, Tryz.ntmps99
      go_wp2
      go_ret
      exact ⟨rfl, two _ _⟩
  · have ab : decide (x0 = y0) = false := decide_eq_false a
    have hr : Hid (decide (rLt (x0, x1, x2) (y0, y1, y2)) = decide (x0 < y0)) := Lib.hid (by rw [decide_eq_decide]; simp [rLt, a])
    rw [hr.out]
    go_enter Tryz.func99, Tryz.ntmps99
    go_wp2
    go_ret
    exact ⟨rfl, two _ _⟩
end Go.Proofs.YtimlgclejaoboaaGreatDoor
