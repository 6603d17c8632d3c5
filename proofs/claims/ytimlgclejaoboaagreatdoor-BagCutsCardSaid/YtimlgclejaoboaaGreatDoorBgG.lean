/- Stage 4's seat: records and items that are formed, both sides. -/
import Derived.Test.YtimlgclejaoboaaGreatDoorBgC
import Derived.Test.YtimlgclejaoboaaGreatDoorBaM
namespace Go.Proofs.YtimlgclejaoboaaGreatDoor
open Go Go.RowKit Go.RecM
set_option maxRecDepth 100000
set_option maxHeartbeats 1000000

theorem within_any (n a b : Int) (w : World) : Calls Tryz.prog 104 #[.int .i64 n, .int .i64 a, .int .i64 b] w fun e w' => e = .returned (.bool (inB n a b)) ∧ w' = w := by
  by_cases h1 : a ≤ n
  · have h1b : decide (a ≤ n) = true := decide_eq_true h1
    by_cases h2 : n ≤ b
    · have h2b : decide (n ≤ b) = true := decide_eq_true h2
      go_enter Tryz.func104, Tryz.ntmps104
      go_wp2
      go_ret
      exact ⟨by unfold inB; rw [h1b, h2b]; rfl, rfl⟩
    · have h2b : decide (n ≤ b) = false := decide_eq_false h2
      go_enter Tryz.func104, Tryz.ntmps104
      go_wp2
      go_ret
      exact ⟨by unfold inB; rw [h1b, h2b]; rfl, rfl⟩
  · have h1b : decide (a ≤ n) = false := decide_eq_false h1
    go_enter Tryz.func104, Tryz.ntmps104
    go_wp2
    go_ret
    exact ⟨by unfold inB; rw [h1b]; rfl, rfl⟩

theorem in_any (n : Int) (w : World) : Calls Tryz.prog 108 #[.int .i64 n] w fun e w' => e = .returned (.bool (inB n (-1000000000) 1000000000)) ∧ w' = w := by
  by_cases h1 : (-1000000000) ≤ n
  · have h1b : decide ((-1000000000) ≤ n) = true := decide_eq_true h1
    by_cases h2 : n ≤ 1000000000
    · have h2b : decide (n ≤ 1000000000) = true := decide_eq_true h2
      go_enter Tryz.func108, Tryz.ntmps108
      go_wp2
      go_ret
      exact ⟨by unfold inB; rw [h1b, h2b]; rfl, rfl⟩
    · have h2b : decide (n ≤ 1000000000) = false := decide_eq_false h2
      go_enter Tryz.func108, Tryz.ntmps108
      go_wp2
      go_ret
      exact ⟨by unfold inB; rw [h1b, h2b]; rfl, rfl⟩
  · have h1b : decide ((-1000000000) ≤ n) = false := decide_eq_false h1
    go_enter Tryz.func108, Tryz.ntmps108
    go_wp2
    go_ret
    exact ⟨by unfold inB; rw [h1b]; rfl, rfl⟩

theorem isRecord_any (x : R3) (w : World) : Calls Tryz.prog 103 #[aggR x] w fun e w' => e = .returned (.bool (recFB x)) ∧ Below w.heap.size w w' := by
  obtain ⟨x0, x1, x2⟩ := x
  obtain ⟨p0, h0⟩ : ∃ p0, Hid (inB x0 0 200 = p0) := ⟨_, Lib.hid rfl⟩
  obtain ⟨p1, h1⟩ : ∃ p1, Hid (inB x1 (-1000000000) 1000000000 = p1) := ⟨_, Lib.hid rfl⟩
  obtain ⟨p2, h2⟩ : ∃ p2, Hid (inB x2 (-1000000000) 1000000000 = p2) := ⟨_, Lib.hid rfl⟩
  have c0 : ∀ w, Calls Tryz.prog 104 #[.int .i64 x0, .int .i64 0, .int .i64 200] w fun e w' => e = .returned (.bool p0) ∧ w' = w := fun w => by rw [← h0.out]; exact within_any _ _ _ w
  have c1 : ∀ w, Calls Tryz.prog 104 #[.int .i64 x1, .int .i64 (-1000000000), .int .i64 1000000000] w fun e w' => e = .returned (.bool p1) ∧ w' = w := fun w => by rw [← h1.out]; exact within_any _ _ _ w
  have c2 : ∀ w, Calls Tryz.prog 104 #[.int .i64 x2, .int .i64 (-1000000000), .int .i64 1000000000] w fun e w' => e = .returned (.bool p2) ∧ w' = w := fun w => by rw [← h2.out]; exact within_any _ _ _ w
  have hr : Hid (recFB (x0, x1, x2) = (p0 && (p1 && p2))) := Lib.hid (by unfold recFB; rw [h0.out, h1.out, h2.out])
  rw [hr.out]
  change Calls Tryz.prog 103 #[.agg #[.int .i64 x0, .int .i64 x1, .int .i64 x2]] w _
  cases p0 with
  | false =>
    go_enter Tryz.func103, Tryz.ntmps103
    go_wp2_with fail
    refine (c0 _).mono ?_
    rintro e w1 ⟨rfl, hw1⟩
    subst hw1
    go_wp2
    go_ret
    exact ⟨rfl, Below.alloc (Below.refl _ _) (Nat.le_refl _) _⟩
  | true =>
    cases p1 with
    | false =>
      go_enter Tryz.func103, Tryz.ntmps103
      go_wp2_with fail
      refine (c0 _).mono ?_
      rintro e w1 ⟨rfl, hw1⟩
      subst hw1
      go_wp2_with fail
      refine (c1 _).mono ?_
      rintro e w1 ⟨rfl, hw1⟩
      subst hw1
      go_wp2
      go_ret
      exact ⟨rfl, Below.alloc (Below.refl _ _) (Nat.le_refl _) _⟩
    | true =>
      go_enter Tryz.func103, Tryz.ntmps103
      go_wp2_with fail
      refine (c0 _).mono ?_
      rintro e w1 ⟨rfl, hw1⟩
      subst hw1
      go_wp2_with fail
      refine (c1 _).mono ?_
      rintro e w1 ⟨rfl, hw1⟩
      subst hw1
      go_wp2_with fail
      refine (c2 _).mono ?_
      rintro e w1 ⟨rfl, hw1⟩
      subst hw1
      go_wp2
      go_ret
      exact ⟨by cases p2 <;> rfl, Below.alloc (Below.refl _ _) (Nat.le_refl _) _⟩

theorem isItem_any (x : It) (w : World) : Calls Tryz.prog 59 #[aggI x] w fun e w' => e = .returned (.bool (itemB x)) ∧ Below w.heap.size w w' := by
  obtain ⟨⟨x0, x1, x2⟩, x3⟩ := x
  obtain ⟨p0, h0⟩ : ∃ p0, Hid (recFB (x0, x1, x2) = p0) := ⟨_, Lib.hid rfl⟩
  obtain ⟨p1, h1⟩ : ∃ p1, Hid (inB x3 (-1000000) 1000000 = p1) := ⟨_, Lib.hid rfl⟩
  have c0 : ∀ w, Calls Tryz.prog 103 #[.agg #[.int .i64 x0, .int .i64 x1, .int .i64 x2]] w fun e w' => e = .returned (.bool p0) ∧ Below w.heap.size w w' := fun w => by rw [← h0.out]; exact isRecord_any (x0, x1, x2) w
  have c1 : ∀ w, Calls Tryz.prog 104 #[.int .i64 x3, .int .i64 (-1000000), .int .i64 1000000] w fun e w' => e = .returned (.bool p1) ∧ w' = w := fun w => by rw [← h1.out]; exact within_any _ _ _ w
  have hr : Hid (itemB ((x0, x1, x2), x3) = (p0 && p1)) := Lib.hid (by unfold itemB; rw [h0.out, h1.out])
  rw [hr.out]
  change Calls Tryz.prog 59 #[.agg #[.int .i64 x0, .int .i64 x1, .int .i64 x2, .int .i64 x3]] w _
  cases p0 with
  | false =>
    go_enter Tryz.func59, Tryz.ntmps59
    go_wp2_with fail
    refine (c0 _).mono ?_
    rintro e w1 ⟨rfl, b1⟩
    go_wp2
    go_ret
    exact ⟨rfl, (Below.alloc (Below.refl _ _) (Nat.le_refl _) _).trans (b1.mono (by go_simp))⟩
  | true =>
    go_enter Tryz.func59, Tryz.ntmps59
    go_wp2_with fail
    refine (c0 _).mono ?_
    rintro e w1 ⟨rfl, b1⟩
    have hc : w1.cell? ⟨w.heap.size, 3, none⟩ = some (.int .i64 x3) := by
      rw [b1.cell (p := ⟨w.heap.size, 3, none⟩) (by go_simp)]; go_simp
    go_wp2_with (go_at_call 104; refine (c1 _).mono ?_; rintro e w' ⟨rfl, rfl⟩)
    go_ret
    exact ⟨by cases p1 <;> rfl, (Below.alloc (Below.refl _ _) (Nat.le_refl _) _).trans (b1.mono (by go_simp))⟩
end Go.Proofs.YtimlgclejaoboaaGreatDoor
