/- The seat: DateWeeks, walked for every input. -/
import Derived.Test.YthdjebomeibngaaGreatDoorSeatZs
import Derived.Test.YthdjebomeibngaaGreatDoorSeatM
namespace Go.Proofs.YthdjebomeibngaaGreatDoor
open Go Go.RowKit Go.DayM Go.Ev
set_option maxRecDepth 100000
set_option maxHeartbeats 2000000
theorem week_both (n : Int) : ∃ Y W D E : Int,
    (∀ w, Ahead w → Calls Tryz.prog 26 #[.int .i64 n] w fun e w' => e = .returned (.tuple #[.agg #[.int .i64 Y, .int .i64 W, .int .i64 D], .int .i64 E]) ∧ Below w.heap.size w w') ∧
    (∀ w, Calls Tryz.prog 28 #[.int .i64 n] w fun e w' => e = .returned (.tuple #[.agg #[.int .i64 Y, .int .i64 W, .int .i64 D], .int .i64 E]) ∧ Below w.heap.size w w') := by
  cases hd : isDayB n with
  | false => exact ⟨0, 0, 0, 2, fun w _ => week_no n w hd, fun w => weekR_no n w hd⟩
  | true =>
    have hn : -4382544 ≤ n ∧ n ≤ 2921939 := by unfold isDayB at hd; simp at hd; omega
    exact ⟨_, _, _, 0, fun w hA => (week_yes n w hd hn.1 hn.2 hA).mono fun e w' ⟨a, _, _, _, b⟩ => ⟨a, b⟩, fun w => weekR_yes n w hd hn.1 hn.2⟩
theorem ofWeek_both (Y W D : Int) : ∃ A E : Int,
    (∀ w, Ahead w → Calls Tryz.prog 27 #[.agg #[.int .i64 Y, .int .i64 W, .int .i64 D]] w fun e w' => e = .returned (.tuple #[.int .i64 A, .int .i64 E]) ∧ Below w.heap.size w w') ∧
    (∀ w, Calls Tryz.prog 29 #[.agg #[.int .i64 Y, .int .i64 W, .int .i64 D]] w fun e w' => e = .returned (.tuple #[.int .i64 A, .int .i64 E]) ∧ Below w.heap.size w w') := by
  by_cases h1 : W < 0 ∨ D < 0 ∨ 7 ≤ D
  · exact ⟨0, 2, fun w _ => ofWeek_arg Y W D w h1, fun w => ofWeekR_arg Y W D w h1⟩
  · by_cases h2 : Y < -9999 ∨ 9999 < Y ∨ 53 < W
    · exact ⟨0, 5, fun w _ => ofWeek_none Y W D w (by omega) (by omega) (by omega) h2, fun w => ofWeekR_none Y W D w (by omega) (by omega) (by omega) h2⟩
    · by_cases h3 : IsWeek Y W D
      · refine ⟨_, 0, fun w hA => ofWeek_is Y W D w hA (by omega) (by omega) (by omega) (by omega) (by omega) (by omega) h3, fun w => (ofWeekR_any Y W D w (by omega) (by omega) (by omega) (by omega) (by omega) (by omega)).mono fun e w' ⟨h, b⟩ => ⟨?_, b⟩⟩
        rcases h with ⟨_, h⟩ | ⟨h, _⟩
        · exact h
        · exact (h h3).elim
      · refine ⟨0, 5, fun w hA => ofWeek_no Y W D w hA (by omega) (by omega) (by omega) (by omega) (by omega) (by omega) h3, fun w => (ofWeekR_any Y W D w (by omega) (by omega) (by omega) (by omega) (by omega) (by omega)).mono fun e w' ⟨h, b⟩ => ⟨?_, b⟩⟩
        rcases h with ⟨h, _⟩ | ⟨_, h⟩
        · exact (h3 h).elim
        · exact h
theorem law_weeks (n Y W D : Int) (w : World) (hA : Ahead w) (hT : Hid (TabsIn tabs w)) (h8 : 4 ≤ w.heap.size) :
    Calls Tryz.prog 4 #[.int .i64 n, .agg #[.int .i64 Y, .int .i64 W, .int .i64 D]] w fun e w' => e = .returned (.bool true) ∧ Below w.heap.size w w' := by
  obtain ⟨P1, P2, P3, P4, ha, haR⟩ := week_both n
  obtain ⟨Q1, Q2, hs, hsR⟩ := ofWeek_both Y W D
  have k0 : Below w.heap.size w (w.alloc (.cells #[.int .i64 Y, .int .i64 W, .int .i64 D] 33)) := (Below.refl _ _).alloc (Nat.le_refl _) _
  go_enter Tryz.func4, Tryz.ntmps4
  go_wp2_with fail
  refine (ha _ (hA.below' k0)).mono ?_
  rintro e w1 ⟨rfl, b1⟩
  obtain ⟨hc1, hf1⟩ := bcell b1
  have s1 : w.heap.size < w1.heap.size := by (have := b1.size; simp at this; omega)
  have k1 : Below w.heap.size w w1 := k0.trans (b1.mono (by simp))
  go_wp2_with fail
  refine (hs _ (hA.below' (k1.alloc (by omega) _))).mono ?_
  rintro e w2 ⟨rfl, b2⟩
  obtain ⟨hc2, hf2⟩ := bcell b2
  have s2 : w1.heap.size < w2.heap.size := by (have := b2.size; simp at this; omega)
  have s02 : w.heap.size < w2.heap.size := by omega
  have k2 : Below w.heap.size w w2 := (k1.alloc (by omega) _).trans (b2.mono (by simp; omega))
  go_wp2_with fail
  refine (haR _).mono ?_
  rintro e w3 ⟨rfl, b3⟩
  obtain ⟨hc3, hf3⟩ := bcell b3
  have s3 := b3.size
  have s03 : w.heap.size < w3.heap.size := by omega
  have s13 : w1.heap.size < w3.heap.size := by omega
  have k3 : Below w.heap.size w w3 := k2.trans (b3.mono (by omega))
  go_wp2_with fail
  refine (hsR _).mono ?_
  rintro e w4 ⟨rfl, b4⟩
  obtain ⟨hc4, hf4⟩ := bcell b4
  have s4 : w3.heap.size < w4.heap.size := by (have := b4.size; simp at this; omega)
  have s04 : w.heap.size < w4.heap.size := by omega
  have s14 : w1.heap.size < w4.heap.size := by omega
  have k4 : Below w.heap.size w w4 := (k3.alloc (by omega) _).trans (b4.mono (by simp; omega))
  go_wp2_with fail
  refine (known_any _ (hT.out.below k4 (fun t ht => by have := tabs_four t ht; omega))).mono ?_
  rintro e w6 ⟨rfl, b6⟩
  go_wp2_with fail
  go_ret
  exact ⟨rfl, k4.trans (b6.mono (by omega))⟩
end Go.Proofs.YthdjebomeibngaaGreatDoor
