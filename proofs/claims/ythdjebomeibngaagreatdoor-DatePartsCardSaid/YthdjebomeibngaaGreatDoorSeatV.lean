/- The seat: DateMonths, walked for every input. -/
import Derived.Test.YthdjebomeibngaaGreatDoorSeatSu
import Derived.Test.YthdjebomeibngaaGreatDoorSeatM
namespace Go.Proofs.YthdjebomeibngaaGreatDoor
open Go Go.RowKit Go.DayM Go.Ev
set_option maxRecDepth 100000
set_option maxHeartbeats 2000000
/-- Both sides answer alike: the months that are added. -/
theorem add_both (y m d n : Int) : ∃ Y M D E : Int,
    (∀ w, Ahead w → Calls Tryz.prog 30 #[.agg #[.int .i64 y, .int .i64 m, .int .i64 d], .int .i64 n] w fun e w' => e = .returned (.tuple #[.agg #[.int .i64 Y, .int .i64 M, .int .i64 D], .int .i64 E]) ∧ Below w.heap.size w w') ∧
    (∀ w, Calls Tryz.prog 32 #[.agg #[.int .i64 y, .int .i64 m, .int .i64 d], .int .i64 n] w fun e w' => e = .returned (.tuple #[.agg #[.int .i64 Y, .int .i64 M, .int .i64 D], .int .i64 E]) ∧ Below w.heap.size w w') := by
  cases hg : good y m d with
  | false => exact ⟨0, 0, 0, 2, fun w hA => add_bad y m d n w hg hA, fun w => addR_bad y m d n w hg⟩
  | true =>
    obtain ⟨g1, g2, m1, m2, d1, _⟩ := (good_iff y m d).1 hg
    cases hk : inOK (y * 12 + m - 1 + n) with
    | false =>
      refine ⟨0, 0, 0, 3, fun w hA => add_long y m d n w hg g1 g2 m1 m2 hA ?_, fun w => addR_long y m d n w hg g1 g2 m1 m2 hk⟩
      unfold inOK at hk
      rcases Int.lt_or_le n (-119988 - (y * 12 + m - 1)) with h | h
      · exact .inl h
      · rcases Int.lt_or_le (119999 - (y * 12 + m - 1)) n with h' | h'
        · exact .inr h'
        · simp at hk; omega
    | true =>
      have hb : -119988 ≤ y * 12 + m - 1 + n ∧ y * 12 + m - 1 + n ≤ 119999 := by unfold inOK at hk; simpa using hk
      exact ⟨_, _, _, 0, fun w hA => add_yes y m d n w hg g1 g2 m1 m2 hA (by omega) (by omega), fun w => addR_yes y m d n w hg g1 g2 m1 m2 hk⟩
/-- Both sides answer alike: the months since a date. -/
theorem since_both (y m d y' m' d' : Int) : ∃ N D E : Int,
    (∀ w, Ahead w → Calls Tryz.prog 31 #[.agg #[.int .i64 y, .int .i64 m, .int .i64 d], .agg #[.int .i64 y', .int .i64 m', .int .i64 d']] w fun e w' => e = .returned (.tuple #[.int .i64 N, .int .i64 D, .int .i64 E]) ∧ Below w.heap.size w w') ∧
    (∀ w, Calls Tryz.prog 33 #[.agg #[.int .i64 y, .int .i64 m, .int .i64 d], .agg #[.int .i64 y', .int .i64 m', .int .i64 d']] w fun e w' => e = .returned (.tuple #[.int .i64 N, .int .i64 D, .int .i64 E]) ∧ Below w.heap.size w w') := by
  cases hg : good y m d with
  | false => exact ⟨0, 0, 2, fun w hA => since_bad y m d y' m' d' w hA (.inl hg), fun w => sinceR_bad y m d y' m' d' w (.inl hg)⟩
  | true =>
    cases hg' : good y' m' d' with
    | false => exact ⟨0, 0, 2, fun w hA => since_bad y m d y' m' d' w hA (.inr hg'), fun w => sinceR_bad y m d y' m' d' w (.inr hg')⟩
    | true =>
      obtain ⟨g1, g2, m1, m2, d1, d2'⟩ := (good_iff y m d).1 hg
      obtain ⟨g1', g2', m1', m2', d1', d2''⟩ := (good_iff y' m' d').1 hg'
      have s := da_step y m m1 m2
      have s' := da_step y' m' m1' m2'
      have d2 : d ≤ 31 := by omega
      have e2 : d' ≤ 31 := by omega
      rcases Int.lt_or_le (dayOf y' m' d') (dayOf y m d) with h | h
      · exact ⟨0, 0, 7, fun w hA => since_rule y m d y' m' d' w hA hg hg' g1 g2 m1 m2 d1 d2 g1' g2' m1' m2' d1' e2 h, fun w => sinceR_rule y m d y' m' d' w hg hg' g1 g2 m1 m2 d1 d2 g1' g2' m1' m2' d1' e2 h⟩
      · rcases Int.lt_or_le (dayOf y' m' d') (dIn (y' * 12 + m' - 1) d) with h2 | h2
        · exact ⟨_, _, 0, fun w hA => since_yes1 y m d y' m' d' w hA hg hg' g1 g2 m1 m2 d1 d2 g1' g2' m1' m2' d1' e2 h h2, fun w => sinceR_yes1 y m d y' m' d' w hg hg' g1 g2 m1 m2 d1 d2 g1' g2' m1' m2' d1' e2 h h2⟩
        · exact ⟨_, _, 0, fun w hA => since_yes0 y m d y' m' d' w hA hg hg' g1 g2 m1 m2 d1 d2 g1' g2' m1' m2' d1' e2 h h2, fun w => sinceR_yes0 y m d y' m' d' w hg hg' g1 g2 m1 m2 d1 d2 g1' g2' m1' m2' d1' e2 h h2⟩
theorem law_months (y m d y' m' d' n : Int) (w : World) (hA : Ahead w) (hT : Hid (TabsIn tabs w)) (h8 : 4 ≤ w.heap.size) :
    Calls Tryz.prog 5 #[.agg #[.int .i64 y, .int .i64 m, .int .i64 d], .agg #[.int .i64 y', .int .i64 m', .int .i64 d'], .int .i64 n] w fun e w' => e = .returned (.bool true) ∧ Below w.heap.size w w' := by
  obtain ⟨Y, M, D, E, ha, haR⟩ := add_both y m d n
  obtain ⟨N, L, F, hs, hsR⟩ := since_both y m d y' m' d'
  have k0 : Below w.heap.size w ((w.alloc (.cells #[.int .i64 y, .int .i64 m, .int .i64 d] 23)).alloc (.cells #[.int .i64 y', .int .i64 m', .int .i64 d'] 23)) := ((Below.refl _ _).alloc (Nat.le_refl _) _).alloc (by simp) _
  go_enter Tryz.func5, Tryz.ntmps5
  go_wp2_with fail
  refine (ha _ (hA.below' k0)).mono ?_
  rintro e w1 ⟨rfl, b1⟩
  obtain ⟨hc1, hf1⟩ := bcell b1
  have s1 : w.heap.size + 1 < w1.heap.size := by (have := b1.size; simp at this; omega)
  have s0 : w.heap.size < w1.heap.size := by omega
  have k1 : Below w.heap.size w w1 := k0.trans (b1.mono (by simp; omega))
  go_wp2_with fail
  refine (hs _ (hA.below' (k1.alloc (by omega) _))).mono ?_
  rintro e w2 ⟨rfl, b2⟩
  obtain ⟨hc2, hf2⟩ := bcell b2
  have s2 : w1.heap.size < w2.heap.size := by (have := b2.size; simp at this; omega)
  have s02 : w.heap.size < w2.heap.size := by omega
  have s12 : w.heap.size + 1 < w2.heap.size := by omega
  have k2 : Below w.heap.size w w2 := (k1.alloc (by omega) _).trans (b2.mono (by simp; omega))
  go_wp2_with fail
  refine (haR _).mono ?_
  rintro e w3 ⟨rfl, b3⟩
  obtain ⟨hc3, hf3⟩ := bcell b3
  have s3 := b3.size
  have s03 : w.heap.size < w3.heap.size := by omega
  have s13 : w.heap.size + 1 < w3.heap.size := by omega
  have s23 : w1.heap.size < w3.heap.size := by omega
  have k3 : Below w.heap.size w w3 := k2.trans (b3.mono (by omega))
  go_wp2_with fail
  refine (hsR _).mono ?_
  rintro e w4 ⟨rfl, b4⟩
  obtain ⟨hc4, hf4⟩ := bcell b4
  have s4 : w3.heap.size < w4.heap.size := by (have := b4.size; simp at this; omega)
  have s04 : w.heap.size < w4.heap.size := by omega
  have s14 : w.heap.size + 1 < w4.heap.size := by omega
  have s24 : w1.heap.size < w4.heap.size := by omega
  have k4 : Below w.heap.size w w4 := (k3.alloc (by omega) _).trans (b4.mono (by simp; omega))
  go_wp2_with fail
  refine (known_any _ (hT.out.below k4 (fun t ht => by have := tabs_four t ht; omega))).mono ?_
  rintro e w6 ⟨rfl, b6⟩
  go_wp2_with fail
  go_ret
  exact ⟨rfl, k4.trans (b6.mono (by omega))⟩
end Go.Proofs.YthdjebomeibngaaGreatDoor
