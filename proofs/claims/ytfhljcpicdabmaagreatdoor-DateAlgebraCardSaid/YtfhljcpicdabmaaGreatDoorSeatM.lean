/- The seat: DateDays, the walk. -/
import Derived.Test.YtfhljcpicdabmaaGreatDoorSeatL
import Derived.Test.YtfhljcpicdabmaaGreatDoorSeatD
namespace Go.Proofs.YtfhljcpicdabmaaGreatDoor
open Go Go.RowKit Go.DayM Go.Ev
set_option maxRecDepth 100000
set_option maxHeartbeats 1000000
theorem tabs_four : ∀ t ∈ tabs, t.1 < 4 := by
  intro t ht
  simp only [tabs, List.mem_cons, List.not_mem_nil, or_false] at ht
  rcases ht with rfl | rfl <;> simp [intTab]
theorem law_days_yy (y m d n : Int) (w : World) (hg : good y m d = true) (g1 : -9999 ≤ y) (g2 : y ≤ 9999) (m1 : 1 ≤ m) (m2 : m ≤ 12) (d1 : 1 ≤ d) (d2 : d ≤ 31) (hd : isDayB n = true) (n1 : -4382544 ≤ n) (n2 : n ≤ 2921939) (hA : Ahead w) (hT : Hid (TabsIn tabs w)) (h8 : 4 ≤ w.heap.size) :
    Calls Tryz.prog 3 #[.agg #[.int .i64 y, .int .i64 m, .int .i64 d], .int .i64 n] w fun e w' => e = .returned (.bool true) ∧ Below w.heap.size w w' := by
  have hA1 : Ahead (w.alloc (.cells #[.int .i64 y, .int .i64 m, .int .i64 d] 23)) := hA.below' ((Below.refl _ _).alloc (Nat.le_refl _) _)
  go_enter Tryz.func3, Tryz.ntmps3
  go_wp2_with fail
  refine (day_yes _ _ _ _ hg g1 g2 m1 m2 d1 d2 hA1).mono ?_
  rintro e w1 ⟨rfl, b1⟩
  obtain ⟨hc1, hf1⟩ := bcell b1
  have s1 : w.heap.size < w1.heap.size := by (have := b1.size; simp at this; omega)
  have k1 : Below w.heap.size w w1 := ((Below.refl _ _).alloc (Nat.le_refl _) _).trans (b1.mono (by simp))
  go_wp2_with fail
  refine (civil_yes _ _ hd n1 n2 (hA.below' k1)).mono ?_
  rintro e w2 ⟨y1, mm1, ho1, u1, u2, rfl, b2⟩
  obtain ⟨hc2, hf2⟩ := bcell b2
  have k2 : Below w.heap.size w w2 := k1.trans (b2.mono (by omega))
  have s2 : w1.heap.size ≤ w2.heap.size := b2.size
  have s12 : w.heap.size < w2.heap.size := by omega
  go_wp2_with fail
  refine (weekday_yes _ _ n1 n2).mono ?_
  rintro e w' ⟨rfl, rfl⟩
  go_wp2_with fail
  refine (dayR_yes _ _ _ _ hg g1 g2 m1 m2 d1 d2).mono ?_
  rintro e w3 ⟨rfl, b3⟩
  obtain ⟨hc3, hf3⟩ := bcell b3
  have k3 : Below w.heap.size w w3 := (k2.alloc (by omega) _).trans (b3.mono (by simp; omega))
  have s3 : w2.heap.size < w3.heap.size := by (have := b3.size; simp at this; omega)
  have s13 : w.heap.size < w3.heap.size := by omega
  go_wp2_with fail
  refine (civilR_yes _ _ hd n1 n2).mono ?_
  rintro e w4 ⟨y2, mm2, ho2, v1, v2, rfl, b4⟩
  obtain rfl := ho1.year ho2
  obtain rfl := ho1.month ho2
  obtain ⟨hc4, hf4⟩ := bcell b4
  have s4 : w3.heap.size ≤ w4.heap.size := b4.size
  have k4 : Below w.heap.size w w4 := k3.trans (b4.mono (by omega))
  have s14 : w.heap.size < w4.heap.size := by omega
  have s24 : w2.heap.size < w4.heap.size := by omega
  go_wp2_with fail
  refine (weekdayR_yes _ _ n1 n2).mono ?_
  rintro e w5 ⟨rfl, b5⟩
  obtain ⟨hc5, hf5⟩ := bcell b5
  have k5 : Below w.heap.size w w5 := (k4.alloc (by omega) _).trans (b5.mono (by simp; omega))
  have s5 : w4.heap.size < w5.heap.size := by (have := b5.size; simp at this; omega)
  have s15 : w.heap.size < w5.heap.size := by omega
  have s25 : w2.heap.size < w5.heap.size := by omega
  have s23 : w2.heap.size < w3.heap.size := by omega
  go_wp2_with fail
  refine (known_any _ (hT.out.below k5 (fun t ht => by have := tabs_four t ht; omega))).mono ?_
  rintro e w6 ⟨rfl, b6⟩
  go_wp2_with fail
  go_ret
  exact ⟨rfl, k5.trans (b6.mono (by omega))⟩
theorem law_days_yn (y m d n : Int) (w : World) (hg : good y m d = true) (g1 : -9999 ≤ y) (g2 : y ≤ 9999) (m1 : 1 ≤ m) (m2 : m ≤ 12) (d1 : 1 ≤ d) (d2 : d ≤ 31) (hd : isDayB n = false) (hA : Ahead w) (hT : Hid (TabsIn tabs w)) (h8 : 4 ≤ w.heap.size) :
    Calls Tryz.prog 3 #[.agg #[.int .i64 y, .int .i64 m, .int .i64 d], .int .i64 n] w fun e w' => e = .returned (.bool true) ∧ Below w.heap.size w w' := by
  have hA1 : Ahead (w.alloc (.cells #[.int .i64 y, .int .i64 m, .int .i64 d] 23)) := hA.below' ((Below.refl _ _).alloc (Nat.le_refl _) _)
  go_enter Tryz.func3, Tryz.ntmps3
  go_wp2_with fail
  refine (day_yes _ _ _ _ hg g1 g2 m1 m2 d1 d2 hA1).mono ?_
  rintro e w1 ⟨rfl, b1⟩
  obtain ⟨hc1, hf1⟩ := bcell b1
  have s1 : w.heap.size < w1.heap.size := by (have := b1.size; simp at this; omega)
  have k1 : Below w.heap.size w w1 := ((Below.refl _ _).alloc (Nat.le_refl _) _).trans (b1.mono (by simp))
  go_wp2_with fail
  refine (civil_no _ _ hd).mono ?_
  rintro e w2 ⟨rfl, b2⟩
  obtain ⟨hc2, hf2⟩ := bcell b2
  have k2 : Below w.heap.size w w2 := k1.trans (b2.mono (by omega))
  have s2 : w1.heap.size ≤ w2.heap.size := b2.size
  have s12 : w.heap.size < w2.heap.size := by omega
  go_wp2_with fail
  refine (weekday_no _ _ hd).mono ?_
  rintro e w' ⟨rfl, rfl⟩
  go_wp2_with fail
  refine (dayR_yes _ _ _ _ hg g1 g2 m1 m2 d1 d2).mono ?_
  rintro e w3 ⟨rfl, b3⟩
  obtain ⟨hc3, hf3⟩ := bcell b3
  have k3 : Below w.heap.size w w3 := (k2.alloc (by omega) _).trans (b3.mono (by simp; omega))
  have s3 : w2.heap.size < w3.heap.size := by (have := b3.size; simp at this; omega)
  have s13 : w.heap.size < w3.heap.size := by omega
  go_wp2_with fail
  refine (civilR_no _ _ hd).mono ?_
  rintro e w4 ⟨rfl, b4⟩
  obtain ⟨hc4, hf4⟩ := bcell b4
  have s4 : w3.heap.size ≤ w4.heap.size := b4.size
  have k4 : Below w.heap.size w w4 := k3.trans (b4.mono (by omega))
  have s14 : w.heap.size < w4.heap.size := by omega
  have s24 : w2.heap.size < w4.heap.size := by omega
  go_wp2_with fail
  refine (weekdayR_no _ _ hd).mono ?_
  rintro e w5 ⟨rfl, b5⟩
  obtain ⟨hc5, hf5⟩ := bcell b5
  have k5 : Below w.heap.size w w5 := (k4.alloc (by omega) _).trans (b5.mono (by simp; omega))
  have s5 : w4.heap.size < w5.heap.size := by (have := b5.size; simp at this; omega)
  have s15 : w.heap.size < w5.heap.size := by omega
  have s25 : w2.heap.size < w5.heap.size := by omega
  have s23 : w2.heap.size < w3.heap.size := by omega
  go_wp2_with fail
  refine (known_any _ (hT.out.below k5 (fun t ht => by have := tabs_four t ht; omega))).mono ?_
  rintro e w6 ⟨rfl, b6⟩
  go_wp2_with fail
  go_ret
  exact ⟨rfl, k5.trans (b6.mono (by omega))⟩
theorem law_days_ny (y m d n : Int) (w : World) (hg : good y m d = false) (hd : isDayB n = true) (n1 : -4382544 ≤ n) (n2 : n ≤ 2921939) (hA : Ahead w) (hT : Hid (TabsIn tabs w)) (h8 : 4 ≤ w.heap.size) :
    Calls Tryz.prog 3 #[.agg #[.int .i64 y, .int .i64 m, .int .i64 d], .int .i64 n] w fun e w' => e = .returned (.bool true) ∧ Below w.heap.size w w' := by
  have hA1 : Ahead (w.alloc (.cells #[.int .i64 y, .int .i64 m, .int .i64 d] 23)) := hA.below' ((Below.refl _ _).alloc (Nat.le_refl _) _)
  go_enter Tryz.func3, Tryz.ntmps3
  go_wp2_with fail
  refine (day_no _ _ _ _ hg hA1).mono ?_
  rintro e w1 ⟨rfl, b1⟩
  obtain ⟨hc1, hf1⟩ := bcell b1
  have s1 : w.heap.size < w1.heap.size := by (have := b1.size; simp at this; omega)
  have k1 : Below w.heap.size w w1 := ((Below.refl _ _).alloc (Nat.le_refl _) _).trans (b1.mono (by simp))
  go_wp2_with fail
  refine (civil_yes _ _ hd n1 n2 (hA.below' k1)).mono ?_
  rintro e w2 ⟨y1, mm1, ho1, u1, u2, rfl, b2⟩
  obtain ⟨hc2, hf2⟩ := bcell b2
  have k2 : Below w.heap.size w w2 := k1.trans (b2.mono (by omega))
  have s2 : w1.heap.size ≤ w2.heap.size := b2.size
  have s12 : w.heap.size < w2.heap.size := by omega
  go_wp2_with fail
  refine (weekday_yes _ _ n1 n2).mono ?_
  rintro e w' ⟨rfl, rfl⟩
  go_wp2_with fail
  refine (dayR_no _ _ _ _ hg).mono ?_
  rintro e w3 ⟨rfl, b3⟩
  obtain ⟨hc3, hf3⟩ := bcell b3
  have k3 : Below w.heap.size w w3 := (k2.alloc (by omega) _).trans (b3.mono (by simp; omega))
  have s3 : w2.heap.size < w3.heap.size := by (have := b3.size; simp at this; omega)
  have s13 : w.heap.size < w3.heap.size := by omega
  go_wp2_with fail
  refine (civilR_yes _ _ hd n1 n2).mono ?_
  rintro e w4 ⟨y2, mm2, ho2, v1, v2, rfl, b4⟩
  obtain rfl := ho1.year ho2
  obtain rfl := ho1.month ho2
  obtain ⟨hc4, hf4⟩ := bcell b4
  have s4 : w3.heap.size ≤ w4.heap.size := b4.size
  have k4 : Below w.heap.size w w4 := k3.trans (b4.mono (by omega))
  have s14 : w.heap.size < w4.heap.size := by omega
  have s24 : w2.heap.size < w4.heap.size := by omega
  go_wp2_with fail
  refine (weekdayR_yes _ _ n1 n2).mono ?_
  rintro e w5 ⟨rfl, b5⟩
  obtain ⟨hc5, hf5⟩ := bcell b5
  have k5 : Below w.heap.size w w5 := (k4.alloc (by omega) _).trans (b5.mono (by simp; omega))
  have s5 : w4.heap.size < w5.heap.size := by (have := b5.size; simp at this; omega)
  have s15 : w.heap.size < w5.heap.size := by omega
  have s25 : w2.heap.size < w5.heap.size := by omega
  have s23 : w2.heap.size < w3.heap.size := by omega
  go_wp2_with fail
  refine (known_any _ (hT.out.below k5 (fun t ht => by have := tabs_four t ht; omega))).mono ?_
  rintro e w6 ⟨rfl, b6⟩
  go_wp2_with fail
  go_ret
  exact ⟨rfl, k5.trans (b6.mono (by omega))⟩
theorem law_days_nn (y m d n : Int) (w : World) (hg : good y m d = false) (hd : isDayB n = false) (hA : Ahead w) (hT : Hid (TabsIn tabs w)) (h8 : 4 ≤ w.heap.size) :
    Calls Tryz.prog 3 #[.agg #[.int .i64 y, .int .i64 m, .int .i64 d], .int .i64 n] w fun e w' => e = .returned (.bool true) ∧ Below w.heap.size w w' := by
  have hA1 : Ahead (w.alloc (.cells #[.int .i64 y, .int .i64 m, .int .i64 d] 23)) := hA.below' ((Below.refl _ _).alloc (Nat.le_refl _) _)
  go_enter Tryz.func3, Tryz.ntmps3
  go_wp2_with fail
  refine (day_no _ _ _ _ hg hA1).mono ?_
  rintro e w1 ⟨rfl, b1⟩
  obtain ⟨hc1, hf1⟩ := bcell b1
  have s1 : w.heap.size < w1.heap.size := by (have := b1.size; simp at this; omega)
  have k1 : Below w.heap.size w w1 := ((Below.refl _ _).alloc (Nat.le_refl _) _).trans (b1.mono (by simp))
  go_wp2_with fail
  refine (civil_no _ _ hd).mono ?_
  rintro e w2 ⟨rfl, b2⟩
  obtain ⟨hc2, hf2⟩ := bcell b2
  have k2 : Below w.heap.size w w2 := k1.trans (b2.mono (by omega))
  have s2 : w1.heap.size ≤ w2.heap.size := b2.size
  have s12 : w.heap.size < w2.heap.size := by omega
  go_wp2_with fail
  refine (weekday_no _ _ hd).mono ?_
  rintro e w' ⟨rfl, rfl⟩
  go_wp2_with fail
  refine (dayR_no _ _ _ _ hg).mono ?_
  rintro e w3 ⟨rfl, b3⟩
  obtain ⟨hc3, hf3⟩ := bcell b3
  have k3 : Below w.heap.size w w3 := (k2.alloc (by omega) _).trans (b3.mono (by simp; omega))
  have s3 : w2.heap.size < w3.heap.size := by (have := b3.size; simp at this; omega)
  have s13 : w.heap.size < w3.heap.size := by omega
  go_wp2_with fail
  refine (civilR_no _ _ hd).mono ?_
  rintro e w4 ⟨rfl, b4⟩
  obtain ⟨hc4, hf4⟩ := bcell b4
  have s4 : w3.heap.size ≤ w4.heap.size := b4.size
  have k4 : Below w.heap.size w w4 := k3.trans (b4.mono (by omega))
  have s14 : w.heap.size < w4.heap.size := by omega
  have s24 : w2.heap.size < w4.heap.size := by omega
  go_wp2_with fail
  refine (weekdayR_no _ _ hd).mono ?_
  rintro e w5 ⟨rfl, b5⟩
  obtain ⟨hc5, hf5⟩ := bcell b5
  have k5 : Below w.heap.size w w5 := (k4.alloc (by omega) _).trans (b5.mono (by simp; omega))
  have s5 : w4.heap.size < w5.heap.size := by (have := b5.size; simp at this; omega)
  have s15 : w.heap.size < w5.heap.size := by omega
  have s25 : w2.heap.size < w5.heap.size := by omega
  have s23 : w2.heap.size < w3.heap.size := by omega
  go_wp2_with fail
  refine (known_any _ (hT.out.below k5 (fun t ht => by have := tabs_four t ht; omega))).mono ?_
  rintro e w6 ⟨rfl, b6⟩
  go_wp2_with fail
  go_ret
  exact ⟨rfl, k5.trans (b6.mono (by omega))⟩
theorem law_days (y m d n : Int) (w : World) (hA : Ahead w) (hT : Hid (TabsIn tabs w)) (h8 : 4 ≤ w.heap.size) :
    Calls Tryz.prog 3 #[.agg #[.int .i64 y, .int .i64 m, .int .i64 d], .int .i64 n] w fun e w' => e = .returned (.bool true) ∧ Below w.heap.size w w' := by
  cases hd : isDayB n with
  | true =>
    have hn : -4382544 ≤ n ∧ n ≤ 2921939 := by unfold isDayB at hd; simp at hd; omega
    cases hg : good y m d with
    | true =>
      have h := (good_iff y m d).1 hg
      have s := da_step y m h.2.2.1 h.2.2.2.1
      exact law_days_yy y m d n w hg h.1 h.2.1 h.2.2.1 h.2.2.2.1 h.2.2.2.2.1 (by omega) hd hn.1 hn.2 hA hT h8
    | false => exact law_days_ny y m d n w hg hd hn.1 hn.2 hA hT h8
  | false =>
    cases hg : good y m d with
    | true =>
      have h := (good_iff y m d).1 hg
      have s := da_step y m h.2.2.1 h.2.2.2.1
      exact law_days_yn y m d n w hg h.1 h.2.1 h.2.2.1 h.2.2.2.1 h.2.2.2.2.1 (by omega) hd hA hT h8
    | false => exact law_days_nn y m d n w hg hd hA hT h8
end Go.Proofs.YtfhljcpicdabmaaGreatDoor
#print axioms Go.Proofs.YtfhljcpicdabmaaGreatDoor.law_days
