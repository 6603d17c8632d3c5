/- The seat: DateFollows, walked for every input. -/
import Derived.Test.YthdjebomeibngaaGreatDoorSeatFd
namespace Go.Proofs.YthdjebomeibngaaGreatDoor
open Go Go.RowKit Go.DayM Go.Ev
set_option maxRecDepth 100000
set_option maxHeartbeats 1000000
theorem civil_is {n y m : Int} (hd : isDayB n = true) (h1 : -4382544 ≤ n) (h2 : n ≤ 2921939) (ho : Of n y m) (w : World) (hA : Ahead w) : Calls Tryz.prog 20 #[.int .i64 n] w fun e w' => e = .returned (.tuple #[.agg #[.int .i64 y, .int .i64 m, .int .i64 (n - ys y - da y m + 1)], .int .i64 0]) ∧ Below w.heap.size w w' :=
  (civil_yes n w hd h1 h2 hA).mono fun e w' ⟨y', m', o, _, _, he, hb⟩ => by
    have e1 := ho.year o
    subst e1
    have e2 := ho.month o
    subst e2
    exact ⟨he, hb⟩
theorem isDayB_iff (n : Int) : isDayB n = true ↔ (-4382544 ≤ n ∧ n ≤ 2921939) := by unfold isDayB; simp; omega
theorem isDayB_not {n : Int} (h : ¬ (-4382544 ≤ n ∧ n ≤ 2921939)) : isDayB n = false := by
  cases hd : isDayB n with
  | false => rfl
  | true => exact (h ((isDayB_iff n).1 hd)).elim
theorem law_follows (n : Int) (w : World) (hA : Ahead w) (hT : Hid (TabsIn tabs w)) (h8 : 4 ≤ w.heap.size) :
    Calls Tryz.prog 11 #[.int .i64 n] w fun e w' => e = .returned (.bool true) ∧ Below w.heap.size w w' := by
  by_cases hn : -4382544 ≤ n ∧ n ≤ 2921939
  · have hd := (isDayB_iff n).2 hn
    obtain ⟨y, m, ho⟩ := of_ex hn.1 hn.2
    obtain ⟨y1, y2⟩ := of_bd ho hn.1 hn.2
    have m1 := ho.m1
    have m2 := ho.m2
    have hg := good_of ho y1 y2
    obtain ⟨dd, hdd⟩ : ∃ dd : Int, dd = n - ys y - da y m + 1 := ⟨_, rfl⟩
    have hday : dayOf y m dd = n := by rw [hdd]; exact dayOf_of
    rw [← hdd] at hg
    have d1 : 1 ≤ dd := by have := ho.d1; omega
    have dl : dd ≤ len y m := by unfold len; have := ho.d2; omega
    have d2 := len_bd y m m1 m2
    have hv := wd_bd n
    have hC : ∀ w, Ahead w → Calls Tryz.prog 20 #[.int .i64 n] w fun e w' => e = .returned (.tuple #[.agg #[.int .i64 y, .int .i64 m, .int .i64 dd], .int .i64 0]) ∧ Below w.heap.size w w' := fun w hA => by rw [hdd]; exact civil_is hd hn.1 hn.2 ho w hA
    have hD : ∀ w, Ahead w → Calls Tryz.prog 19 #[.agg #[.int .i64 y, .int .i64 m, .int .i64 dd]] w fun e w' => e = .returned (.tuple #[.int .i64 n, .int .i64 0]) ∧ Below w.heap.size w w' := fun w hA => by
      have := day_yes y m dd w hg y1 y2 m1 m2 d1 (by omega) hA
      rw [hday] at this
      exact this
    have hW : ∀ w, Calls Tryz.prog 21 #[.int .i64 n] w fun e w' => e = .returned (.tuple #[.int .i64 (wd n), .int .i64 0]) ∧ w = w' := fun w => weekday_yes n w hn.1 hn.2
    have hG : ∀ w, Calls Tryz.prog 65 #[.agg #[.int .i64 y, .int .i64 m, .int .i64 dd]] w fun e w' => e = .returned (.bool true) ∧ Below w.heap.size w w' := fun w => by
      have := goodR_any y m dd w
      rw [hg] at this
      exact this
    obtain ⟨t1, t2⟩ := th_bd hn.1 hn.2
    obtain ⟨yt, mt, hot⟩ := of_ex t1 t2
    have hK := week_bd hot
    have hYb := of_bd hot t1 t2
    rw [← week_year hot] at hYb
    have hisn : n = wkC (wY n) (wW n) (wd n) := week_is hn.1 hn.2 rfl rfl rfl
    have hisw : IsWeek (wY n) (wW n) (wd n) := by unfold IsWeek; rw [← hisn]; exact ⟨hd, rfl, rfl, rfl⟩
    have hKc : ∀ w, Ahead w → Calls Tryz.prog 26 #[.int .i64 n] w fun e w' => e = .returned (.tuple #[.agg #[.int .i64 (wY n), .int .i64 (wW n), .int .i64 (wd n)], .int .i64 0]) ∧ Below w.heap.size w w' := fun w hA => (week_yes n w hd hn.1 hn.2 hA).mono fun e w' ⟨a, _, _, _, b⟩ => ⟨a, b⟩
    have hO : ∀ w, Ahead w → Calls Tryz.prog 27 #[.agg #[.int .i64 (wY n), .int .i64 (wW n), .int .i64 (wd n)]] w fun e w' => e = .returned (.tuple #[.int .i64 n, .int .i64 0]) ∧ Below w.heap.size w w' := fun w hA => by
      have := ofWeek_is (wY n) (wW n) (wd n) w hA (by omega) (by omega) (by omega) hYb.1 hYb.2 hK.2 hisw
      rw [← hisn] at this
      exact this
    by_cases h1 : n + 1 ≤ 2921939
    · have hd1 : isDayB (n + 1) = true := (isDayB_iff _).2 ⟨by omega, h1⟩
      have next : ∃ Y M D : Int, (∀ w, Ahead w → Calls Tryz.prog 20 #[.int .i64 (n + 1)] w fun e w' => e = .returned (.tuple #[.agg #[.int .i64 Y, .int .i64 M, .int .i64 D], .int .i64 0]) ∧ Below w.heap.size w w') ∧ (∀ w, Calls Tryz.prog 66 #[.agg #[.int .i64 y, .int .i64 m, .int .i64 dd], .agg #[.int .i64 Y, .int .i64 M, .int .i64 D]] w fun e w' => e = .returned (.bool true) ∧ Below w.heap.size w w') := by
        rcases Int.lt_or_le dd (len y m) with hlt | hge
        · have o1 := of_day ho (by omega)
          refine ⟨y, m, dd + 1, fun w hA => ?_, fun w => follows_day y m dd w y1 y2 m1 m2 d1 hlt⟩
          have := civil_is hd1 (by omega) h1 o1 w hA
          rw [show n + 1 - ys y - da y m + 1 = dd + 1 by omega] at this
          exact this
        · have hdl : dd = len y m := by omega
          rcases Int.lt_or_le m 12 with hm | hm
          · have o1 := of_month ho (by omega) hm
            refine ⟨y, m + 1, 1, fun w hA => ?_, fun w => follows_month y m dd w y1 y2 m1 m2 d1 hdl hm⟩
            have := civil_is hd1 (by omega) h1 o1 w hA
            rw [show n + 1 - ys y - da y (m + 1) + 1 = 1 by unfold len at hdl; omega] at this
            exact this
          · have hm12 : m = 12 := by omega
            have o1 := of_year ho (by omega) hm12
            refine ⟨y + 1, 1, 1, fun w hA => ?_, fun w => follows_year y m dd w y1 y2 m1 m2 d1 hdl hm12⟩
            have := civil_is hd1 (by omega) h1 o1 w hA
            have q1 := da_one (y + 1)
            have q2 := ys_succ y
            have q3 := da_13 y
            subst hm12
            unfold len at hdl
            rw [show n + 1 - ys (y + 1) - da (y + 1) 1 + 1 = 1 by omega] at this
            exact this
      obtain ⟨Y, M, D, h1C, hF⟩ := next
      have h1W : ∀ w, Calls Tryz.prog 21 #[.int .i64 (n + 1)] w fun e w' => e = .returned (.tuple #[.int .i64 ((wd n + 1) % 7), .int .i64 0]) ∧ w = w' := fun w => by
        have := weekday_yes (n + 1) w (by omega) h1
        rw [← wd_next]
        exact this
      have hK1 : ∀ w, Ahead w → Calls Tryz.prog 26 #[.int .i64 (n + 1)] w fun e w' => e = .returned (.tuple #[.agg #[.int .i64 (wY (n + 1)), .int .i64 (wW (n + 1)), .int .i64 (wd (n + 1))], .int .i64 0]) ∧ Below w.heap.size w w' := fun w hA => (week_yes (n + 1) w hd1 (by omega) h1 hA).mono fun e w' ⟨a, _, _, _, b⟩ => ⟨a, b⟩
      rcases Int.lt_or_le (wd n) 6 with hv6 | hv6
      · obtain ⟨q1, q2, q3⟩ := week_next hv6
        rw [q1, q2, q3] at hK1
        by_cases h4 : n + 146097 ≤ 2921939
        · have hd4 : isDayB (n + 146097) = true := (isDayB_iff _).2 ⟨by omega, h4⟩
          have h4C : ∀ w, Ahead w → Calls Tryz.prog 20 #[.int .i64 (n + 146097)] w fun e w' => e = .returned (.tuple #[.agg #[.int .i64 (y + 400), .int .i64 m, .int .i64 dd], .int .i64 0]) ∧ Below w.heap.size w w' := fun w hA => by
            have := civil_is hd4 (by omega) h4 (of_400 ho) w hA
            rw [show n + 146097 - ys (y + 400) - da (y + 400) m + 1 = dd by rw [ys_400, da_400]; omega] at this
            exact this
          have h4W : ∀ w, Calls Tryz.prog 21 #[.int .i64 (n + 146097)] w fun e w' => e = .returned (.tuple #[.int .i64 (wd n), .int .i64 0]) ∧ w = w' := fun w => by
            have := weekday_yes (n + 146097) w (by omega) h4
            rw [← wd_400]
            exact this
          exact follows_all n y m dd (wd n) Y M D (wY n) (wW n) 0 0 w hA hT h8 hn.1 hn.2 hv.1 hv.2 hC hD hW hG y1 y2 hv6 h1C h1W hF h4C h4W hK.1 hK.2 hKc hO hK1
        · have hd4 : isDayB (n + 146097) = false := isDayB_not (by omega)
          exact follows_few n y m dd (wd n) Y M D (wY n) (wW n) 0 0 w hA hT h8 hn.1 hn.2 hv.1 hv.2 hC hD hW hG hv6 h1C h1W hF (fun w _ => civil_no _ w hd4) hK.1 hK.2 hKc hO hK1
      · have e6 : wd n = 6 := by omega
        have e0 : wd (n + 1) = 0 := by rw [wd_next, e6]; decide
        rw [e6] at hW hKc hO h1W
        rw [e0] at hK1
        by_cases h4 : n + 146097 ≤ 2921939
        · have hd4 : isDayB (n + 146097) = true := (isDayB_iff _).2 ⟨by omega, h4⟩
          have h4C : ∀ w, Ahead w → Calls Tryz.prog 20 #[.int .i64 (n + 146097)] w fun e w' => e = .returned (.tuple #[.agg #[.int .i64 (y + 400), .int .i64 m, .int .i64 dd], .int .i64 0]) ∧ Below w.heap.size w w' := fun w hA => by
            have := civil_is hd4 (by omega) h4 (of_400 ho) w hA
            rw [show n + 146097 - ys (y + 400) - da (y + 400) m + 1 = dd by rw [ys_400, da_400]; omega] at this
            exact this
          have h4W : ∀ w, Calls Tryz.prog 21 #[.int .i64 (n + 146097)] w fun e w' => e = .returned (.tuple #[.int .i64 6, .int .i64 0]) ∧ w = w' := fun w => by
            have := weekday_yes (n + 146097) w (by omega) h4
            rw [← e6, ← wd_400]
            exact this
          exact follows_all_sunday n y m dd Y M D (wY n) (wW n) (wY (n + 1)) (wW (n + 1)) w hA hT h8 hn.1 hn.2 hC hD hW hG y1 y2 h1C h1W hF h4C h4W hK.1 hK.2 hKc hO hK1
        · have hd4 : isDayB (n + 146097) = false := isDayB_not (by omega)
          exact follows_sunday n y m dd Y M D (wY n) (wW n) (wY (n + 1)) (wW (n + 1)) w hA hT h8 hn.1 hn.2 hC hD hW hG h1C h1W hF (fun w _ => civil_no _ w hd4) hK.1 hK.2 hKc hO hK1
    · have en : n = 2921939 := by omega
      have hd1 : isDayB (n + 1) = false := isDayB_not (by omega)
      have hd4 : isDayB (n + 146097) = false := isDayB_not (by omega)
      have hl : y = 9999 ∧ m = 12 ∧ dd = 31 := by subst en; obtain ⟨a, b, c⟩ := last_day ho; exact ⟨a, b, by rw [hdd]; exact c⟩
      obtain ⟨rfl, rfl, rfl⟩ := hl
      exact follows_last n (wd n) (wY n) (wW n) w hA hT h8 hn.1 hn.2 hv.1 hv.2 hC hD hW hG (fun w _ => civil_no _ w hd1) (fun w _ => civil_no _ w hd4) hK.1 hK.2 hKc hO (fun w _ => week_no _ w hd1)
  · exact follows_no n w hA hT h8 fun w _ => civil_no n w (isDayB_not hn)
end Go.Proofs.YthdjebomeibngaaGreatDoor
