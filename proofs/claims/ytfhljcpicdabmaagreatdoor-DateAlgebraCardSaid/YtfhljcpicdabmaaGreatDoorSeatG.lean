/- The seat: days, continued. -/
import Derived.Test.YtfhljcpicdabmaaGreatDoorSeatE
namespace Go.Proofs.YtfhljcpicdabmaaGreatDoor
open Go Go.RowKit Go.DayM
set_option maxRecDepth 100000
set_option maxHeartbeats 1000000
theorem firstDay_any (w : World) : Calls Tryz.prog 125 #[] w fun e w' => e = .returned (.int .i64 (-4382544)) ∧ w = w' := by
  go_enter Tryz.func125, Tryz.ntmps125
  go_wp2_with (go_at_call 146; refine (yearStart_any _ _ (by omega) (by omega)).mono ?_; rintro e w' ⟨rfl, rfl⟩)
  go_ret
  exact ⟨ret_int ys_low, rfl⟩
theorem endOfDays_any (w : World) : Calls Tryz.prog 124 #[] w fun e w' => e = .returned (.int .i64 2921940) ∧ w = w' := by
  go_enter Tryz.func124, Tryz.ntmps124
  go_wp2_with (go_at_call 146; refine (yearStart_any _ _ (by omega) (by omega)).mono ?_; rintro e w' ⟨rfl, rfl⟩)
  go_ret
  exact ⟨ret_int ys_high, rfl⟩
def isDayB (n : Int) : Bool := decide (-4382544 ≤ n) && decide (n < 2921940)
theorem isDay_any (n : Int) (w : World) : Calls Tryz.prog 83 #[.int .i64 n] w fun e w' => e = .returned (.bool (isDayB n)) ∧ w = w' := by
  by_cases h : -4382544 ≤ n
  · go_enter Tryz.func83, Tryz.ntmps83
    go_wp2_with (first | (go_at_call 125; refine (firstDay_any _).mono ?_; rintro e w' ⟨rfl, rfl⟩) | (go_at_call 124; refine (endOfDays_any _).mono ?_; rintro e w' ⟨rfl, rfl⟩))
    go_ret
    exact ⟨ret_bool (by unfold isDayB; simp [h]), rfl⟩
  · go_enter Tryz.func83, Tryz.ntmps83
    go_wp2_with (first | (go_at_call 125; refine (firstDay_any _).mono ?_; rintro e w' ⟨rfl, rfl⟩) | (go_at_call 124; refine (endOfDays_any _).mono ?_; rintro e w' ⟨rfl, rfl⟩))
    go_ret
    exact ⟨ret_bool (by unfold isDayB; simp; omega), rfl⟩
theorem modulo_any (a n : Int) (w : World) (_h1 : -100000000 ≤ a) (_h2 : a ≤ 100000000) (n1 : 1 ≤ n) (n2 : n ≤ 100) (_hn0 : (n == 0) = false) (_hn1 : (n == -1) = false) : Calls Tryz.prog 148 #[.int .i64 a, .int .i64 n] w fun e w' => e = .returned (.int .i64 (a % n)) ∧ w = w' := by
  have k1 : -n < a.tmod n := by
    have e1 := Int.emod_nonneg a (by omega : n ≠ 0)
    have e2 := Int.tmod_eq_emod (a := a) (b := n)
    have e3 : n.natAbs = n := by omega
    have e4 : ¬ (0 ≤ a ∨ n ∣ a) → a % n ≠ 0 := fun h h' => h (.inr (Int.dvd_of_emod_eq_zero h'))
    split at e2
    · omega
    · have := e4 (by assumption); omega
  have k2 : a.tmod n < n := Int.tmod_lt_of_pos a (by omega)
  have k3 : (a.tmod n + n) % n = a % n := by
    rw [Int.add_emod_right]
    have := Int.mul_tdiv_add_tmod a n
    conv => rhs; rw [← this]
    rw [Int.add_emod, Int.mul_emod_right, Int.zero_add, Int.emod_emod]
  have H := Lib.hid k3
  clear k3
  have k4 : 0 ≤ a.tmod n + n := by omega
  go_enter Tryz.func148, Tryz.ntmps148
  go_wp2
  go_ret
  exact ⟨ret_int H.out, rfl⟩
theorem weekdayOf_any (n : Int) (w : World) (h1 : -4382544 ≤ n) (h2 : n ≤ 2921939) : Calls Tryz.prog 85 #[.int .i64 n] w fun e w' => e = .returned (.int .i64 ((n + 5) % 7)) ∧ w = w' := by
  go_enter Tryz.func85, Tryz.ntmps85
  go_wp2_with (go_at_call 148; refine (modulo_any _ _ _ (by omega) (by omega) (by omega) (by omega) (by decide) (by decide)).mono ?_; rintro e w' ⟨rfl, rfl⟩)
  go_ret
  exact ⟨rfl, rfl⟩
theorem weekday_yes (n : Int) (w : World) (h1 : -4382544 ≤ n) (h2 : n ≤ 2921939) : Calls Tryz.prog 21 #[.int .i64 n] w fun e w' => e = .returned (.tuple #[.int .i64 ((n + 5) % 7), .int .i64 0]) ∧ w = w' := by
  have hd : isDayB n = true := by unfold isDayB; simp; omega
  go_enter Tryz.func21, Tryz.ntmps21
  go_wp2_with (first | (go_at_call 83; refine (isDay_any _ _).mono ?_; rintro e w' ⟨rfl, rfl⟩) | (go_at_call 85; refine (weekdayOf_any _ _ h1 h2).mono ?_; rintro e w' ⟨rfl, rfl⟩))
  go_ret2
  exact ⟨rfl, rfl⟩
theorem weekday_no (n : Int) (w : World) (hd : isDayB n = false) : Calls Tryz.prog 21 #[.int .i64 n] w fun e w' => e = .returned (.tuple #[.int .i64 0, .int .i64 2]) ∧ w = w' := by
  go_enter Tryz.func21, Tryz.ntmps21
  go_wp2_with (first | (go_at_call 83; refine (isDay_any _ _).mono ?_; rintro e w' ⟨rfl, rfl⟩))
  go_ret2
  exact ⟨rfl, rfl⟩
end Go.Proofs.YtfhljcpicdabmaaGreatDoor
