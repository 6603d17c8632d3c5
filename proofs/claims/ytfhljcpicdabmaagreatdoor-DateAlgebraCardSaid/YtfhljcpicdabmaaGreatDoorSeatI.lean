/- The seat: the specification's functions on days. -/
import Derived.Test.YtfhljcpicdabmaaGreatDoorSeatG
namespace Go.Proofs.YtfhljcpicdabmaaGreatDoor
open Go Go.RowKit Go.DayM
set_option maxRecDepth 100000
set_option maxHeartbeats 1000000
theorem floor_neg (n b : Int) (hb : 0 < b) : -((-n + b - 1) / b) = n / b := by
  have h := Int.mul_ediv_add_emod n b
  have h1 := Int.emod_nonneg n (by omega : b ≠ 0)
  have h2 := Int.emod_lt_of_pos n hb
  have e : -n + b - 1 = (b - 1 - n % b) + b * (-(n / b)) := by rw [Int.mul_neg]; omega
  rw [e, Int.add_mul_ediv_left _ _ (by omega), Int.ediv_eq_zero_of_lt (by omega) (by omega)]
  omega
theorem floor_any (n b : Int) (w : World) (h1 : -100000000 ≤ n) (h2 : n ≤ 100000000) (b1 : 1 ≤ b) (b2 : b ≤ 1000) : Calls Tryz.prog 150 #[.int .i64 n, .int .i64 b] w fun e w' => e = .returned (.int .i64 (n / b)) ∧ w = w' := by
  have H := Lib.hid (floor_neg n b (by omega))
  have hb0 : (b == 0) = false := by simp; omega
  have hq0 : 0 ≤ (-n + b - 1) / b ∨ n ≥ 0 := by
    rcases Int.lt_or_le n 0 with h | h
    · exact .inl (Int.ediv_nonneg (by omega) (by omega))
    · exact .inr h
  by_cases hn : n < 0
  · have q0 : 0 ≤ (-n + b - 1) / b := by omega
    have q1 : (-n + b - 1) / b ≤ -n + b - 1 := Int.ediv_le_self _ (by omega)
    have q2 : 0 ≤ -n + b - 1 := by omega
    clear hq0
    go_enter Tryz.func150, Tryz.ntmps150
    go_wp2
    go_ret
    exact ⟨ret_int H.out, rfl⟩
  · have q2 : 0 ≤ n := by omega
    clear hq0
    go_enter Tryz.func150, Tryz.ntmps150
    go_wp2
    go_ret
    exact ⟨rfl, rfl⟩
theorem leapR_any (y : Int) (w : World) : Calls Tryz.prog 184 #[.int .i64 y] w fun e w' => e = .returned (.bool (leap y)) ∧ w = w' := by
  go_enter Tryz.func184, Tryz.ntmps184
  go_wp2
  · go_ret
    exact ⟨ret_bool (leap_a (by assumption) (by assumption)), rfl⟩
  · go_ret
    exact ⟨ret_bool (leap_b (by assumption) (by assumption)), rfl⟩
  · go_ret
    exact ⟨ret_bool (leap_c (by assumption)), rfl⟩
def len (y m : Int) : Int := da y (m + 1) - da y m
theorem len_bd (y m : Int) (h1 : 1 ≤ m) (h2 : m ≤ 12) : 28 ≤ len y m ∧ len y m ≤ 31 := by have := da_step y m h1 h2; unfold len; omega
theorem length_2 (y : Int) (w : World) : Calls Tryz.prog 141 #[.int .i64 y, .int .i64 2] w fun e w' => e = .returned (.int .i64 (len y 2)) ∧ w = w' := by
  cases hl : leap y with
  | true =>
    have H := Lib.hid hl
    go_enter Tryz.func141, Tryz.ntmps141
    go_wp2_with (go_at_call 184; refine (leapR_any _ _).mono ?_; rintro e w' ⟨rfl, rfl⟩)
    go_ret
    exact ⟨ret_int (by simp [len, da, ah, lp, H.out]), rfl⟩
  | false =>
    have H := Lib.hid hl
    go_enter Tryz.func141, Tryz.ntmps141
    go_wp2_with (go_at_call 184; refine (leapR_any _ _).mono ?_; rintro e w' ⟨rfl, rfl⟩)
    go_ret
    exact ⟨ret_int (by simp [len, da, ah, lp, H.out]), rfl⟩
theorem length_lit (y m : Int) (w : World) (h : m = 1 ∨ m = 3 ∨ m = 4 ∨ m = 5 ∨ m = 6 ∨ m = 7 ∨ m = 8 ∨ m = 9 ∨ m = 10 ∨ m = 11 ∨ m = 12) : Calls Tryz.prog 141 #[.int .i64 y, .int .i64 m] w fun e w' => e = .returned (.int .i64 (len y m)) ∧ w = w' := by
  rcases h with rfl | rfl | rfl | rfl | rfl | rfl | rfl | rfl | rfl | rfl | rfl <;>
  · go_enter Tryz.func141, Tryz.ntmps141
    go_wp2
    go_ret
    exact ⟨ret_int (by simp [len, da, ah] <;> omega), rfl⟩
theorem length_any (y m : Int) (w : World) (h1 : 1 ≤ m) (h2 : m ≤ 12) : Calls Tryz.prog 141 #[.int .i64 y, .int .i64 m] w fun e w' => e = .returned (.int .i64 (len y m)) ∧ w = w' := by
  by_cases h : m = 2
  · subst h; exact length_2 y w
  · exact length_lit y m w (by omega)
def bg (y : Int) : Int := 365 * y + (y + 3) / 4 - (y + 99) / 100 + (y + 399) / 400
theorem bg_ys (y : Int) : bg y - 730485 = ys y := by unfold bg ys la; omega
theorem began_any (y : Int) (w : World) (h1 : -20000 ≤ y) (h2 : y ≤ 20000) : Calls Tryz.prog 149 #[.int .i64 y] w fun e w' => e = .returned (.int .i64 (bg y)) ∧ w = w' := by
  go_enter Tryz.func149, Tryz.ntmps149
  go_wp2_with (go_at_call 150; refine (floor_any _ _ _ (by omega) (by omega) (by omega) (by omega)).mono ?_; rintro e w' ⟨rfl, rfl⟩)
  go_ret
  exact ⟨ret_int (by unfold bg; omega), rfl⟩
end Go.Proofs.YtfhljcpicdabmaaGreatDoor
