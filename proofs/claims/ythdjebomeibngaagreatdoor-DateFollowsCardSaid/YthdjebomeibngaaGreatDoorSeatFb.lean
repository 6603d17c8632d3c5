/- Days that follow each other: plain mathematics. -/
import Derived.Test.YthdjebomeibngaaGreatDoorSeatYm
import Derived.Test.YthdjebomeibngaaGreatDoorSeatI
namespace Go.Proofs.YthdjebomeibngaaGreatDoor
open Go Go.DayM
theorem of_day {n y m : Int} (h : Of n y m) (h1 : n - ys y - da y m + 1 < len y m) : Of (n + 1) y m := by
  unfold len at h1
  have a := h.y1; have b := h.y2; have c := h.d1; have d := h.d2; have e := h.m1; have f := h.m2
  have g := da_mono y (12 - m).toNat (m + 1) (by omega) (by omega)
  have e2 : m + 1 + ((12 - m).toNat : Int) = 12 + 1 := by omega
  rw [e2, da_13] at g
  have k := ys_succ y
  exact ⟨by omega, by omega, e, f, by omega, by omega⟩
theorem of_month {n y m : Int} (h : Of n y m) (h1 : n - ys y - da y m + 1 = len y m) (h2 : m < 12) : Of (n + 1) y (m + 1) := by
  unfold len at h1
  have a := h.y1; have b := h.y2; have c := h.d1; have d := h.d2; have e := h.m1; have f := h.m2
  have g := da_step y (m + 1) (by omega) (by omega)
  have g2 := da_mono y (12 - (m + 1)).toNat (m + 1 + 1) (by omega) (by omega)
  have e2 : m + 1 + 1 + ((12 - (m + 1)).toNat : Int) = 12 + 1 := by omega
  rw [e2, da_13] at g2
  have k := ys_succ y
  exact ⟨by omega, by omega, by omega, by omega, by omega, by omega⟩
theorem of_year {n y m : Int} (h : Of n y m) (h1 : n - ys y - da y m + 1 = len y m) (h2 : m = 12) : Of (n + 1) (y + 1) 1 := by
  subst h2
  unfold len at h1
  have a := h.y1; have b := h.y2
  rw [da_13] at h1
  have k := ys_succ y
  have k2 := ys_succ (y + 1)
  have l := lp_01 (y + 1)
  have d1 := da_one (y + 1)
  have d2 := da_step (y + 1) 1 (by omega) (by omega)
  exact ⟨by omega, by omega, by omega, by omega, by omega, by omega⟩
theorem ys_400 (y : Int) : ys (y + 400) = ys y + 146097 := by unfold ys la; omega
theorem leap_400 (y : Int) : leap (y + 400) = leap y := by
  rw [Bool.eq_iff_iff, leap_iff, leap_iff]
  omega
theorem da_400 (y m : Int) : da (y + 400) m = da y m := by unfold da lp; rw [leap_400]
theorem of_400 {n y m : Int} (h : Of n y m) : Of (n + 146097) (y + 400) m := by
  have k := ys_400 y
  have k2 := ys_400 (y + 1)
  have e : y + 1 + 400 = y + 400 + 1 := by omega
  rw [e] at k2
  have a := h.y1; have b := h.y2; have c := h.d1; have d := h.d2
  exact ⟨by omega, by omega, h.m1, h.m2, by rw [da_400]; omega, by rw [da_400]; omega⟩
theorem last_day {y m : Int} (h : Of 2921939 y m) : y = 9999 ∧ m = 12 ∧ (2921939 : Int) - ys y - da y m + 1 = 31 := by
  have a : Of 2921939 9999 12 := ⟨by decide, by decide, by decide, by decide, by decide, by decide⟩
  have e1 := h.year a
  have e2 := h.month a
  subst e1; subst e2
  decide
theorem week_next {n : Int} (h : wd n < 6) : wY (n + 1) = wY n ∧ wW (n + 1) = wW n ∧ wd (n + 1) = wd n + 1 := by
  have e1 : wd (n + 1) = wd n + 1 := by unfold wd at *; omega
  have e2 : th (n + 1) = th n := by unfold th; rw [e1]; omega
  exact ⟨by unfold wY; rw [e2], by unfold wW wY; rw [e2], e1⟩
theorem wd_400 (n : Int) : wd (n + 146097) = wd n := by unfold wd; omega
theorem wd_next (n : Int) : wd (n + 1) = (wd n + 1) % 7 := by unfold wd; omega
end Go.Proofs.YthdjebomeibngaaGreatDoor
