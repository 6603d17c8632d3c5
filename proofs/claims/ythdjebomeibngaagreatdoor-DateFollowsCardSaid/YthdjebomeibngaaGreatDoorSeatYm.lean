/- Weeks: plain mathematics. -/
import Derived.Test.YthdjebomeibngaaGreatDoorDayM
namespace Go.DayM
def wd (n : Int) : Int := (n + 5) % 7
/-- The Thursday of a day's week. -/
def th (n : Int) : Int := n - wd n + 3
/-- The first Thursday of a year. -/
def ft (y : Int) : Int := ys y + (3 - wd (ys y)) % 7
noncomputable def yOf (n : Int) : Int := by
  classical exact if h : ∃ y m, Of n y m then h.choose else 0
theorem yOf_eq {n y m : Int} (h : Of n y m) : yOf n = y := by
  unfold yOf
  have h' : ∃ y m, Of n y m := ⟨y, m, h⟩
  rw [dif_pos h']
  obtain ⟨m', hm⟩ := h'.choose_spec
  exact hm.year h
noncomputable def wY (n : Int) : Int := yOf (th n)
noncomputable def wW (n : Int) : Int := (th n - ys (wY n)) / 7 + 1
theorem wd_bd (n : Int) : 0 ≤ wd n ∧ wd n ≤ 6 := by unfold wd; omega
theorem th_wd (n : Int) : wd (th n) = 3 := by unfold th wd; omega
theorem th_bd {n : Int} (h1 : -4382544 ≤ n) (h2 : n ≤ 2921939) : -4382544 ≤ th n ∧ th n ≤ 2921939 := by unfold th wd; omega
theorem ft_bd (y : Int) : ys y ≤ ft y ∧ ft y ≤ ys y + 6 ∧ wd (ft y) = 3 := by
  unfold ft wd
  omega
/-- What the first Thursday counts, the first day counts, too. -/
theorem ft_div {y t : Int} (h : wd t = 3) (h1 : ys y ≤ t) : ft y ≤ t ∧ (t - ft y) / 7 = (t - ys y) / 7 ∧ t = ft y + 7 * ((t - ys y) / 7) := by
  obtain ⟨f1, f2, f3⟩ := ft_bd y
  unfold wd at h f3
  omega
theorem of_exists {n : Int} : ∀ y m, Of n y m → Of n (yOf n) m := fun y m h => by rw [yOf_eq h]; exact h
theorem week_year {n y m : Int} (h : Of (th n) y m) : wY n = y := yOf_eq h
theorem week_bd {n y m : Int} (h : Of (th n) y m) : 1 ≤ wW n ∧ wW n ≤ 53 := by
  have e := week_year h
  have h1 := h.y1
  have h2 := h.y2
  have h3 := ys_succ y
  have h4 := lp_01 y
  unfold wW
  rw [e]
  omega
/-- A week has one day for each weekday. -/
theorem week_day {n y m : Int} (h : Of (th n) y m) : n = ft (wY n) + 7 * (wW n - 1) + wd n - 3 := by
  have e := week_year h
  have h1 := h.y1
  obtain ⟨a, b, c⟩ := ft_div (th_wd n) h1
  unfold wW
  rw [e]
  unfold th at *
  omega
theorem between {f : Int → Int} {n a : Int} : ∀ k : Nat, f a ≤ n → n < f (a + k) → ∃ j : Int, a ≤ j ∧ j < a + k ∧ f j ≤ n ∧ n < f (j + 1)
  | 0, h1, h2 => by simp at h2; omega
  | k + 1, h1, h2 => by
    rcases Int.lt_or_le n (f (a + k)) with h | h
    · obtain ⟨j, j1, j2, j3, j4⟩ := between k h1 h
      exact ⟨j, j1, by omega, j3, j4⟩
    · refine ⟨a + k, by omega, by omega, h, ?_⟩
      have e : a + ((k + 1 : Nat) : Int) = a + k + 1 := by omega
      rw [e] at h2
      exact h2
theorem of_ex {n : Int} (h1 : -4382544 ≤ n) (h2 : n ≤ 2921939) : ∃ y m, Of n y m := by
  have a := ys_low
  have b := ys_high
  have e : (-9999 : Int) + ((19999 : Nat) : Int) = 10000 := by omega
  obtain ⟨y, _, _, y3, y4⟩ := between (f := ys) (n := n) (a := -9999) 19999 (by omega) (by rw [e]; omega)
  have c := ys_succ y
  have d13 := da_13 y
  have e2 : (1 : Int) + ((12 : Nat) : Int) = 12 + 1 := by omega
  obtain ⟨m, m1, m2, m3, m4⟩ := between (f := da y) (n := n - ys y) (a := 1) 12 (by rw [da_one]; omega) (by rw [e2, d13]; omega)
  exact ⟨y, m, y3, y4, m1, by omega, m3, m4⟩
/-- A day is that of its week. -/
theorem week_is {n Y W D : Int} (h1 : -4382544 ≤ n) (h2 : n ≤ 2921939) (e1 : wY n = Y) (e2 : wW n = W) (e3 : wd n = D) : n = ft Y + 7 * (W - 1) + D - 3 := by
  obtain ⟨t1, t2⟩ := th_bd h1 h2
  obtain ⟨y, m, ho⟩ := of_ex t1 t2
  have := week_day ho
  rw [e1, e2, e3] at this
  exact this
end Go.DayM
