/- Days: plain mathematics. -/
namespace Go.DayM

def la (y : Int) : Int := (y + 19999) / 4 - (y + 19999) / 100 + (y + 19999) / 400
/-- The day of the first date of a year. -/
def ys (y : Int) : Int := 365 * (y - 2000) + la y - 5334
def leap (y : Int) : Bool := decide (y % 4 = 0) && !decide (y % 100 = 0) || decide (y % 400 = 0)
def lp (y : Int) : Int := if leap y = true then 1 else 0
def ah (m : Int) : Int :=
  if m = 1 then 0 else if m = 2 then 31 else if m = 3 then 59 else if m = 4 then 90 else if m = 5 then 120 else if m = 6 then 151 else if m = 7 then 181
  else if m = 8 then 212 else if m = 9 then 243 else if m = 10 then 273 else if m = 11 then 304 else if m = 12 then 334 else 365
def da (y m : Int) : Int := ah m + if 2 < m then lp y else 0

theorem lp_01 (y : Int) : lp y = 0 ∨ lp y = 1 := by unfold lp; split <;> simp

theorem leap_iff (y : Int) : leap y = true ↔ (y % 4 = 0 ∧ y % 100 ≠ 0) ∨ y % 400 = 0 := by unfold leap; simp

theorem ys_succ (y : Int) : ys (y + 1) = ys y + 365 + lp y := by
  unfold lp
  by_cases h : leap y = true
  · rw [if_pos h]
    rw [leap_iff] at h
    unfold ys la
    omega
  · rw [if_neg h]
    rw [leap_iff] at h
    unfold ys la
    omega

theorem ys_mono (a b : Int) (h : a ≤ b) : ys a + 365 * (b - a) ≤ ys b := by
  unfold ys la; omega

theorem ys_step (a b : Int) (h : a < b) : ys (a + 1) ≤ ys b := by
  have := ys_mono (a + 1) b (by omega); omega

theorem ys_low : ys (-9999) = -4382544 := by decide
theorem ys_high : ys 10000 = 2921940 := by decide

theorem months (m : Int) (h1 : 1 ≤ m) (h2 : m ≤ 12) : m = 1 ∨ m = 2 ∨ m = 3 ∨ m = 4 ∨ m = 5 ∨ m = 6 ∨ m = 7 ∨ m = 8 ∨ m = 9 ∨ m = 10 ∨ m = 11 ∨ m = 12 := by omega

theorem da_bd (y m : Int) (h1 : 1 ≤ m) (h2 : m ≤ 12) : 0 ≤ da y m ∧ da y m ≤ 335 := by
  have := lp_01 y
  unfold da
  rcases months m h1 h2 with rfl | rfl | rfl | rfl | rfl | rfl | rfl | rfl | rfl | rfl | rfl | rfl <;> simp [ah] <;> omega

theorem da_step (y m : Int) (h1 : 1 ≤ m) (h2 : m ≤ 12) : da y m + 28 ≤ da y (m + 1) ∧ da y (m + 1) ≤ da y m + 31 := by
  have := lp_01 y
  unfold da
  rcases months m h1 h2 with rfl | rfl | rfl | rfl | rfl | rfl | rfl | rfl | rfl | rfl | rfl | rfl <;> simp [ah] <;> omega

theorem da_one (y : Int) : da y 1 = 0 := by simp [da, ah]
theorem da_13 (y : Int) : da y (12 + 1) = 365 + lp y := by simp [da, ah]
theorem da_mono (y : Int) : ∀ (k : Nat) (m : Int), 1 ≤ m → m + k ≤ 13 → da y m + 28 * k ≤ da y (m + k)
  | 0, m, _, _ => by simp
  | k + 1, m, h1, h2 => by
    have h := da_mono y k m h1 (by omega)
    have h' := (da_step y (m + k) (by omega) (by omega)).1
    have e : m + (k + 1 : Nat) = m + k + 1 := by omega
    rw [e]
    omega

/-- A year and a month are those of a day. -/
structure Of (n y m : Int) : Prop where
  y1 : ys y ≤ n
  y2 : n < ys (y + 1)
  m1 : 1 ≤ m
  m2 : m ≤ 12
  d1 : da y m ≤ n - ys y
  d2 : n - ys y < da y (m + 1)

theorem Of.year {n y m y' m' : Int} (h : Of n y m) (k : Of n y' m') : y = y' := by
  rcases Int.lt_trichotomy y y' with h' | h' | h'
  · have := ys_step y y' h'; have := h.y2; have := k.y1; omega
  · exact h'
  · have := ys_step y' y h'; have := k.y2; have := h.y1; omega

theorem Of.month {n y m y' m' : Int} (h : Of n y m) (k : Of n y' m') : m = m' := by
  have e := h.year k
  subst e
  have a1 := h.d1; have a2 := h.d2; have b1 := k.d1; have b2 := k.d2
  have c1 := h.m1; have c2 := h.m2; have c3 := k.m1; have c4 := k.m2
  rcases Int.lt_trichotomy m m' with h' | h' | h'
  · have := da_mono y (m' - (m + 1)).toNat (m + 1) (by omega) (by omega)
    have e : m + 1 + ((m' - (m + 1)).toNat : Int) = m' := by omega
    rw [e] at this
    omega
  · exact h'
  · have := da_mono y (m - (m' + 1)).toNat (m' + 1) (by omega) (by omega)
    have e : m' + 1 + ((m - (m' + 1)).toNat : Int) = m := by omega
    rw [e] at this
    omega

/-- A date is formed. -/
def good (y m d : Int) : Bool := decide (-9999 ≤ y ∧ y ≤ 9999 ∧ 1 ≤ m ∧ m ≤ 12 ∧ 1 ≤ d ∧ d ≤ da y (m + 1) - da y m)
def dayOf (y m d : Int) : Int := ys y + da y m + d - 1

theorem good_iff (y m d : Int) : good y m d = true ↔ (-9999 ≤ y ∧ y ≤ 9999 ∧ 1 ≤ m ∧ m ≤ 12 ∧ 1 ≤ d ∧ d ≤ da y (m + 1) - da y m) := by simp [good]

theorem of_good {y m d : Int} (h : good y m d = true) : Of (dayOf y m d) y m := by
  rw [good_iff] at h
  obtain ⟨h1, h2, h3, h4, h5, h6⟩ := h
  have a := da_bd y m h3 h4
  have b := ys_succ y
  have c : da y (m + 1) ≤ da y 13 := by
    have := da_mono y (13 - (m + 1)).toNat (m + 1) (by omega) (by omega)
    have e : m + 1 + ((13 - (m + 1)).toNat : Int) = 13 := by omega
    rw [e] at this
    omega
  have e : da y 13 = 365 + lp y := da_13 y
  exact ⟨by unfold dayOf; omega, by unfold dayOf; omega, h3, h4, by unfold dayOf; omega, by unfold dayOf; omega⟩

theorem good_of {n y m : Int} (h : Of n y m) (h1 : -9999 ≤ y) (h2 : y ≤ 9999) : good y m (n - ys y - da y m + 1) = true := by
  rw [good_iff]
  exact ⟨h1, h2, h.m1, h.m2, by have := h.d1; omega, by have := h.d2; omega⟩

theorem dayOf_of {n y m : Int} : dayOf y m (n - ys y - da y m + 1) = n := by unfold dayOf; omega

theorem day_bd {y m d : Int} (h1 : -9999 ≤ y) (h2 : y ≤ 9999) (h3 : 1 ≤ m) (h4 : m ≤ 12) (h5 : 1 ≤ d) (h6 : d ≤ 31) : -4382544 ≤ dayOf y m d ∧ dayOf y m d ≤ 2922000 := by
  have a := da_bd y m h3 h4
  have b := ys_mono (-9999) y h1
  have c := ys_mono y 9999 h2
  have e := ys_low
  have f : ys 9999 = 2921575 := by decide
  unfold dayOf
  omega

theorem of_bd {n y m : Int} (h : Of n y m) (h1 : -4382544 ≤ n) (h2 : n ≤ 2921939) : -9999 ≤ y ∧ y ≤ 9999 := by
  have a := ys_low; have b := ys_high
  constructor
  · rcases Int.lt_or_le y (-9999) with h' | h'
    · have := ys_step y (-9999) h'; have := h.y2; omega
    · exact h'
  · rcases Int.lt_or_le 9999 y with h' | h'
    · have := ys_mono 10000 y (by omega); have := h.y1; omega
    · exact h'
end Go.DayM
