/- Months: plain mathematics. -/
import Derived.Test.YtiekgkjdhjdcoaaGreatDoorSeatQ
namespace Go.Proofs.YtiekgkjdhjdcoaaGreatDoor
open Go Go.RowKit Go.DayM
/-- The first day of a month. -/
def ms (k : Int) : Int := ys (inY k) + da (inY k) (inM k)
theorem ms_succ (k : Int) : ms (k + 1) = ms k + len (inY k) (inM k) := by
  unfold ms len
  by_cases h : k % 12 = 11
  · have e1 : inY (k + 1) = inY k + 1 := by unfold inY; omega
    have e2 : inM (k + 1) = 1 := by unfold inM; omega
    have e3 : inM k = 12 := by unfold inM; omega
    rw [e1, e2, e3, da_one, ys_succ, da_13]
    omega
  · have e1 : inY (k + 1) = inY k := by unfold inY; omega
    have e2 : inM (k + 1) = inM k + 1 := by unfold inM; omega
    rw [e1, e2]
    omega
theorem ms_step (a : Int) : ∀ n : Nat, ms a + 28 * n ≤ ms (a + n)
  | 0 => by simp
  | n + 1 => by
    have h := ms_step a n
    have h1 := ms_succ (a + n)
    have h2 := len_bd (inY (a + n)) (inM (a + n)) (inM_bd _).1 (inM_bd _).2
    have e : a + ((n + 1 : Nat) : Int) = a + n + 1 := by omega
    rw [e]
    omega
theorem ms_lt {a b : Int} (h : a < b) : ms a + len (inY a) (inM a) ≤ ms b := by
  have h1 := ms_step (a + 1) (b - (a + 1)).toNat
  have e : a + 1 + ((b - (a + 1)).toNat : Int) = b := by omega
  rw [e, ms_succ] at h1
  omega
theorem in_mo {y m : Int} (m1 : 1 ≤ m) (m2 : m ≤ 12) : inY (y * 12 + m - 1) = y ∧ inM (y * 12 + m - 1) = m := by unfold inY inM; omega
theorem dayOf_ms {y m d : Int} (m1 : 1 ≤ m) (m2 : m ≤ 12) : dayOf y m d = ms (y * 12 + m - 1) + d - 1 := by
  unfold ms dayOf
  rw [(in_mo m1 m2).1, (in_mo m1 m2).2]
/-- The day that stands for a date in a month. -/
def dIn (k d : Int) : Int := dayOf (inY k) (inM k) (inD k d)
theorem inD_bd {k d : Int} (d1 : 1 ≤ d) (d2 : d ≤ 31) : 1 ≤ inD k d ∧ inD k d ≤ 31 ∧ inD k d ≤ len (inY k) (inM k) := by
  have := len_bd (inY k) (inM k) (inM_bd _).1 (inM_bd _).2
  unfold inD
  split <;> omega
theorem dIn_ms (k d : Int) : dIn k d = ms k + inD k d - 1 := rfl
theorem good_len {y m d : Int} (h : good y m d = true) : d ≤ len y m := by rw [good_iff] at h; exact h.2.2.2.2.2
theorem inD_good {y m d : Int} (h : good y m d = true) (m1 : 1 ≤ m) (m2 : m ≤ 12) : inD (y * 12 + m - 1) d = d := by
  unfold inD
  rw [(in_mo m1 m2).1, (in_mo m1 m2).2, if_pos (good_len h)]
theorem mo_le {y m d y' m' d' : Int} (_h : good y m d = true) (h' : good y' m' d' = true) (m1 : 1 ≤ m) (m2 : m ≤ 12) (m1' : 1 ≤ m') (m2' : m' ≤ 12) (d1 : 1 ≤ d) (hle : dayOf y m d ≤ dayOf y' m' d') : y * 12 + m - 1 ≤ y' * 12 + m' - 1 := by
  rcases Int.lt_or_le (y' * 12 + m' - 1) (y * 12 + m - 1) with hlt | hge
  · have h1 := ms_lt hlt
    rw [(in_mo m1' m2').1, (in_mo m1' m2').2] at h1
    have h2 := good_len h'
    rw [dayOf_ms m1 m2, dayOf_ms m1' m2'] at hle
    omega
  · exact hge
theorem mo_less {y m d y' m' d' : Int} (h : good y m d = true) (h' : good y' m' d' = true) (m1 : 1 ≤ m) (m2 : m ≤ 12) (m1' : 1 ≤ m') (m2' : m' ≤ 12) (d1 : 1 ≤ d) (hle : dayOf y m d ≤ dayOf y' m' d') (hd : dayOf y' m' d' < dIn (y' * 12 + m' - 1) d) : y * 12 + m - 1 ≤ y' * 12 + m' - 1 - 1 := by
  have h1 := mo_le h h' m1 m2 m1' m2' d1 hle
  rcases Int.lt_or_le (y * 12 + m - 1) (y' * 12 + m' - 1) with hlt | hge
  · omega
  · exfalso
    have e : y * 12 + m - 1 = y' * 12 + m' - 1 := by omega
    rw [← e, dIn_ms, inD_good h m1 m2, ← dayOf_ms m1 m2] at hd
    omega
theorem inY_bd {k : Int} (h1 : -119988 ≤ k) (h2 : k ≤ 119999) : -9999 ≤ inY k ∧ inY k ≤ 9999 := by unfold inY; omega
end Go.Proofs.YtiekgkjdhjdcoaaGreatDoor
