/- The seat: the project's functions on months. -/
import Derived.Test.YtiekgkjdhjdcoaaGreatDoorSeatH
import Derived.Test.YtiekgkjdhjdcoaaGreatDoorSeatI
import Derived.Deep.RegionHeld3
namespace Go.Proofs.YtiekgkjdhjdcoaaGreatDoor
open Go Go.RowKit Go.DayM
set_option maxRecDepth 100000
set_option maxHeartbeats 1000000
theorem monthOf_any (y m d : Int) (w : World) (y1 : -10000 ≤ y) (y2 : y ≤ 10000) (m1 : 1 ≤ m) (m2 : m ≤ 12) : Calls Tryz.prog 95 #[.agg #[.int .i64 y, .int .i64 m, .int .i64 d]] w fun e w' => e = .returned (.int .i64 (y * 12 + m - 1)) ∧ Below w.heap.size w w' := by
  go_enter Tryz.func95, Tryz.ntmps95
  go_wp2
  go_ret
  exact ⟨rfl, (Below.refl _ _).alloc (Nat.le_refl _) _⟩
theorem monthLength_any (y m : Int) (w : World) (m1 : 1 ≤ m) (m2 : m ≤ 12) (hA : Ahead w) : Calls Tryz.prog 152 #[.int .i64 y, .int .i64 m] w fun e w' => e = .returned (.int .i64 (len y m)) ∧ w = w' := by
  obtain ⟨a1, a2⟩ := da_bd y m m1 m2
  have a3 := da_step y m m1 m2
  go_enter Tryz.func152, Tryz.ntmps152
  go_wp2_with (go_at_call 147; refine (da_any _ _ _ (by omega) (by omega) hA).mono ?_; rintro e w' ⟨rfl, rfl⟩)
  go_ret
  exact ⟨rfl, rfl⟩
/-- A day of a month, by the month's number. -/
def inY (k : Int) : Int := k / 12
def inM (k : Int) : Int := k % 12 + 1
def inD (k d : Int) : Int := if d ≤ len (inY k) (inM k) then d else len (inY k) (inM k)
theorem inM_bd (k : Int) : 1 ≤ inM k ∧ inM k ≤ 12 := by unfold inM; omega
theorem dateIn_any (k d : Int) (w : World) (k1 : -10000000 ≤ k) (k2 : k ≤ 10000000) (hA : Ahead w) : Calls Tryz.prog 96 #[.int .i64 k, .int .i64 d] w fun e w' => e = .returned (.agg #[.int .i64 (inY k), .int .i64 (inM k), .int .i64 (inD k d)]) ∧ Below w.heap.size w w' := by
  have hA1 : Ahead (w.alloc (.cells #[.int .i64 0, .int .i64 0, .int .i64 0] 23)) := hA.below' ((Below.refl _ _).alloc (Nat.le_refl _) _)
  have e0 : 0 ≤ k % 12 := by omega
  have e2 : k % 12 ≤ 11 := by omega
  have e1 : (k - k % 12).tdiv 12 = k / 12 := by
    have : k - k % 12 = 12 * (k / 12) := by omega
    rw [this, Int.mul_tdiv_cancel_left _ (by omega)]
  have e3 : -1000000 ≤ k / 12 ∧ k / 12 ≤ 1000000 := by omega
  obtain ⟨l1, l2⟩ := len_bd (k / 12) (k % 12 + 1) (by omega) (by omega)
  go_enter Tryz.func96, Tryz.ntmps96
  go_wp2_with (first | (go_at_call 148; refine (modulo_any _ _ _ (by omega) (by omega) (by omega) (by omega) (by decide) (by decide)).mono ?_; rintro e w' ⟨rfl, rfl⟩) | (go_at_call 152; refine (monthLength_any _ _ _ (by omega) (by omega) hA1).mono ?_; rintro e w' ⟨rfl, rfl⟩))
  · refine bodyPost_ret (v := .agg #[.int .i64 (k / 12), .int .i64 (k % 12 + 1), .int .i64 (len (k / 12) (k % 12 + 1))]) (by simp [results, Tryz.results96, go_sem]) rfl ⟨?_, ?_⟩
    · have e : inD k d = len (k / 12) (k % 12 + 1) := by unfold inD inY inM; rw [if_neg (by omega)]
      rw [e]; rfl
    · exact (Below.refl _ _).alloc (Nat.le_refl _) _
  · refine bodyPost_ret (v := .agg #[.int .i64 (k / 12), .int .i64 (k % 12 + 1), .int .i64 d]) (by simp [results, Tryz.results96, go_sem]) rfl ⟨?_, ?_⟩
    · have e : inD k d = d := by unfold inD inY inM; rw [if_pos (by omega)]
      rw [e]; rfl
    · exact (Below.refl _ _).alloc (Nat.le_refl _) _
theorem add_bad (y m d n : Int) (w : World) (hg : good y m d = false) (hA : Ahead w) : Calls Tryz.prog 30 #[.agg #[.int .i64 y, .int .i64 m, .int .i64 d], .int .i64 n] w fun e w' => e = .returned (.tuple #[.agg #[.int .i64 0, .int .i64 0, .int .i64 0], .int .i64 2]) ∧ Below w.heap.size w w' := by
  have hA1 : Ahead ((w.alloc (.cells #[.int .i64 y, .int .i64 m, .int .i64 d] 23)).alloc (.cells #[.int .i64 0, .int .i64 0, .int .i64 0] 23)) := hA.below' (((Below.refl _ _).alloc (Nat.le_refl _) _).alloc (by simp) _)
  go_enter Tryz.func30, Tryz.ntmps30
  go_wp2_with (go_at_call 81; refine (isDate_any _ _ _ _ hA1).mono ?_; rintro e w' ⟨rfl, hb⟩; obtain ⟨hcc, hff⟩ := bcell hb)
  have hs := hb.size
  simp at hs
  refine bodyPost_ret (v := .tuple #[.agg #[.int .i64 0, .int .i64 0, .int .i64 0], .int .i64 2]) (by simp [results, Tryz.results30, go_sem, hcc]) rfl ⟨rfl, ?_⟩
  exact (((((((Below.refl _ _).alloc (Nat.le_refl _) _).alloc (by simp) _).trans (hb.mono (by simp; omega))).setCell (by simp) _).setCell (by simp) _).setCell (by simp) _)
theorem add_long (y m d n : Int) (w : World) (hg : good y m d = true) (g1 : -9999 ≤ y) (g2 : y ≤ 9999) (m1 : 1 ≤ m) (m2 : m ≤ 12) (hA : Ahead w) (hn : n < -119988 - (y * 12 + m - 1) ∨ 119999 - (y * 12 + m - 1) < n) : Calls Tryz.prog 30 #[.agg #[.int .i64 y, .int .i64 m, .int .i64 d], .int .i64 n] w fun e w' => e = .returned (.tuple #[.agg #[.int .i64 0, .int .i64 0, .int .i64 0], .int .i64 3]) ∧ Below w.heap.size w w' := by
  have hA1 : Ahead ((w.alloc (.cells #[.int .i64 y, .int .i64 m, .int .i64 d] 23)).alloc (.cells #[.int .i64 0, .int .i64 0, .int .i64 0] 23)) := hA.below' (((Below.refl _ _).alloc (Nat.le_refl _) _).alloc (by simp) _)
  rcases Classical.em (n < -119988 - (y * 12 + m - 1)) with h | h
  all_goals
    go_enter Tryz.func30, Tryz.ntmps30
    go_wp2_with fail
    refine (isDate_any _ _ _ _ hA1).mono ?_
    rintro e w1 ⟨rfl, b1⟩
    obtain ⟨hc1, hf1⟩ := bcell b1
    have s1 : w.heap.size + 1 < w1.heap.size := by (have := b1.size; simp at this; omega)
    have s0 : w.heap.size < w1.heap.size := by omega
    have k1 : Below w.heap.size w w1 := (((Below.refl _ _).alloc (Nat.le_refl _) _).alloc (by simp) _).trans (b1.mono (by simp; omega))
    go_wp2_with fail
    refine (monthOf_any _ _ _ _ (by omega) (by omega) m1 m2).mono ?_
    rintro e w2 ⟨rfl, b2⟩
    obtain ⟨hc2, hf2⟩ := bcell b2
    have s2 := b2.size
    have k2 : Below w.heap.size w w2 := k1.trans (b2.mono (by omega))
    go_wp2
    refine bodyPost_ret (v := .tuple #[.agg #[.int .i64 0, .int .i64 0, .int .i64 0], .int .i64 3]) (by simp [results, Tryz.results30, go_sem, hc1, hc2, s1]) rfl ⟨rfl, ?_⟩
    exact ((k2.setCell (by simp) _).setCell (by simp) _).setCell (by simp) _
theorem add_yes (y m d n : Int) (w : World) (hg : good y m d = true) (g1 : -9999 ≤ y) (g2 : y ≤ 9999) (m1 : 1 ≤ m) (m2 : m ≤ 12) (hA : Ahead w) (n1 : -119988 - (y * 12 + m - 1) ≤ n) (n2 : n ≤ 119999 - (y * 12 + m - 1)) : Calls Tryz.prog 30 #[.agg #[.int .i64 y, .int .i64 m, .int .i64 d], .int .i64 n] w fun e w' => e = .returned (.tuple #[.agg #[.int .i64 (inY (y * 12 + m - 1 + n)), .int .i64 (inM (y * 12 + m - 1 + n)), .int .i64 (inD (y * 12 + m - 1 + n) d)], .int .i64 0]) ∧ Below w.heap.size w w' := by
  have hA1 : Ahead ((w.alloc (.cells #[.int .i64 y, .int .i64 m, .int .i64 d] 23)).alloc (.cells #[.int .i64 0, .int .i64 0, .int .i64 0] 23)) := hA.below' (((Below.refl _ _).alloc (Nat.le_refl _) _).alloc (by simp) _)
  go_enter Tryz.func30, Tryz.ntmps30
  go_wp2_with fail
  refine (isDate_any _ _ _ _ hA1).mono ?_
  rintro e w1 ⟨rfl, b1⟩
  obtain ⟨hc1, hf1⟩ := bcell b1
  have s1 : w.heap.size + 1 < w1.heap.size := by (have := b1.size; simp at this; omega)
  have s0 : w.heap.size < w1.heap.size := by omega
  have k1 : Below w.heap.size w w1 := (((Below.refl _ _).alloc (Nat.le_refl _) _).alloc (by simp) _).trans (b1.mono (by simp; omega))
  go_wp2_with fail
  refine (monthOf_any _ _ _ _ (by omega) (by omega) m1 m2).mono ?_
  rintro e w2 ⟨rfl, b2⟩
  obtain ⟨hc2, hf2⟩ := bcell b2
  have s2 := b2.size
  have s02 : w.heap.size < w2.heap.size := by omega
  have s12 : w.heap.size + 1 < w2.heap.size := by omega
  have k2 : Below w.heap.size w w2 := k1.trans (b2.mono (by omega))
  go_wp2_with fail
  refine (dateIn_any _ _ _ (by omega) (by omega) (hA.below' k2)).mono ?_
  rintro e w3 ⟨rfl, b3⟩
  obtain ⟨hc3, hf3⟩ := bcell b3
  have s3 := b3.size
  have k3 : Below w.heap.size w w3 := k2.trans (b3.mono (by omega))
  go_wp2
  refine bodyPost_ret (v := .tuple #[.agg #[.int .i64 (inY (y * 12 + m - 1 + n)), .int .i64 (inM (y * 12 + m - 1 + n)), .int .i64 (inD (y * 12 + m - 1 + n) d)], .int .i64 0]) (by simp [results, Tryz.results30, go_sem, hc1, hc2, hc3, s1, s12]) rfl ⟨rfl, ?_⟩
  exact ((k3.setCell (by simp) _).setCell (by simp) _).setCell (by simp) _
theorem since_bad (y m d y' m' d' : Int) (w : World) (hA : Ahead w) (hg : good y m d = false ∨ good y' m' d' = false) : Calls Tryz.prog 31 #[.agg #[.int .i64 y, .int .i64 m, .int .i64 d], .agg #[.int .i64 y', .int .i64 m', .int .i64 d']] w fun e w' => e = .returned (.tuple #[.int .i64 0, .int .i64 0, .int .i64 2]) ∧ Below w.heap.size w w' := by
  have hA1 : Ahead ((w.alloc (.cells #[.int .i64 y, .int .i64 m, .int .i64 d] 23)).alloc (.cells #[.int .i64 y', .int .i64 m', .int .i64 d'] 23)) := hA.below' (((Below.refl _ _).alloc (Nat.le_refl _) _).alloc (by simp) _)
  cases h1 : good y m d with
  | false =>
    clear hg
    go_enter Tryz.func31, Tryz.ntmps31
    go_wp2_with fail
    refine (isDate_any _ _ _ _ hA1).mono ?_
    rintro e w1 ⟨rfl, b1⟩
    have k1 : Below w.heap.size w w1 := (((Below.refl _ _).alloc (Nat.le_refl _) _).alloc (by simp) _).trans (b1.mono (by simp; omega))
    go_wp2
    go_ret3
    exact ⟨rfl, k1⟩
  | true =>
    have h2 : good y' m' d' = false := by rcases hg with h | h; exact absurd (h1.symm.trans h) (by simp); exact h
    clear hg
    go_enter Tryz.func31, Tryz.ntmps31
    go_wp2_with fail
    refine (isDate_any _ _ _ _ hA1).mono ?_
    rintro e w1 ⟨rfl, b1⟩
    obtain ⟨hc1, hf1⟩ := bcell b1
    have s1 : w.heap.size + 1 < w1.heap.size := by (have := b1.size; simp at this; omega)
    have k1 : Below w.heap.size w w1 := (((Below.refl _ _).alloc (Nat.le_refl _) _).alloc (by simp) _).trans (b1.mono (by simp; omega))
    go_wp2_with fail
    refine (isDate_any _ _ _ _ (hA.below' k1)).mono ?_
    rintro e w2 ⟨rfl, b2⟩
    have k2 : Below w.heap.size w w2 := k1.trans (b2.mono (by omega))
    go_wp2
    go_ret3
    exact ⟨rfl, k2⟩
theorem two_below {a b c d e f g k : Prop} {B : Nat} {w w' : World} (h : a ∧ b ∧ c ∧ d ∧ e ∧ f ∧ g ∧ k ∧ Below B w w') : Below B w w' := h.2.2.2.2.2.2.2.2
theorem two_lt {a b c d e f g k : Prop} {n m : Nat} (h : a ∧ b ∧ c ∧ d ∧ e ∧ f ∧ n < m ∧ g ∧ k) : n < m := h.2.2.2.2.2.2.1
theorem since_rule (y m d y' m' d' : Int) (w : World) (hA : Ahead w) (hg : good y m d = true) (hg' : good y' m' d' = true) (y1 : -9999 ≤ y) (y2 : y ≤ 9999) (m1 : 1 ≤ m) (m2 : m ≤ 12) (d1 : 1 ≤ d) (d2 : d ≤ 31) (y1' : -9999 ≤ y') (y2' : y' ≤ 9999) (m1' : 1 ≤ m') (m2' : m' ≤ 12) (d1' : 1 ≤ d') (d2' : d' ≤ 31) (hlt : dayOf y' m' d' < dayOf y m d) :
    Calls Tryz.prog 31 #[.agg #[.int .i64 y, .int .i64 m, .int .i64 d], .agg #[.int .i64 y', .int .i64 m', .int .i64 d']] w fun e w' => e = .returned (.tuple #[.int .i64 0, .int .i64 0, .int .i64 7]) ∧ Below w.heap.size w w' := by
  have hA1 : Ahead ((w.alloc (.cells #[.int .i64 y, .int .i64 m, .int .i64 d] 23)).alloc (.cells #[.int .i64 y', .int .i64 m', .int .i64 d'] 23)) := hA.below' (((Below.refl _ _).alloc (Nat.le_refl _) _).alloc (by simp) _)
  go_enter Tryz.func31, Tryz.ntmps31
  go_wp2_with fail
  refine (isDate_any _ _ _ _ hA1).mono ?_
  rintro e w1 ⟨rfl, b1⟩
  obtain ⟨hc1, hf1⟩ := bcell b1
  have s1 : w.heap.size + 1 < w1.heap.size := by (have := b1.size; simp at this; omega)
  have s0 : w.heap.size < w1.heap.size := by omega
  have k1 : Below w.heap.size w w1 := (((Below.refl _ _).alloc (Nat.le_refl _) _).alloc (by simp) _).trans (b1.mono (by simp; omega))
  go_wp2_with fail
  refine (isDate_any _ _ _ _ (hA.below' k1)).mono ?_
  rintro e w2 ⟨rfl, b2⟩
  obtain ⟨hc2, hf2⟩ := bcell b2
  have s2 := b2.size
  have k2 : Below w.heap.size w w2 := k1.trans (b2.mono (by omega))
  have c0 : w2.cell? ⟨w.heap.size, 0, none⟩ = some (.int .i64 y) := by go_simp
  have c1 : w2.cell? ⟨w.heap.size, 1, none⟩ = some (.int .i64 m) := by go_simp
  have c2 : w2.cell? ⟨w.heap.size, 2, none⟩ = some (.int .i64 d) := by go_simp
  have e0 : w2.cell? ⟨w.heap.size + 1, 0, none⟩ = some (.int .i64 y') := by go_simp
  have e1 : w2.cell? ⟨w.heap.size + 1, 1, none⟩ = some (.int .i64 m') := by go_simp
  have e2 : w2.cell? ⟨w.heap.size + 1, 2, none⟩ = some (.int .i64 d') := by go_simp
  have t2 : w.heap.size + 1 < w2.heap.size := by omega
  have t1 : w.heap.size < w2.heap.size := by omega
  clear hc1 hf1 hc2 hf2 b1 b2 k1 s0 s1 s2 hA1
  go_wp2
  go_region_held3 (fun w' => w'.cell? ⟨w.heap.size, 0, none⟩ = some (.int .i64 y) ∧ w'.cell? ⟨w.heap.size, 1, none⟩ = some (.int .i64 m) ∧ w'.cell? ⟨w.heap.size, 2, none⟩ = some (.int .i64 d) ∧ w'.cell? ⟨w.heap.size + 1, 0, none⟩ = some (.int .i64 y') ∧ w'.cell? ⟨w.heap.size + 1, 1, none⟩ = some (.int .i64 m') ∧ w'.cell? ⟨w.heap.size + 1, 2, none⟩ = some (.int .i64 d') ∧ w.heap.size < w'.heap.size ∧ w.heap.size + 1 < w'.heap.size ∧ Below w.heap.size w w')
    ((refine ⟨?_, ?_, ?_, ?_, ?_, ?_, ?_, ?_, ?_⟩ <;> (first | go_keep | omega | assumption | exact Below.drew (by assumption) | (rw [hcc _ _ (by first | exact t1 | exact t2 | omega)]; first | exact c0 | exact c1 | exact c2 | exact e0 | exact e1 | exact e2 | go_keep) | (have := hb.size; omega) | exact Below.trans (by first | assumption | exact two_below (by assumption) | exact Below.drew (by assumption)) (Below.mono (by assumption) (by first | omega | (simp; omega))))))
    (first | (go_at_call 82; refine (dayOf_any _ _ _ _ (by omega) (by omega) (by omega) (by omega) (by omega) (by omega) (hA.below' (by first | assumption | exact two_below (by assumption) | exact Below.drew (by assumption)))).mono ?_; rintro e w' ⟨rfl, hb⟩; have hbW : Below w.heap.size w w' := Below.trans (by first | assumption | exact two_below (by assumption) | exact Below.drew (by assumption)) (hb.mono (by first | omega | (simp; omega) | exact Nat.le_of_lt (two_lt (by assumption)))); obtain ⟨hcc, hff⟩ := bcell hb))
  all_goals
    go_wp2
    go_ret3
    exact ⟨rfl, by assumption⟩
end Go.Proofs.YtiekgkjdhjdcoaaGreatDoor
