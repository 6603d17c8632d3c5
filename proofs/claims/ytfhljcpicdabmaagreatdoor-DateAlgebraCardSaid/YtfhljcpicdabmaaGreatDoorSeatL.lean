/- The seat: the specification's Day, Civil, Weekday. -/
import Derived.Test.YtfhljcpicdabmaaGreatDoorSeatK
import Derived.Test.YtfhljcpicdabmaaGreatDoorSeatH
namespace Go.Proofs.YtfhljcpicdabmaaGreatDoor
open Go Go.RowKit Go.DayM
set_option maxRecDepth 100000
set_option maxHeartbeats 1000000
theorem dayOf_low : dayOf (-9999) 1 1 = -4382544 := by decide
theorem dayOf_high : dayOf 9999 12 31 = 2921939 := by decide
theorem lowR_any (w : World) : Calls Tryz.prog 145 #[] w fun e w' => e = .returned (.int .i64 (-4382544)) ∧ Below w.heap.size w w' := by
  have H := Lib.hid dayOf_low
  go_enter Tryz.func145, Tryz.ntmps145
  go_wp2_with (go_at_call 86; refine (dayOfR_any _ _ _ _ (by omega) (by omega) (by omega) (by omega) (by omega) (by omega)).mono ?_; rintro e w' ⟨rfl, hb⟩)
  go_ret
  exact ⟨ret_int H.out, hb⟩
theorem highR_any (w : World) : Calls Tryz.prog 127 #[] w fun e w' => e = .returned (.int .i64 2921939) ∧ Below w.heap.size w w' := by
  have H := Lib.hid dayOf_high
  go_enter Tryz.func127, Tryz.ntmps127
  go_wp2_with (go_at_call 86; refine (dayOfR_any _ _ _ _ (by omega) (by omega) (by omega) (by omega) (by omega) (by omega)).mono ?_; rintro e w' ⟨rfl, hb⟩)
  go_ret
  exact ⟨ret_int H.out, hb⟩
theorem isDayR_any (n : Int) (w : World) : Calls Tryz.prog 77 #[.int .i64 n] w fun e w' => e = .returned (.bool (isDayB n)) ∧ Below w.heap.size w w' := by
  by_cases h : -4382544 ≤ n
  · go_enter Tryz.func77, Tryz.ntmps77
    go_wp2_with (first | (go_at_call 145; refine (lowR_any _).mono ?_; rintro e w' ⟨rfl, hb⟩) | (go_at_call 127; refine (highR_any _).mono ?_; rintro e w' ⟨rfl, hb2⟩))
    go_ret
    exact ⟨ret_bool (by unfold isDayB; simp [h]; omega), hb.trans (hb2.mono hb.size)⟩
  · go_enter Tryz.func77, Tryz.ntmps77
    go_wp2_with (first | (go_at_call 145; refine (lowR_any _).mono ?_; rintro e w' ⟨rfl, hb⟩) | (go_at_call 127; refine (highR_any _).mono ?_; rintro e w' ⟨rfl, hb2⟩))
    go_ret
    exact ⟨ret_bool (by unfold isDayB; simp; omega), hb⟩
theorem restR_any (n : Int) (w : World) (h1 : -10000000 ≤ n) (h2 : n ≤ 10000000) : Calls Tryz.prog 151 #[.int .i64 n, .int .i64 7] w fun e w' => e = .returned (.int .i64 (n % 7)) ∧ w = w' := by
  go_enter Tryz.func151, Tryz.ntmps151
  go_wp2_with (go_at_call 150; refine (floor_any _ _ _ (by omega) (by omega) (by omega) (by omega)).mono ?_; rintro e w' ⟨rfl, rfl⟩)
  go_ret
  exact ⟨ret_int (by omega), rfl⟩
theorem weekdayOfR_any (n : Int) (w : World) (h1 : -4382544 ≤ n) (h2 : n ≤ 2921939) : Calls Tryz.prog 88 #[.int .i64 n] w fun e w' => e = .returned (.int .i64 ((n + 5) % 7)) ∧ w = w' := by
  go_enter Tryz.func88, Tryz.ntmps88
  go_wp2_with (go_at_call 151; refine (restR_any _ _ (by omega) (by omega)).mono ?_; rintro e w' ⟨rfl, rfl⟩)
  go_ret
  exact ⟨rfl, rfl⟩
theorem weekdayR_yes (n : Int) (w : World) (h1 : -4382544 ≤ n) (h2 : n ≤ 2921939) : Calls Tryz.prog 24 #[.int .i64 n] w fun e w' => e = .returned (.tuple #[.int .i64 ((n + 5) % 7), .int .i64 0]) ∧ Below w.heap.size w w' := by
  have hd : isDayB n = true := by unfold isDayB; simp; omega
  go_enter Tryz.func24, Tryz.ntmps24
  go_wp2_with (first | (go_at_call 77; refine (isDayR_any _ _).mono ?_; rintro e w' ⟨rfl, hb⟩) | (go_at_call 88; refine (weekdayOfR_any _ _ h1 h2).mono ?_; rintro e w' ⟨rfl, rfl⟩))
  go_ret2
  exact ⟨rfl, hb⟩
theorem weekdayR_no (n : Int) (w : World) (hd : isDayB n = false) : Calls Tryz.prog 24 #[.int .i64 n] w fun e w' => e = .returned (.tuple #[.int .i64 0, .int .i64 2]) ∧ Below w.heap.size w w' := by
  go_enter Tryz.func24, Tryz.ntmps24
  go_wp2_with (first | (go_at_call 77; refine (isDayR_any _ _).mono ?_; rintro e w' ⟨rfl, hb⟩))
  go_ret2
  exact ⟨rfl, hb⟩
theorem dayR_no (y m d : Int) (w : World) (hg : good y m d = false) : Calls Tryz.prog 22 #[.agg #[.int .i64 y, .int .i64 m, .int .i64 d]] w fun e w' => e = .returned (.tuple #[.int .i64 0, .int .i64 2]) ∧ Below w.heap.size w w' := by
  go_enter Tryz.func22, Tryz.ntmps22
  go_wp2_with (go_at_call 65; refine (goodR_any _ _ _ _).mono ?_; rintro e w' ⟨rfl, hb⟩; obtain ⟨hcc, hff⟩ := bcell hb)
  go_ret2
  exact ⟨rfl, ((Below.refl _ _).alloc (Nat.le_refl _) _).trans (hb.mono (by simp))⟩
theorem dayR_yes (y m d : Int) (w : World) (hg : good y m d = true) (g1 : -9999 ≤ y) (g2 : y ≤ 9999) (h1 : 1 ≤ m) (h2 : m ≤ 12) (h3 : 1 ≤ d) (h4 : d ≤ 31) : Calls Tryz.prog 22 #[.agg #[.int .i64 y, .int .i64 m, .int .i64 d]] w fun e w' => e = .returned (.tuple #[.int .i64 (dayOf y m d), .int .i64 0]) ∧ Below w.heap.size w w' := by
  go_enter Tryz.func22, Tryz.ntmps22
  go_wp2_with (first | (go_at_call 65; refine (goodR_any _ _ _ _).mono ?_; rintro e w' ⟨rfl, hb⟩; obtain ⟨hcc, hff⟩ := bcell hb) | (go_at_call 86; refine (dayOfR_any _ _ _ _ g1 g2 h1 h2 h3 h4).mono ?_; rintro e w' ⟨rfl, hb2⟩; obtain ⟨hcc2, hff2⟩ := bcell hb2))
  go_ret2
  exact ⟨rfl, ((((Below.refl _ _).alloc (Nat.le_refl _) _).trans (hb.mono (by simp))).trans (hb2.mono (by have := hb.size; simp at this; omega)))⟩
theorem civilR_no (n : Int) (w : World) (hd : isDayB n = false) : Calls Tryz.prog 23 #[.int .i64 n] w fun e w' => e = .returned (.tuple #[.agg #[.int .i64 0, .int .i64 0, .int .i64 0], .int .i64 2]) ∧ Below w.heap.size w w' := by
  go_enter Tryz.func23, Tryz.ntmps23
  go_wp2_with (first | (go_at_call 77; refine (isDayR_any _ _).mono ?_; rintro e w' ⟨rfl, hb⟩; obtain ⟨hcc, hff⟩ := bcell hb))
  refine bodyPost_ret (v := .tuple #[.agg #[.int .i64 0, .int .i64 0, .int .i64 0], .int .i64 2]) (by simp [results, Tryz.results23, go_sem, hcc]) rfl ?_
  have hw : Below w.heap.size w w' := ((Below.refl _ _).alloc (Nat.le_refl _) _).trans (hb.mono (by simp))
  first | exact ⟨rfl, hw⟩ | exact ⟨rfl, ((hw.setCell (by simp) _).setCell (by simp) _).setCell (by simp) _⟩
theorem civilR_yes (n : Int) (w : World) (hd : isDayB n = true) (h1 : -4382544 ≤ n) (h2 : n ≤ 2921939) : Calls Tryz.prog 23 #[.int .i64 n] w (SomeCivil n w) := by
  go_enter Tryz.func23, Tryz.ntmps23
  go_wp2_with (first | (go_at_call 77; refine (isDayR_any _ _).mono ?_; rintro e w1 ⟨rfl, hb1⟩; obtain ⟨hcc1, hff1⟩ := bcell hb1; have hlt : w.heap.size < w1.heap.size := by (have := hb1.size; simp at this; omega)) | (go_at_call 87; refine (civilOfR_any _ _ h1 h2).mono ?_; rintro e w' ⟨y, m, ho, g1, g2, rfl, hb⟩; obtain ⟨hcc, hff⟩ := bcell hb))
  have hy := (of_bd ho h1 h2).2
  have hw1 : Below w.heap.size w w1 := ((Below.refl _ _).alloc (Nat.le_refl _) _).trans (hb1.mono (by simp))
  have hw : Below w.heap.size w w' := hw1.trans (hb.mono (by omega))
  refine bodyPost_ret (v := .tuple #[.agg #[.int .i64 y, .int .i64 m, .int .i64 (n - ys y - da y m + 1)], .int .i64 0]) (by simp [results, Tryz.results23, go_sem, hcc, hcc1, hlt]) rfl ?_
  exact ⟨y, m, ho, g1, hy, rfl, ((hw.setCell (by simp) _).setCell (by simp) _).setCell (by simp) _⟩
end Go.Proofs.YtfhljcpicdabmaaGreatDoor
