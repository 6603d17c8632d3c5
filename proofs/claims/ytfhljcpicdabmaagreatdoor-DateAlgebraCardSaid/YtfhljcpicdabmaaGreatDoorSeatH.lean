/- The seat: Day and Civil. -/
import Derived.Test.YtfhljcpicdabmaaGreatDoorSeatF
import Derived.Test.YtfhljcpicdabmaaGreatDoorSeatG
namespace Go.Proofs.YtfhljcpicdabmaaGreatDoor
open Go Go.RowKit Go.DayM
set_option maxRecDepth 100000
set_option maxHeartbeats 1000000
theorem day_no (y m d : Int) (w : World) (hg : good y m d = false) (hA : Ahead w) : Calls Tryz.prog 19 #[.agg #[.int .i64 y, .int .i64 m, .int .i64 d]] w fun e w' => e = .returned (.tuple #[.int .i64 0, .int .i64 2]) ∧ Below w.heap.size w w' := by
  have hA1 : Ahead (w.alloc (.cells #[.int .i64 y, .int .i64 m, .int .i64 d] 23)) := hA.below' ((Below.refl _ _).alloc (Nat.le_refl _) _)
  go_enter Tryz.func19, Tryz.ntmps19
  go_wp2_with (go_at_call 81; refine (isDate_any _ _ _ _ hA1).mono ?_; rintro e w' ⟨rfl, hb⟩; obtain ⟨hcc, hff⟩ := bcell hb)
  go_ret2
  exact ⟨rfl, ((Below.refl _ _).alloc (Nat.le_refl _) _).trans (hb.mono (by simp))⟩
theorem day_yes (y m d : Int) (w : World) (hg : good y m d = true) (g1 : -9999 ≤ y) (g2 : y ≤ 9999) (h1 : 1 ≤ m) (h2 : m ≤ 12) (h3 : 1 ≤ d) (h4 : d ≤ 31) (hA : Ahead w) : Calls Tryz.prog 19 #[.agg #[.int .i64 y, .int .i64 m, .int .i64 d]] w fun e w' => e = .returned (.tuple #[.int .i64 (dayOf y m d), .int .i64 0]) ∧ Below w.heap.size w w' := by
  have hA1 : Ahead (w.alloc (.cells #[.int .i64 y, .int .i64 m, .int .i64 d] 23)) := hA.below' ((Below.refl _ _).alloc (Nat.le_refl _) _)
  go_enter Tryz.func19, Tryz.ntmps19
  go_wp2_with (first | (go_at_call 81; refine (isDate_any _ _ _ _ hA1).mono ?_; rintro e w' ⟨rfl, hb⟩; obtain ⟨hcc, hff⟩ := bcell hb) | (go_at_call 82; refine (dayOf_any _ _ _ _ g1 g2 h1 h2 h3 h4 (hA1.below' (by assumption))).mono ?_; rintro e w' ⟨rfl, hb2⟩; obtain ⟨hcc2, hff2⟩ := bcell hb2))
  go_ret2
  exact ⟨rfl, ((((Below.refl _ _).alloc (Nat.le_refl _) _).trans (hb.mono (by simp))).trans (hb2.mono (by have := hb.size; simp at this; omega)))⟩
theorem civil_no (n : Int) (w : World) (hd : isDayB n = false) : Calls Tryz.prog 20 #[.int .i64 n] w fun e w' => e = .returned (.tuple #[.agg #[.int .i64 0, .int .i64 0, .int .i64 0], .int .i64 2]) ∧ Below w.heap.size w w' := by
  go_enter Tryz.func20, Tryz.ntmps20
  go_wp2_with (first | (go_at_call 83; refine (isDay_any _ _).mono ?_; rintro e w' ⟨rfl, rfl⟩))
  refine bodyPost_ret (v := .tuple #[.agg #[.int .i64 0, .int .i64 0, .int .i64 0], .int .i64 2]) (by simp [results, Tryz.results20, go_sem]) rfl ⟨rfl, (Below.refl _ _).alloc (Nat.le_refl _) _⟩
def SomeCivil (n : Int) (w : World) (e : Ending) (w' : World) : Prop := ∃ y m : Int, Of n y m ∧ -9999 ≤ y ∧ y ≤ 9999 ∧ e = .returned (.tuple #[.agg #[.int .i64 y, .int .i64 m, .int .i64 (n - ys y - da y m + 1)], .int .i64 0]) ∧ Below w.heap.size w w'
theorem civil_yes (n : Int) (w : World) (hd : isDayB n = true) (h1 : -4382544 ≤ n) (h2 : n ≤ 2921939) (hA : Ahead w) : Calls Tryz.prog 20 #[.int .i64 n] w (SomeCivil n w) := by
  go_enter Tryz.func20, Tryz.ntmps20
  go_wp2_with (first | (go_at_call 83; refine (isDay_any _ _).mono ?_; rintro e w' ⟨rfl, rfl⟩) | (go_at_call 84; refine (dateOf_any _ _ h1 (by omega) (hA.below' ((Below.refl _ _).alloc (Nat.le_refl _) _))).mono ?_; rintro e w' ⟨y, m, ho, g1, g2, rfl, hb⟩; obtain ⟨hcc, hff⟩ := bcell hb))
  have hy := (of_bd ho h1 h2).2
  have hw : Below w.heap.size w w' := ((Below.refl _ _).alloc (Nat.le_refl _) _).trans (hb.mono (by simp))
  refine bodyPost_ret (v := .tuple #[.agg #[.int .i64 y, .int .i64 m, .int .i64 (n - ys y - da y m + 1)], .int .i64 0]) (by simp [results, Tryz.results20, go_sem, hcc]) rfl ?_
  exact ⟨y, m, ho, g1, hy, rfl, ((hw.setCell (by simp) _).setCell (by simp) _).setCell (by simp) _⟩
end Go.Proofs.YtfhljcpicdabmaaGreatDoor
