/- The seat: the project's functions on weeks. -/
import Derived.Test.YthdjebomeibngaaGreatDoorSeatYm
import Derived.Test.YthdjebomeibngaaGreatDoorSeatQs
namespace Go.Proofs.YthdjebomeibngaaGreatDoor
open Go Go.RowKit Go.DayM
set_option maxRecDepth 100000
set_option maxHeartbeats 1000000
theorem ys_range {y : Int} (y1 : -9999 ≤ y) (y2 : y ≤ 9999) : -4382544 ≤ ys y ∧ ys y ≤ 2921575 := by
  have b := ys_mono (-9999) y y1
  have c := ys_mono y 9999 y2
  have e := ys_low
  have f : ys 9999 = 2921575 := by decide
  omega
theorem firstThursday_any (y : Int) (w : World) (y1 : -9999 ≤ y) (y2 : y ≤ 9999) : Calls Tryz.prog 93 #[.int .i64 y] w fun e w' => e = .returned (.int .i64 (ft y)) ∧ w = w' := by
  obtain ⟨r1, r2⟩ := ys_range y1 y2
  have hw := wd_bd (ys y)
  unfold wd at hw
  go_enter Tryz.func93, Tryz.ntmps93
  go_wp2_with (first | (go_at_call 146; refine (yearStart_any _ _ (by omega) (by omega)).mono ?_; rintro e w' ⟨rfl, rfl⟩) | (go_at_call 85; refine (weekdayOf_any _ _ (by omega) (by omega)).mono ?_; rintro e w' ⟨rfl, rfl⟩) | (go_at_call 148; refine (modulo_any _ _ _ (by omega) (by omega) (by omega) (by omega) (by decide) (by decide)).mono ?_; rintro e w' ⟨rfl, rfl⟩))
  go_ret
  exact ⟨ret_int (by unfold ft wd; omega), rfl⟩
theorem run_field0 (a b c : Int) (w : World) : (Instr.field 23 (.agg #[.int .i64 a, .int .i64 b, .int .i64 c]) 0).run Tryz.prog w = .ok (.int .i64 a) w := by kernel_rfl
theorem weekOf_any (n : Int) (w : World) (h1 : -4382544 ≤ n) (h2 : n ≤ 2921939) (hA : Ahead w) : Calls Tryz.prog 91 #[.int .i64 n] w fun e w' => e = .returned (.agg #[.int .i64 (wY n), .int .i64 (wW n), .int .i64 (wd n)]) ∧ (∃ m, Of (th n) (wY n) m) ∧ -9999 ≤ wY n ∧ wY n ≤ 9999 ∧ Below w.heap.size w w' := by
  obtain ⟨t1, t2⟩ := th_bd h1 h2
  have hw := wd_bd n
  unfold th at t1 t2
  unfold wd at hw t1 t2
  have hA1 : Ahead (w.alloc (.cells #[.int .i64 0, .int .i64 0, .int .i64 0] 33)) := hA.below' ((Below.refl _ _).alloc (Nat.le_refl _) _)
  have k0 : Below w.heap.size w (w.alloc (.cells #[.int .i64 0, .int .i64 0, .int .i64 0] 33)) := (Below.refl _ _).alloc (Nat.le_refl _) _
  go_enter Tryz.func91, Tryz.ntmps91
  go_wp2_with (first | (go_at_call 85; refine (weekdayOf_any _ _ (by omega) (by omega)).mono ?_; rintro e w' ⟨rfl, rfl⟩))
  refine (dateOf_any _ _ (by omega) (by omega) hA1).mono ?_
  rintro e w1 ⟨y, m, ho, g1, _, rfl, b1⟩
  have hfld := fun b c w => run_field0 y b c w
  have hy := (of_bd ho (by omega) (by omega)).2
  have ho' : Of (th n) y m := ho
  have e1 : wY n = y := week_year ho'
  obtain ⟨q1, q2, q3⟩ := ft_div (th_wd n) ho'.y1
  have e2 : wW n = (th n - ft y) / 7 + 1 := by unfold wW; rw [e1, q2]
  obtain ⟨f1, f2, f3⟩ := ft_bd y
  obtain ⟨r1, r2⟩ := ys_range g1 hy
  have H1 := Lib.hid e1
  have H2 := Lib.hid e2
  have H3 := Lib.hid ho'
  obtain ⟨hc1, hf1⟩ := bcell b1
  have s1 : w.heap.size < w1.heap.size := by (have := b1.size; simp at this; omega)
  have k1 : Below w.heap.size w w1 := k0.trans (b1.mono (by simp))
  unfold th wd at q1
  clear e1 e2 ho ho' q2 q3 b1 f3
  go_wp2_with (first | (go_at_call 93; refine (firstThursday_any _ _ (by omega) (by omega)).mono ?_; rintro e w' ⟨rfl, rfl⟩))
  refine bodyPost_ret (v := .agg #[.int .i64 y, .int .i64 ((n - (n + 5) % 7 + 3 - ft y) / 7 + 1), .int .i64 ((n + 5) % 7)]) (by simp [results, Tryz.results91, go_sem, hc1]) rfl ⟨?_, ⟨m, ?_⟩, ?_, ?_, ?_⟩
  · rw [H1.out, H2.out]; rfl
  · rw [H1.out]; exact H3.out
  · rw [H1.out]; exact g1
  · rw [H1.out]; exact hy
  · exact ((k1.setCell (by simp) _).setCell (by simp) _).setCell (by simp) _
theorem week_no (n : Int) (w : World) (hd : isDayB n = false) : Calls Tryz.prog 26 #[.int .i64 n] w fun e w' => e = .returned (.tuple #[.agg #[.int .i64 0, .int .i64 0, .int .i64 0], .int .i64 2]) ∧ Below w.heap.size w w' := by
  go_enter Tryz.func26, Tryz.ntmps26
  go_wp2_with (first | (go_at_call 83; refine (isDay_any _ _).mono ?_; rintro e w' ⟨rfl, rfl⟩))
  refine bodyPost_ret (v := .tuple #[.agg #[.int .i64 0, .int .i64 0, .int .i64 0], .int .i64 2]) (by simp [results, Tryz.results26, go_sem]) rfl ⟨rfl, (Below.refl _ _).alloc (Nat.le_refl _) _⟩
theorem week_yes (n : Int) (w : World) (hd : isDayB n = true) (h1 : -4382544 ≤ n) (h2 : n ≤ 2921939) (hA : Ahead w) : Calls Tryz.prog 26 #[.int .i64 n] w fun e w' => e = .returned (.tuple #[.agg #[.int .i64 (wY n), .int .i64 (wW n), .int .i64 (wd n)], .int .i64 0]) ∧ (∃ m, Of (th n) (wY n) m) ∧ -9999 ≤ wY n ∧ wY n ≤ 9999 ∧ Below w.heap.size w w' := by
  go_enter Tryz.func26, Tryz.ntmps26
  go_wp2_with (first | (go_at_call 83; refine (isDay_any _ _).mono ?_; rintro e w' ⟨rfl, rfl⟩))
  refine (weekOf_any _ _ h1 h2 (hA.below' ((Below.refl _ _).alloc (Nat.le_refl _) _))).mono ?_
  rintro e w1 ⟨rfl, ho, g1, g2, b1⟩
  obtain ⟨hc1, hf1⟩ := bcell b1
  have s1 : w.heap.size < w1.heap.size := by (have := b1.size; simp at this; omega)
  have k1 : Below w.heap.size w w1 := ((Below.refl _ _).alloc (Nat.le_refl _) _).trans (b1.mono (by simp))
  have HO := Lib.hid ho
  clear ho
  go_wp2
  refine bodyPost_ret (v := .tuple #[.agg #[.int .i64 (wY n), .int .i64 (wW n), .int .i64 (wd n)], .int .i64 0]) (by simp [results, Tryz.results26, go_sem, hc1]) rfl ⟨rfl, HO.out, g1, g2, ?_⟩
  exact ((k1.setCell (by simp) _).setCell (by simp) _).setCell (by simp) _
end Go.Proofs.YthdjebomeibngaaGreatDoor
