/- The seat: the specification's functions on weeks. -/
import Derived.Test.YthdjebomeibngaaGreatDoorSeatZ
import Derived.Test.YthdjebomeibngaaGreatDoorSeatL
namespace Go.Proofs.YthdjebomeibngaaGreatDoor
open Go Go.RowKit Go.DayM
set_option maxRecDepth 100000
set_option maxHeartbeats 2000000
theorem weekOfR_any (n : Int) (w : World) (h1 : -4382544 ≤ n) (h2 : n ≤ 2921939) : Calls Tryz.prog 94 #[.int .i64 n] w fun e w' => e = .returned (.agg #[.int .i64 (wY n), .int .i64 (wW n), .int .i64 (wd n)]) ∧ Below w.heap.size w w' := by
  obtain ⟨t1, t2⟩ := th_bd h1 h2
  have hw := wd_bd n
  unfold th at t1 t2
  unfold wd at hw t1 t2
  have k0 : Below w.heap.size w (w.alloc (.cells #[.int .i64 0, .int .i64 0, .int .i64 0] 33)) := (Below.refl _ _).alloc (Nat.le_refl _) _
  go_enter Tryz.func94, Tryz.ntmps94
  go_wp2_with (first | (go_at_call 88; refine (weekdayOfR_any _ _ (by omega) (by omega)).mono ?_; rintro e w' ⟨rfl, rfl⟩))
  refine (civilOfR_any _ _ (by omega) (by omega)).mono ?_
  rintro e w1 ⟨y, m, ho, g1, _, rfl, b1⟩
  have hy := (of_bd ho (by omega) (by omega)).2
  have ho' : Of (th n) y m := ho
  have e1 : wY n = y := week_year ho'
  have e2 : wW n = (th n - ys y) / 7 + 1 := by unfold wW; rw [e1]
  have e4 : dayOf y 1 1 = ys y := by unfold dayOf; rw [da_one]; omega
  have q1 := ho'.y1
  obtain ⟨r1, r2⟩ := ys_range g1 hy
  have H1 := Lib.hid e1
  have H2 := Lib.hid e2
  have H4 := Lib.hid e4
  obtain ⟨hc1, hf1⟩ := bcell b1
  have s1 : w.heap.size < w1.heap.size := by (have := b1.size; simp at this; omega)
  have k1 : Below w.heap.size w w1 := k0.trans (b1.mono (by simp))
  unfold th wd at q1
  clear e1 e2 e4 ho ho' b1
  go_wp2_with fail
  refine (dayOfR_any _ _ _ _ g1 hy (by omega) (by omega) (by omega) (by omega)).mono ?_
  rw [H4.out]
  rintro e w2 ⟨rfl, b2⟩
  obtain ⟨hc2, hf2⟩ := bcell b2
  have s2 : w1.heap.size < w2.heap.size := by (have := b2.size; simp at this; omega)
  have s02 : w.heap.size < w2.heap.size := by omega
  have s03 : w.heap.size < w1.heap.size + 1 := by omega
  have k2 : Below w.heap.size w w2 := (k1.alloc (by omega) _).trans (b2.mono (by simp; omega))
  clear b2
  go_wp2
  refine bodyPost_ret (v := .agg #[.int .i64 y, .int .i64 ((n - (n + 5) % 7 + 3 - ys y) / 7 + 1), .int .i64 ((n + 5) % 7)]) (by simp [results, Tryz.results94, go_sem, hc1, hc2, s1, s03]) rfl ⟨?_, ?_⟩
  · rw [H1.out, H2.out]; rfl
  · exact ((k2.setCell (by simp) _).setCell (by simp) _).setCell (by simp) _
theorem weekR_no (n : Int) (w : World) (hd : isDayB n = false) : Calls Tryz.prog 28 #[.int .i64 n] w fun e w' => e = .returned (.tuple #[.agg #[.int .i64 0, .int .i64 0, .int .i64 0], .int .i64 2]) ∧ Below w.heap.size w w' := by
  go_enter Tryz.func28, Tryz.ntmps28
  go_wp2_with fail
  refine (isDayR_any _ _).mono ?_
  rintro e w1 ⟨rfl, b1⟩
  obtain ⟨hc1, hf1⟩ := bcell b1
  have s1 : w.heap.size < w1.heap.size := by (have := b1.size; simp at this; omega)
  have k1 : Below w.heap.size w w1 := ((Below.refl _ _).alloc (Nat.le_refl _) _).trans (b1.mono (by simp))
  go_wp2
  refine bodyPost_ret (v := .tuple #[.agg #[.int .i64 0, .int .i64 0, .int .i64 0], .int .i64 2]) (by simp [results, Tryz.results28, go_sem, hc1]) rfl ⟨rfl, ?_⟩
  exact ((k1.setCell (by simp) _).setCell (by simp) _).setCell (by simp) _
theorem weekR_yes (n : Int) (w : World) (hd : isDayB n = true) (h1 : -4382544 ≤ n) (h2 : n ≤ 2921939) : Calls Tryz.prog 28 #[.int .i64 n] w fun e w' => e = .returned (.tuple #[.agg #[.int .i64 (wY n), .int .i64 (wW n), .int .i64 (wd n)], .int .i64 0]) ∧ Below w.heap.size w w' := by
  go_enter Tryz.func28, Tryz.ntmps28
  go_wp2_with fail
  refine (isDayR_any _ _).mono ?_
  rintro e w1 ⟨rfl, b1⟩
  obtain ⟨hc1, hf1⟩ := bcell b1
  have s1 : w.heap.size < w1.heap.size := by (have := b1.size; simp at this; omega)
  have k1 : Below w.heap.size w w1 := ((Below.refl _ _).alloc (Nat.le_refl _) _).trans (b1.mono (by simp))
  go_wp2_with fail
  refine (weekOfR_any _ _ h1 h2).mono ?_
  rintro e w2 ⟨rfl, b2⟩
  obtain ⟨hc2, hf2⟩ := bcell b2
  have s2 := b2.size
  have s02 : w.heap.size < w2.heap.size := by omega
  have k2 : Below w.heap.size w w2 := k1.trans (b2.mono (by omega))
  go_wp2
  refine bodyPost_ret (v := .tuple #[.agg #[.int .i64 (wY n), .int .i64 (wW n), .int .i64 (wd n)], .int .i64 0]) (by simp [results, Tryz.results28, go_sem, hc1, hc2, s1]) rfl ⟨rfl, ?_⟩
  exact ((k2.setCell (by simp) _).setCell (by simp) _).setCell (by simp) _
end Go.Proofs.YthdjebomeibngaaGreatDoor
