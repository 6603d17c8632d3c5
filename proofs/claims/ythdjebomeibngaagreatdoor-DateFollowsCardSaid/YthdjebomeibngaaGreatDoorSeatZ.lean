/- The seat: OfWeek of the project. -/
import Derived.Test.YthdjebomeibngaaGreatDoorSeatY
namespace Go.Proofs.YthdjebomeibngaaGreatDoor
open Go Go.RowKit Go.DayM
set_option maxRecDepth 100000
set_option maxHeartbeats 1000000
def wkC (Y W D : Int) : Int := ft Y + 7 * (W - 1) + D - 3
theorem ofWeek_arg (Y W D : Int) (w : World) (h : W < 0 ∨ D < 0 ∨ 7 ≤ D) : Calls Tryz.prog 27 #[.agg #[.int .i64 Y, .int .i64 W, .int .i64 D]] w fun e w' => e = .returned (.tuple #[.int .i64 0, .int .i64 2]) ∧ Below w.heap.size w w' := by
  rcases Classical.em (W < 0) with h1 | h1
  · go_enter Tryz.func27, Tryz.ntmps27
    go_wp2
    go_ret2
    exact ⟨rfl, (Below.refl _ _).alloc (Nat.le_refl _) _⟩
  · rcases Classical.em (D < 0) with h2 | h2
    · go_enter Tryz.func27, Tryz.ntmps27
      go_wp2
      go_ret2
      exact ⟨rfl, (Below.refl _ _).alloc (Nat.le_refl _) _⟩
    · have h3 : 7 ≤ D := by omega
      go_enter Tryz.func27, Tryz.ntmps27
      go_wp2
      go_ret2
      exact ⟨rfl, (Below.refl _ _).alloc (Nat.le_refl _) _⟩
theorem ofWeek_none (Y W D : Int) (w : World) (W0 : 0 ≤ W) (D0 : 0 ≤ D) (D6 : D < 7) (h : Y < -9999 ∨ 9999 < Y ∨ 53 < W) : Calls Tryz.prog 27 #[.agg #[.int .i64 Y, .int .i64 W, .int .i64 D]] w fun e w' => e = .returned (.tuple #[.int .i64 0, .int .i64 5]) ∧ Below w.heap.size w w' := by
  rcases Classical.em (Y < -9999 ∨ 9999 < Y) with h1 | h1
  · go_enter Tryz.func27, Tryz.ntmps27
    go_wp2_with (first | (go_at_call 92; refine (isYear_no _ _ h1).mono ?_; rintro e w' ⟨rfl, rfl⟩))
    go_ret2
    exact ⟨rfl, (Below.refl _ _).alloc (Nat.le_refl _) _⟩
  · have h3 : 53 < W := by omega
    go_enter Tryz.func27, Tryz.ntmps27
    go_wp2_with (first | (go_at_call 92; refine (isYear_yes _ _ (by omega) (by omega)).mono ?_; rintro e w' ⟨rfl, rfl⟩))
    go_ret2
    exact ⟨rfl, (Below.refl _ _).alloc (Nat.le_refl _) _⟩
theorem firstThursday_any' (y : Int) (w : World) (y1 : -9999 ≤ y) (y2 : y ≤ 9999) : Calls Tryz.prog 93 #[.int .i64 y] w fun e w' => e = .returned (.int .i64 (ft y)) ∧ w' = w := (firstThursday_any y w y1 y2).mono fun _ _ ⟨h, k⟩ => ⟨h, k.symm⟩
theorem isDay_any' (n : Int) (w : World) : Calls Tryz.prog 83 #[.int .i64 n] w fun e w' => e = .returned (.bool (isDayB n)) ∧ w' = w := (isDay_any n w).mono fun _ _ ⟨h, k⟩ => ⟨h, k.symm⟩
theorem ofWeek_noday (Y W D : Int) (w : World) (W0 : 0 ≤ W) (D0 : 0 ≤ D) (D6 : D < 7) (Y1 : -9999 ≤ Y) (Y2 : Y ≤ 9999) (W2 : W ≤ 53) (hd : isDayB (wkC Y W D) = false) : Calls Tryz.prog 27 #[.agg #[.int .i64 Y, .int .i64 W, .int .i64 D]] w fun e w' => e = .returned (.tuple #[.int .i64 0, .int .i64 5]) ∧ Below w.heap.size w w' := by
  obtain ⟨f1, f2, _⟩ := ft_bd Y
  obtain ⟨r1, r2⟩ := ys_range Y1 Y2
  have x1 : IntKind.i64.wrap (W - 1) = W - 1 := IntWalk.i64_in _ (by omega)
  have x2 : IntKind.i64.wrap (7 * (W - 1)) = 7 * (W - 1) := IntWalk.i64_in _ (by omega)
  have x3 : IntKind.i64.wrap (ft Y + 7 * (W - 1)) = ft Y + 7 * (W - 1) := IntWalk.i64_in _ (by omega)
  have x4 : IntKind.i64.wrap (ft Y + 7 * (W - 1) + D) = ft Y + 7 * (W - 1) + D := IntWalk.i64_in _ (by omega)
  have x5 : IntKind.i64.wrap (ft Y + 7 * (W - 1) + D - 3) = wkC Y W D := IntWalk.i64_in _ (by omega)
  go_enter Tryz.func27, Tryz.ntmps27
  go_wp2_with (first | (go_at_call 92; refine (isYear_yes _ _ (by omega) (by omega)).mono ?_; rintro e w' ⟨rfl, rfl⟩))
  go_quiet ((go_at_call 93; exact Calls.quiet_of_same (firstThursday_any' _ _ Y1 Y2)))
  clear x1 x2 x3 x4 x5
  have a0 : ((w.alloc (.cells #[.int .i64 Y, .int .i64 W, .int .i64 D] 33)).drewN nq).cell? ⟨w.heap.size, 0, none⟩ = some (.int .i64 Y) := by go_simp
  have a1 : ((w.alloc (.cells #[.int .i64 Y, .int .i64 W, .int .i64 D] 33)).drewN nq).cell? ⟨w.heap.size, 1, none⟩ = some (.int .i64 W) := by go_simp
  have a2 : ((w.alloc (.cells #[.int .i64 Y, .int .i64 W, .int .i64 D] 33)).drewN nq).cell? ⟨w.heap.size, 2, none⟩ = some (.int .i64 D) := by go_simp
  have u1 : w.heap.size < ((w.alloc (.cells #[.int .i64 Y, .int .i64 W, .int .i64 D] 33)).drewN nq).heap.size := by simp
  have k1 : Below w.heap.size w ((w.alloc (.cells #[.int .i64 Y, .int .i64 W, .int .i64 D] 33)).drewN nq) := below_drewN ((Below.refl _ _).alloc (Nat.le_refl _) _) _
  generalize ((w.alloc (.cells #[.int .i64 Y, .int .i64 W, .int .i64 D] 33)).drewN nq) = W1 at *
  go_wp2
  go_quiet ((go_at_call 83; exact Calls.quiet_of_same (isDay_any' _ _)))
  go_wp2
  go_ret2
  exact ⟨rfl, below_drewN k1 _⟩
theorem weekOf_at (n Y W D : Int) (w : World) (h1 : -4382544 ≤ n) (h2 : n ≤ 2921939) (hA : Ahead w) (e1 : wY n = Y) (e2 : wW n = W) (e3 : wd n = D) : Calls Tryz.prog 91 #[.int .i64 n] w fun e w' => e = .returned (.agg #[.int .i64 Y, .int .i64 W, .int .i64 D]) ∧ Below w.heap.size w w' := by
  subst e1; subst e2; subst e3
  exact (weekOf_any n w h1 h2 hA).mono fun e w' ⟨a, _, _, _, b⟩ => ⟨a, b⟩
theorem ofWeek_yes (Y W D : Int) (w : World) (hA : Ahead w) (W0 : 0 ≤ W) (D0 : 0 ≤ D) (D6 : D < 7) (Y1 : -9999 ≤ Y) (Y2 : Y ≤ 9999) (W2 : W ≤ 53) (hd : isDayB (wkC Y W D) = true) (c1 : -4382544 ≤ wkC Y W D) (c2 : wkC Y W D ≤ 2921939) (e1 : Hid (wY (wkC Y W D) = Y)) (e2 : Hid (wW (wkC Y W D) = W)) (e3 : Hid (wd (wkC Y W D) = D)) : Calls Tryz.prog 27 #[.agg #[.int .i64 Y, .int .i64 W, .int .i64 D]] w fun e w' => e = .returned (.tuple #[.int .i64 (wkC Y W D), .int .i64 0]) ∧ Below w.heap.size w w' := by
  obtain ⟨f1, f2, _⟩ := ft_bd Y
  obtain ⟨r1, r2⟩ := ys_range Y1 Y2
  have x1 : IntKind.i64.wrap (W - 1) = W - 1 := IntWalk.i64_in _ (by omega)
  have x2 : IntKind.i64.wrap (7 * (W - 1)) = 7 * (W - 1) := IntWalk.i64_in _ (by omega)
  have x3 : IntKind.i64.wrap (ft Y + 7 * (W - 1)) = ft Y + 7 * (W - 1) := IntWalk.i64_in _ (by omega)
  have x4 : IntKind.i64.wrap (ft Y + 7 * (W - 1) + D) = ft Y + 7 * (W - 1) + D := IntWalk.i64_in _ (by omega)
  have x5 : IntKind.i64.wrap (ft Y + 7 * (W - 1) + D - 3) = wkC Y W D := IntWalk.i64_in _ (by omega)
  go_enter Tryz.func27, Tryz.ntmps27
  go_wp2_with (first | (go_at_call 92; refine (isYear_yes _ _ (by omega) (by omega)).mono ?_; rintro e w' ⟨rfl, rfl⟩))
  go_quiet ((go_at_call 93; exact Calls.quiet_of_same (firstThursday_any' _ _ Y1 Y2)))
  clear x1 x2 x3 x4 x5
  have a0 : ((w.alloc (.cells #[.int .i64 Y, .int .i64 W, .int .i64 D] 33)).drewN nq).cell? ⟨w.heap.size, 0, none⟩ = some (.int .i64 Y) := by go_simp
  have a1 : ((w.alloc (.cells #[.int .i64 Y, .int .i64 W, .int .i64 D] 33)).drewN nq).cell? ⟨w.heap.size, 1, none⟩ = some (.int .i64 W) := by go_simp
  have a2 : ((w.alloc (.cells #[.int .i64 Y, .int .i64 W, .int .i64 D] 33)).drewN nq).cell? ⟨w.heap.size, 2, none⟩ = some (.int .i64 D) := by go_simp
  have u1 : w.heap.size < ((w.alloc (.cells #[.int .i64 Y, .int .i64 W, .int .i64 D] 33)).drewN nq).heap.size := by simp
  have k1 : Below w.heap.size w ((w.alloc (.cells #[.int .i64 Y, .int .i64 W, .int .i64 D] 33)).drewN nq) := below_drewN ((Below.refl _ _).alloc (Nat.le_refl _) _) _
  generalize ((w.alloc (.cells #[.int .i64 Y, .int .i64 W, .int .i64 D] 33)).drewN nq) = W1 at *
  go_wp2
  go_region_held3 (OneIn w Y W D)
    ((refine ⟨?_, ?_, ?_, ?_, ?_⟩ <;> (first | go_keep | omega | assumption | exact Below.drew (by assumption) | (rw [hcc _ _ (by first | exact u1 | omega)]; first | exact a0 | exact a1 | exact a2 | go_keep) | (have := hb.size; omega) | exact Below.trans (by first | assumption | exact one_below (by assumption) | exact Below.drew (by assumption)) (Below.mono (by assumption) (by first | omega | (simp; omega))))))
    (first | (go_at_call 83; refine (isDay_any _ _).mono ?_; rintro e w' ⟨rfl, rfl⟩) | (go_at_call 91; refine (weekOf_at _ Y W D _ c1 c2 (hA.below' (by first | assumption | exact one_below (by assumption) | exact Below.drew (by assumption))) e1.out e2.out e3.out).mono ?_; rintro e w' ⟨rfl, hb⟩; have hbW : Below w.heap.size w w' := Below.trans (by first | assumption | exact one_below (by assumption) | exact Below.drew (by assumption)) (hb.mono (by first | omega | (simp; done) | (simp; omega) | exact Nat.le_of_lt (one_lt (by assumption)))); obtain ⟨hcc, hff⟩ := bcell hb))
  have hbF : Below w.heap.size w w' := hbW
  go_wp2
  go_ret2
  exact ⟨rfl, hbF⟩
theorem ofWeek_o1 (Y W D Y' W' D' : Int) (w : World) (hA : Ahead w) (W0 : 0 ≤ W) (D0 : 0 ≤ D) (D6 : D < 7) (Y1 : -9999 ≤ Y) (Y2 : Y ≤ 9999) (W2 : W ≤ 53) (hd : isDayB (wkC Y W D) = true) (c1 : -4382544 ≤ wkC Y W D) (c2 : wkC Y W D ≤ 2921939) (e1 : Hid (wY (wkC Y W D) = Y')) (e2 : Hid (wW (wkC Y W D) = W')) (e3 : Hid (wd (wkC Y W D) = D')) (hne : ¬ Y' = Y) : Calls Tryz.prog 27 #[.agg #[.int .i64 Y, .int .i64 W, .int .i64 D]] w fun e w' => e = .returned (.tuple #[.int .i64 0, .int .i64 5]) ∧ Below w.heap.size w w' := by
  obtain ⟨f1, f2, _⟩ := ft_bd Y
  obtain ⟨r1, r2⟩ := ys_range Y1 Y2
  have x1 : IntKind.i64.wrap (W - 1) = W - 1 := IntWalk.i64_in _ (by omega)
  have x2 : IntKind.i64.wrap (7 * (W - 1)) = 7 * (W - 1) := IntWalk.i64_in _ (by omega)
  have x3 : IntKind.i64.wrap (ft Y + 7 * (W - 1)) = ft Y + 7 * (W - 1) := IntWalk.i64_in _ (by omega)
  have x4 : IntKind.i64.wrap (ft Y + 7 * (W - 1) + D) = ft Y + 7 * (W - 1) + D := IntWalk.i64_in _ (by omega)
  have x5 : IntKind.i64.wrap (ft Y + 7 * (W - 1) + D - 3) = wkC Y W D := IntWalk.i64_in _ (by omega)
  go_enter Tryz.func27, Tryz.ntmps27
  go_wp2_with (first | (go_at_call 92; refine (isYear_yes _ _ (by omega) (by omega)).mono ?_; rintro e w' ⟨rfl, rfl⟩))
  go_quiet ((go_at_call 93; exact Calls.quiet_of_same (firstThursday_any' _ _ Y1 Y2)))
  clear x1 x2 x3 x4 x5
  have a0 : ((w.alloc (.cells #[.int .i64 Y, .int .i64 W, .int .i64 D] 33)).drewN nq).cell? ⟨w.heap.size, 0, none⟩ = some (.int .i64 Y) := by go_simp
  have a1 : ((w.alloc (.cells #[.int .i64 Y, .int .i64 W, .int .i64 D] 33)).drewN nq).cell? ⟨w.heap.size, 1, none⟩ = some (.int .i64 W) := by go_simp
  have a2 : ((w.alloc (.cells #[.int .i64 Y, .int .i64 W, .int .i64 D] 33)).drewN nq).cell? ⟨w.heap.size, 2, none⟩ = some (.int .i64 D) := by go_simp
  have u1 : w.heap.size < ((w.alloc (.cells #[.int .i64 Y, .int .i64 W, .int .i64 D] 33)).drewN nq).heap.size := by simp
  have k1 : Below w.heap.size w ((w.alloc (.cells #[.int .i64 Y, .int .i64 W, .int .i64 D] 33)).drewN nq) := below_drewN ((Below.refl _ _).alloc (Nat.le_refl _) _) _
  generalize ((w.alloc (.cells #[.int .i64 Y, .int .i64 W, .int .i64 D] 33)).drewN nq) = W1 at *
  go_wp2
  go_region_held3 (OneIn w Y W D)
    ((refine ⟨?_, ?_, ?_, ?_, ?_⟩ <;> (first | go_keep | omega | assumption | exact Below.drew (by assumption) | (rw [hcc _ _ (by first | exact u1 | omega)]; first | exact a0 | exact a1 | exact a2 | go_keep) | (have := hb.size; omega) | exact Below.trans (by first | assumption | exact one_below (by assumption) | exact Below.drew (by assumption)) (Below.mono (by assumption) (by first | omega | (simp; omega))))))
    (first | (go_at_call 83; refine (isDay_any _ _).mono ?_; rintro e w' ⟨rfl, rfl⟩) | (go_at_call 91; refine (weekOf_at _ Y' W' D' _ c1 c2 (hA.below' (by first | assumption | exact one_below (by assumption) | exact Below.drew (by assumption))) e1.out e2.out e3.out).mono ?_; rintro e w' ⟨rfl, hb⟩; have hbW : Below w.heap.size w w' := Below.trans (by first | assumption | exact one_below (by assumption) | exact Below.drew (by assumption)) (hb.mono (by first | omega | (simp; done) | (simp; omega) | exact Nat.le_of_lt (one_lt (by assumption)))); obtain ⟨hcc, hff⟩ := bcell hb))
  have hbF : Below w.heap.size w w' := hbW
  go_wp2
  go_ret2
  exact ⟨rfl, hbF⟩
theorem ofWeek_o2 (Y W D W' D' : Int) (w : World) (hA : Ahead w) (W0 : 0 ≤ W) (D0 : 0 ≤ D) (D6 : D < 7) (Y1 : -9999 ≤ Y) (Y2 : Y ≤ 9999) (W2 : W ≤ 53) (hd : isDayB (wkC Y W D) = true) (c1 : -4382544 ≤ wkC Y W D) (c2 : wkC Y W D ≤ 2921939) (e1 : Hid (wY (wkC Y W D) = Y)) (e2 : Hid (wW (wkC Y W D) = W')) (e3 : Hid (wd (wkC Y W D) = D')) (hne : ¬ W' = W) : Calls Tryz.prog 27 #[.agg #[.int .i64 Y, .int .i64 W, .int .i64 D]] w fun e w' => e = .returned (.tuple #[.int .i64 0, .int .i64 5]) ∧ Below w.heap.size w w' := by
  obtain ⟨f1, f2, _⟩ := ft_bd Y
  obtain ⟨r1, r2⟩ := ys_range Y1 Y2
  have x1 : IntKind.i64.wrap (W - 1) = W - 1 := IntWalk.i64_in _ (by omega)
  have x2 : IntKind.i64.wrap (7 * (W - 1)) = 7 * (W - 1) := IntWalk.i64_in _ (by omega)
  have x3 : IntKind.i64.wrap (ft Y + 7 * (W - 1)) = ft Y + 7 * (W - 1) := IntWalk.i64_in _ (by omega)
  have x4 : IntKind.i64.wrap (ft Y + 7 * (W - 1) + D) = ft Y + 7 * (W - 1) + D := IntWalk.i64_in _ (by omega)
  have x5 : IntKind.i64.wrap (ft Y + 7 * (W - 1) + D - 3) = wkC Y W D := IntWalk.i64_in _ (by omega)
  go_enter Tryz.func27, Tryz.ntmps27
  go_wp2_with (first | (go_at_call 92; refine (isYear_yes _ _ (by omega) (by omega)).mono ?_; rintro e w' ⟨rfl, rfl⟩))
  go_quiet ((go_at_call 93; exact Calls.quiet_of_same (firstThursday_any' _ _ Y1 Y2)))
  clear x1 x2 x3 x4 x5
  have a0 : ((w.alloc (.cells #[.int .i64 Y, .int .i64 W, .int .i64 D] 33)).drewN nq).cell? ⟨w.heap.size, 0, none⟩ = some (.int .i64 Y) := by go_simp
  have a1 : ((w.alloc (.cells #[.int .i64 Y, .int .i64 W, .int .i64 D] 33)).drewN nq).cell? ⟨w.heap.size, 1, none⟩ = some (.int .i64 W) := by go_simp
  have a2 : ((w.alloc (.cells #[.int .i64 Y, .int .i64 W, .int .i64 D] 33)).drewN nq).cell? ⟨w.heap.size, 2, none⟩ = some (.int .i64 D) := by go_simp
  have u1 : w.heap.size < ((w.alloc (.cells #[.int .i64 Y, .int .i64 W, .int .i64 D] 33)).drewN nq).heap.size := by simp
  have k1 : Below w.heap.size w ((w.alloc (.cells #[.int .i64 Y, .int .i64 W, .int .i64 D] 33)).drewN nq) := below_drewN ((Below.refl _ _).alloc (Nat.le_refl _) _) _
  generalize ((w.alloc (.cells #[.int .i64 Y, .int .i64 W, .int .i64 D] 33)).drewN nq) = W1 at *
  go_wp2
  go_region_held3 (OneIn w Y W D)
    ((refine ⟨?_, ?_, ?_, ?_, ?_⟩ <;> (first | go_keep | omega | assumption | exact Below.drew (by assumption) | (rw [hcc _ _ (by first | exact u1 | omega)]; first | exact a0 | exact a1 | exact a2 | go_keep) | (have := hb.size; omega) | exact Below.trans (by first | assumption | exact one_below (by assumption) | exact Below.drew (by assumption)) (Below.mono (by assumption) (by first | omega | (simp; omega))))))
    (first | (go_at_call 83; refine (isDay_any _ _).mono ?_; rintro e w' ⟨rfl, rfl⟩) | (go_at_call 91; refine (weekOf_at _ Y W' D' _ c1 c2 (hA.below' (by first | assumption | exact one_below (by assumption) | exact Below.drew (by assumption))) e1.out e2.out e3.out).mono ?_; rintro e w' ⟨rfl, hb⟩; have hbW : Below w.heap.size w w' := Below.trans (by first | assumption | exact one_below (by assumption) | exact Below.drew (by assumption)) (hb.mono (by first | omega | (simp; done) | (simp; omega) | exact Nat.le_of_lt (one_lt (by assumption)))); obtain ⟨hcc, hff⟩ := bcell hb))
  have hbF : Below w.heap.size w w' := hbW
  go_wp2
  go_ret2
  exact ⟨rfl, hbF⟩
theorem ofWeek_o3 (Y W D D' : Int) (w : World) (hA : Ahead w) (W0 : 0 ≤ W) (D0 : 0 ≤ D) (D6 : D < 7) (Y1 : -9999 ≤ Y) (Y2 : Y ≤ 9999) (W2 : W ≤ 53) (hd : isDayB (wkC Y W D) = true) (c1 : -4382544 ≤ wkC Y W D) (c2 : wkC Y W D ≤ 2921939) (e1 : Hid (wY (wkC Y W D) = Y)) (e2 : Hid (wW (wkC Y W D) = W)) (e3 : Hid (wd (wkC Y W D) = D')) (hne : ¬ D' = D) : Calls Tryz.prog 27 #[.agg #[.int .i64 Y, .int .i64 W, .int .i64 D]] w fun e w' => e = .returned (.tuple #[.int .i64 0, .int .i64 5]) ∧ Below w.heap.size w w' := by
  obtain ⟨f1, f2, _⟩ := ft_bd Y
  obtain ⟨r1, r2⟩ := ys_range Y1 Y2
  have x1 : IntKind.i64.wrap (W - 1) = W - 1 := IntWalk.i64_in _ (by omega)
  have x2 : IntKind.i64.wrap (7 * (W - 1)) = 7 * (W - 1) := IntWalk.i64_in _ (by omega)
  have x3 : IntKind.i64.wrap (ft Y + 7 * (W - 1)) = ft Y + 7 * (W - 1) := IntWalk.i64_in _ (by omega)
  have x4 : IntKind.i64.wrap (ft Y + 7 * (W - 1) + D) = ft Y + 7 * (W - 1) + D := IntWalk.i64_in _ (by omega)
  have x5 : IntKind.i64.wrap (ft Y + 7 * (W - 1) + D - 3) = wkC Y W D := IntWalk.i64_in _ (by omega)
  go_enter Tryz.func27, Tryz.ntmps27
  go_wp2_with (first | (go_at_call 92; refine (isYear_yes _ _ (by omega) (by omega)).mono ?_; rintro e w' ⟨rfl, rfl⟩))
  go_quiet ((go_at_call 93; exact Calls.quiet_of_same (firstThursday_any' _ _ Y1 Y2)))
  clear x1 x2 x3 x4 x5
  have a0 : ((w.alloc (.cells #[.int .i64 Y, .int .i64 W, .int .i64 D] 33)).drewN nq).cell? ⟨w.heap.size, 0, none⟩ = some (.int .i64 Y) := by go_simp
  have a1 : ((w.alloc (.cells #[.int .i64 Y, .int .i64 W, .int .i64 D] 33)).drewN nq).cell? ⟨w.heap.size, 1, none⟩ = some (.int .i64 W) := by go_simp
  have a2 : ((w.alloc (.cells #[.int .i64 Y, .int .i64 W, .int .i64 D] 33)).drewN nq).cell? ⟨w.heap.size, 2, none⟩ = some (.int .i64 D) := by go_simp
  have u1 : w.heap.size < ((w.alloc (.cells #[.int .i64 Y, .int .i64 W, .int .i64 D] 33)).drewN nq).heap.size := by simp
  have k1 : Below w.heap.size w ((w.alloc (.cells #[.int .i64 Y, .int .i64 W, .int .i64 D] 33)).drewN nq) := below_drewN ((Below.refl _ _).alloc (Nat.le_refl _) _) _
  generalize ((w.alloc (.cells #[.int .i64 Y, .int .i64 W, .int .i64 D] 33)).drewN nq) = W1 at *
  go_wp2
  go_region_held3 (OneIn w Y W D)
    ((refine ⟨?_, ?_, ?_, ?_, ?_⟩ <;> (first | go_keep | omega | assumption | exact Below.drew (by assumption) | (rw [hcc _ _ (by first | exact u1 | omega)]; first | exact a0 | exact a1 | exact a2 | go_keep) | (have := hb.size; omega) | exact Below.trans (by first | assumption | exact one_below (by assumption) | exact Below.drew (by assumption)) (Below.mono (by assumption) (by first | omega | (simp; omega))))))
    (first | (go_at_call 83; refine (isDay_any _ _).mono ?_; rintro e w' ⟨rfl, rfl⟩) | (go_at_call 91; refine (weekOf_at _ Y W D' _ c1 c2 (hA.below' (by first | assumption | exact one_below (by assumption) | exact Below.drew (by assumption))) e1.out e2.out e3.out).mono ?_; rintro e w' ⟨rfl, hb⟩; have hbW : Below w.heap.size w w' := Below.trans (by first | assumption | exact one_below (by assumption) | exact Below.drew (by assumption)) (hb.mono (by first | omega | (simp; done) | (simp; omega) | exact Nat.le_of_lt (one_lt (by assumption)))); obtain ⟨hcc, hff⟩ := bcell hb))
  have hbF : Below w.heap.size w w' := hbW
  go_wp2
  go_ret2
  exact ⟨rfl, hbF⟩
/-- The day of a week, if there is one. -/
def IsWeek (Y W D : Int) : Prop := isDayB (wkC Y W D) = true ∧ wY (wkC Y W D) = Y ∧ wW (wkC Y W D) = W ∧ wd (wkC Y W D) = D
theorem ofWeek_no (Y W D : Int) (w : World) (hA : Ahead w) (W0 : 0 ≤ W) (D0 : 0 ≤ D) (D6 : D < 7) (Y1 : -9999 ≤ Y) (Y2 : Y ≤ 9999) (W2 : W ≤ 53) (h : ¬ IsWeek Y W D) : Calls Tryz.prog 27 #[.agg #[.int .i64 Y, .int .i64 W, .int .i64 D]] w fun e w' => e = .returned (.tuple #[.int .i64 0, .int .i64 5]) ∧ Below w.heap.size w w' := by
  cases hd : isDayB (wkC Y W D) with
  | false => exact ofWeek_noday Y W D w W0 D0 D6 Y1 Y2 W2 hd
  | true =>
    have hc : -4382544 ≤ wkC Y W D ∧ wkC Y W D ≤ 2921939 := by unfold isDayB at hd; simp at hd; omega
    by_cases e1 : wY (wkC Y W D) = Y
    · by_cases e2 : wW (wkC Y W D) = W
      · exact ofWeek_o3 Y W D _ w hA W0 D0 D6 Y1 Y2 W2 hd hc.1 hc.2 (Lib.hid e1) (Lib.hid e2) (Lib.hid rfl) fun e3 => h ⟨hd, e1, e2, e3⟩
      · exact ofWeek_o2 Y W D _ _ w hA W0 D0 D6 Y1 Y2 W2 hd hc.1 hc.2 (Lib.hid e1) (Lib.hid rfl) (Lib.hid rfl) e2
    · exact ofWeek_o1 Y W D _ _ _ w hA W0 D0 D6 Y1 Y2 W2 hd hc.1 hc.2 (Lib.hid rfl) (Lib.hid rfl) (Lib.hid rfl) e1
theorem ofWeek_is (Y W D : Int) (w : World) (hA : Ahead w) (W0 : 0 ≤ W) (D0 : 0 ≤ D) (D6 : D < 7) (Y1 : -9999 ≤ Y) (Y2 : Y ≤ 9999) (W2 : W ≤ 53) (h : IsWeek Y W D) : Calls Tryz.prog 27 #[.agg #[.int .i64 Y, .int .i64 W, .int .i64 D]] w fun e w' => e = .returned (.tuple #[.int .i64 (wkC Y W D), .int .i64 0]) ∧ Below w.heap.size w w' := by
  obtain ⟨hd, e1, e2, e3⟩ := h
  have hc : -4382544 ≤ wkC Y W D ∧ wkC Y W D ≤ 2921939 := by unfold isDayB at hd; simp at hd; omega
  exact ofWeek_yes Y W D w hA W0 D0 D6 Y1 Y2 W2 hd hc.1 hc.2 (Lib.hid e1) (Lib.hid e2) (Lib.hid e3)
end Go.Proofs.YthdjebomeibngaaGreatDoor
