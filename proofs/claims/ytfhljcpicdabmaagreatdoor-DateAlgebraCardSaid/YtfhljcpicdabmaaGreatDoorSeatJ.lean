/- The seat: the specification's functions on days, continued. -/
import Derived.Test.YtfhljcpicdabmaaGreatDoorSeatI
namespace Go.Proofs.YtfhljcpicdabmaaGreatDoor
open Go Go.RowKit Go.DayM
set_option maxRecDepth 100000
set_option maxHeartbeats 1000000
theorem length_any' (y m : Int) (w : World) (h1 : 1 ≤ m) (h2 : m ≤ 12) : Calls Tryz.prog 141 #[.int .i64 y, .int .i64 m] w fun e w' => e = .returned (.int .i64 (len y m)) ∧ w' = w := (length_any y m w h1 h2).mono fun _ _ ⟨h, k⟩ => ⟨h, k.symm⟩
theorem began_any' (y : Int) (w : World) (h1 : -20000 ≤ y) (h2 : y ≤ 20000) : Calls Tryz.prog 149 #[.int .i64 y] w fun e w' => e = .returned (.int .i64 (bg y)) ∧ w' = w := (began_any y w h1 h2).mono fun _ _ ⟨h, k⟩ => ⟨h, k.symm⟩
theorem goodR_y0 (y m d : Int) (w : World) (_h : y < -9999) (h' : decide (-9999 ≤ y) = false) : Calls Tryz.prog 65 #[.agg #[.int .i64 y, .int .i64 m, .int .i64 d]] w fun e w' => e = .returned (.bool false) ∧ Below w.heap.size w w' := by
  go_enter Tryz.func65, Tryz.ntmps65
  go_wp2
  go_quiet (fail)
  go_wp2
  go_ret
  exact ⟨rfl, below_drewN ((Below.refl _ _).alloc (Nat.le_refl _) _) _⟩
theorem goodR_y1 (y m d : Int) (w : World) (y1 : -9999 ≤ y) (_h : 9999 < y) (h' : decide (y ≤ 9999) = false) : Calls Tryz.prog 65 #[.agg #[.int .i64 y, .int .i64 m, .int .i64 d]] w fun e w' => e = .returned (.bool false) ∧ Below w.heap.size w w' := by
  go_enter Tryz.func65, Tryz.ntmps65
  go_wp2
  go_quiet (fail)
  go_wp2
  go_ret
  exact ⟨rfl, below_drewN ((Below.refl _ _).alloc (Nat.le_refl _) _) _⟩
theorem goodR_m0 (y m d : Int) (w : World) (y1 : -9999 ≤ y) (y2 : y ≤ 9999) (_h : m < 1) (h' : decide (1 ≤ m) = false) : Calls Tryz.prog 65 #[.agg #[.int .i64 y, .int .i64 m, .int .i64 d]] w fun e w' => e = .returned (.bool false) ∧ Below w.heap.size w w' := by
  go_enter Tryz.func65, Tryz.ntmps65
  go_wp2
  go_quiet (fail)
  go_wp2
  go_ret
  exact ⟨rfl, below_drewN ((Below.refl _ _).alloc (Nat.le_refl _) _) _⟩
theorem goodR_m1 (y m d : Int) (w : World) (y1 : -9999 ≤ y) (y2 : y ≤ 9999) (m1 : 1 ≤ m) (_h : 12 < m) (h' : decide (m ≤ 12) = false) : Calls Tryz.prog 65 #[.agg #[.int .i64 y, .int .i64 m, .int .i64 d]] w fun e w' => e = .returned (.bool false) ∧ Below w.heap.size w w' := by
  go_enter Tryz.func65, Tryz.ntmps65
  go_wp2
  go_quiet (fail)
  go_wp2
  go_ret
  exact ⟨rfl, below_drewN ((Below.refl _ _).alloc (Nat.le_refl _) _) _⟩
theorem goodR_d0 (y m d : Int) (w : World) (y1 : -9999 ≤ y) (y2 : y ≤ 9999) (m1 : 1 ≤ m) (m2 : m ≤ 12) (_h : d < 1) (h' : decide (1 ≤ d) = false) : Calls Tryz.prog 65 #[.agg #[.int .i64 y, .int .i64 m, .int .i64 d]] w fun e w' => e = .returned (.bool false) ∧ Below w.heap.size w w' := by
  go_enter Tryz.func65, Tryz.ntmps65
  go_wp2
  go_quiet (fail)
  go_wp2
  go_ret
  exact ⟨rfl, below_drewN ((Below.refl _ _).alloc (Nat.le_refl _) _) _⟩
theorem goodR_yes (y m d : Int) (w : World) (y1 : -9999 ≤ y) (y2 : y ≤ 9999) (m1 : 1 ≤ m) (m2 : m ≤ 12) (d1 : 1 ≤ d) : Calls Tryz.prog 65 #[.agg #[.int .i64 y, .int .i64 m, .int .i64 d]] w fun e w' => e = .returned (.bool (decide (d ≤ len y m))) ∧ Below w.heap.size w w' := by
  go_enter Tryz.func65, Tryz.ntmps65
  go_wp2
  go_quiet ((go_at_call 141; exact Calls.quiet_of_same (length_any' _ _ _ m1 m2)))
  go_wp2
  go_ret
  exact ⟨rfl, below_drewN ((Below.refl _ _).alloc (Nat.le_refl _) _) _⟩
theorem goodR_any (y m d : Int) (w : World) : Calls Tryz.prog 65 #[.agg #[.int .i64 y, .int .i64 m, .int .i64 d]] w fun e w' => e = .returned (.bool (good y m d)) ∧ Below w.heap.size w w' := by
  have no : ∀ (h : ¬ (-9999 ≤ y ∧ y ≤ 9999 ∧ 1 ≤ m ∧ m ≤ 12 ∧ 1 ≤ d ∧ d ≤ da y (m + 1) - da y m)), good y m d = false := fun h => by
    cases hg : good y m d with
    | false => rfl
    | true => exact (h ((good_iff y m d).1 hg)).elim
  by_cases a1 : y < -9999
  · rw [no (by omega)]; exact goodR_y0 y m d w a1 (by simp; omega)
  · by_cases a2 : 9999 < y
    · rw [no (by omega)]; exact goodR_y1 y m d w (by omega) a2 (by simp; omega)
    · by_cases a3 : m < 1
      · rw [no (by omega)]; exact goodR_m0 y m d w (by omega) (by omega) a3 (by simp; omega)
      · by_cases a4 : 12 < m
        · rw [no (by omega)]; exact goodR_m1 y m d w (by omega) (by omega) (by omega) a4 (by simp; omega)
        · by_cases a5 : d < 1
          · rw [no (by omega)]; exact goodR_d0 y m d w (by omega) (by omega) (by omega) (by omega) a5 (by simp; omega)
          · have e : good y m d = decide (d ≤ len y m) := by
              unfold good len
              rw [decide_eq_decide]
              omega
            rw [e]
            exact goodR_yes y m d w (by omega) (by omega) (by omega) (by omega) (by omega)
theorem bg_bd (y : Int) (y1 : -10001 ≤ y) (y2 : y ≤ 10001) : -3660000 ≤ bg y ∧ bg y ≤ 3660000 := by unfold bg; omega
theorem dayOfR_any (y m d : Int) (w : World) (y1 : -9999 ≤ y) (y2 : y ≤ 9999) (m1 : 1 ≤ m) (m2 : m ≤ 12) (d1 : 1 ≤ d) (d2 : d ≤ 31) : Calls Tryz.prog 86 #[.agg #[.int .i64 y, .int .i64 m, .int .i64 d]] w fun e w' => e = .returned (.int .i64 (dayOf y m d)) ∧ Below w.heap.size w w' := by
  obtain ⟨b1, b2⟩ := bg_bd y (by omega) (by omega)
  obtain ⟨b3, b4⟩ := bg_bd 2000 (by omega) (by omega)
  have s1 : IntKind.i64.wrap (bg y - bg 2000) = bg y - bg 2000 := IntWalk.i64_in _ (by omega)
  have s2 : IntKind.i64.wrap (bg y - bg 2000 + d) = bg y - bg 2000 + d := IntWalk.i64_in _ (by omega)
  have s3 : IntKind.i64.wrap (bg y - bg 2000 + d - 1) = bg y - bg 2000 + d - 1 := IntWalk.i64_in _ (by omega)
  go_enter Tryz.func86, Tryz.ntmps86
  go_wp2
  go_quiet ((go_at_call 149; exact Calls.quiet_of_same (began_any' _ _ (by omega) (by omega))))
  clear s1 s2 s3
  go_wp2
  go_loop [3, 4] (fun t i => ∃ k : Int, 1 ≤ k ∧ k ≤ m ∧ i = .int .i64 k ∧ t = .int .i64 (bg y - bg 2000 + d - 1 + da y k)) (fun _ i => (12 - intOf i).toNat)
  case atStart => exact ⟨1, by omega, m1, rfl, by rw [da_one]; simp⟩
  case round =>
    obtain ⟨k, k1, k2, rfl, rfl⟩ := hrel
    obtain ⟨c1, c2⟩ := da_bd y k k1 (by omega)
    obtain ⟨l1, l2⟩ := len_bd y k k1 (by omega)
    by_cases hk : k < m
    · go_wp2_with (go_at_call 141; refine (length_any _ _ _ k1 (by omega)).mono ?_; rintro e w' ⟨rfl, rfl⟩)
      go_round
      case rel => exact ⟨k + 1, by omega, by omega, rfl, by unfold len; rw [show bg y - bg 2000 + d - 1 + da y k + (da y (k + 1) - da y k) = bg y - bg 2000 + d - 1 + da y (k + 1) by omega]⟩
      case measure => simp [intOf]; omega
    · have e : k = m := by omega
      subst e
      go_wp2
      go_ret
      have hy := bg_ys y
      have h2 : bg 2000 = 730485 := by decide
      exact ⟨ret_int (by unfold dayOf; omega), below_drewN ((Below.refl _ _).alloc (Nat.le_refl _) _) _⟩
end Go.Proofs.YtfhljcpicdabmaaGreatDoor
