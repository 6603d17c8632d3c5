/- The seat: the functions on days. -/
import Derived.Test.YtfhljcpicdabmaaGreatDoorChecked
import Derived.ProofKit
import Derived.WalkKit
import Derived.Outline
import Derived.Lib.Hide
import Derived.IntWalk
import Derived.Test.YtfhljcpicdabmaaGreatDoorDayM
import Derived.Deep.QuietTactic
import Derived.BigQuiet
namespace Go.Proofs.YtfhljcpicdabmaaGreatDoor
open Go Go.RowKit Go.DayM
set_option maxRecDepth 100000
set_option maxHeartbeats 400000
theorem ret_int {k : IntKind} {a b : Int} (h : a = b) : Ending.returned (.int k a) = .returned (.int k b) := by rw [h]
theorem leapsAhead_any (y : Int) (w : World) (h1 : -19999 ≤ y) (h2 : y ≤ 30000) : Calls Tryz.prog 185 #[.int .i64 y] w fun e w' => e = .returned (.int .i64 (la y)) ∧ w = w' := by
  go_enter Tryz.func185, Tryz.ntmps185
  go_wp2
  go_ret
  exact ⟨ret_int (by unfold la; omega), rfl⟩
theorem la_2000 : la 2000 = 5334 := by decide
theorem la_bd (y : Int) (h1 : -19999 ≤ y) (h2 : y ≤ 30000) : 0 ≤ la y ∧ la y ≤ 20000 := by unfold la; omega
theorem yearStart_any (y : Int) (w : World) (h1 : -19999 ≤ y) (h2 : y ≤ 30000) : Calls Tryz.prog 146 #[.int .i64 y] w fun e w' => e = .returned (.int .i64 (ys y)) ∧ w = w' := by
  have hb := la_bd y h1 h2
  have hb2 := la_bd 2000 (by omega) (by omega)
  have H := Lib.hid la_2000
  go_enter Tryz.func146, Tryz.ntmps146
  go_wp2_with (go_at_call 185; refine (leapsAhead_any _ _ (by omega) (by omega)).mono ?_; rintro e w' ⟨rfl, rfl⟩)
  go_ret
  exact ⟨ret_int (by unfold ys; rw [H.out]), rfl⟩
theorem ret_bool {a b : Bool} (h : a = b) : Ending.returned (.bool a) = .returned (.bool b) := by rw [h]
theorem tm4 (y : Int) : y.tmod 4 = 0 ↔ y % 4 = 0 := by rw [← Int.dvd_iff_tmod_eq_zero, ← Int.dvd_iff_emod_eq_zero]
theorem tm100 (y : Int) : y.tmod 100 = 0 ↔ y % 100 = 0 := by rw [← Int.dvd_iff_tmod_eq_zero, ← Int.dvd_iff_emod_eq_zero]
theorem tm400 (y : Int) : y.tmod 400 = 0 ↔ y % 400 = 0 := by rw [← Int.dvd_iff_tmod_eq_zero, ← Int.dvd_iff_emod_eq_zero]
theorem leap_a {y : Int} (h1 : y.tmod 4 = 0) (h2 : y.tmod 100 = 0) : (y.tmod 400 == 0) = leap y := by
  rw [tm4] at h1; rw [tm100] at h2
  rw [Bool.eq_iff_iff, leap_iff, beq_iff_eq, tm400]; omega
theorem leap_b {y : Int} (h1 : y.tmod 4 = 0) (h2 : ¬ y.tmod 100 = 0) : true = leap y := by
  rw [tm4] at h1; rw [tm100] at h2
  rw [Bool.eq_iff_iff, leap_iff]; simp; omega
theorem leap_c {y : Int} (h1 : ¬ y.tmod 4 = 0) : (y.tmod 400 == 0) = leap y := by
  rw [tm4] at h1
  rw [Bool.eq_iff_iff, leap_iff, beq_iff_eq, tm400]; omega
theorem isLeap_any (y : Int) (w : World) : Calls Tryz.prog 186 #[.int .i64 y] w fun e w' => e = .returned (.bool (leap y)) ∧ w = w' := by
  go_enter Tryz.func186, Tryz.ntmps186
  go_wp2
  · go_ret
    exact ⟨ret_bool (leap_a (by assumption) (by assumption)), rfl⟩
  · go_ret
    exact ⟨ret_bool (leap_b (by assumption) (by assumption)), rfl⟩
  · go_ret
    exact ⟨ret_bool (leap_c (by assumption)), rfl⟩

theorem daysAhead_any (y m : Int) (w : World) (h1 : 1 ≤ m) (h2 : m ≤ 13) (hc : w.cell? ⟨0, m.toNat - 1, none⟩ = some (.int .i64 (ah m))) (ha : 0 ≤ ah m) (hb : ah m ≤ 365) : Calls Tryz.prog 147 #[.int .i64 y, .int .i64 m] w fun e w' => e = .returned (.int .i64 (da y m)) ∧ w = w' := by
  by_cases hm : 2 < m
  · cases hl : leap y with
    | true =>
      have H := Lib.hid hl
      go_enter Tryz.func147, Tryz.ntmps147
      go_wp2_with (go_at_call 186; refine (isLeap_any _ _).mono ?_; rintro e w' ⟨rfl, rfl⟩)
      go_ret
      exact ⟨ret_int (by unfold da lp; rw [if_pos hm, H.out, if_pos rfl]), rfl⟩
    | false =>
      have H := Lib.hid hl
      go_enter Tryz.func147, Tryz.ntmps147
      go_wp2_with (go_at_call 186; refine (isLeap_any _ _).mono ?_; rintro e w' ⟨rfl, rfl⟩)
      go_ret
      exact ⟨ret_int (by unfold da lp; rw [if_pos hm, H.out]; simp), rfl⟩
  · go_enter Tryz.func147, Tryz.ntmps147
    go_wp2
    go_ret
    exact ⟨ret_int (by unfold da; rw [if_neg (by omega)]; omega), rfl⟩

/-- The table of the days ahead of a month is there. -/
def Ahead (w : World) : Prop := 0 < w.heap.size ∧ ∀ m : Int, 1 ≤ m → m ≤ 13 → w.cell? ⟨0, m.toNat - 1, none⟩ = some (.int .i64 (ah m))
theorem Ahead.below {w w' : World} {B : Nat} (h : Ahead w) (hb : Below B w w') (hB : 0 < B) : Ahead w' := ⟨Nat.lt_of_lt_of_le h.1 hb.size, fun m h1 h2 => by rw [hb.cell (p := ⟨0, m.toNat - 1, none⟩) hB]; exact h.2 m h1 h2⟩
theorem Ahead.below' {w w' : World} (h : Ahead w) (hb : Below w.heap.size w w') : Ahead w' := h.below hb h.1
theorem ah_bd (m : Int) : 0 ≤ ah m ∧ ah m ≤ 365 := by
  by_cases h : 1 ≤ m ∧ m ≤ 12
  · rcases months m h.1 h.2 with rfl | rfl | rfl | rfl | rfl | rfl | rfl | rfl | rfl | rfl | rfl | rfl <;> decide
  · have : ah m = 365 := by
      unfold ah
      rw [if_neg (by omega), if_neg (by omega), if_neg (by omega), if_neg (by omega), if_neg (by omega), if_neg (by omega), if_neg (by omega), if_neg (by omega), if_neg (by omega), if_neg (by omega), if_neg (by omega), if_neg (by omega)]
    omega
theorem da_any (y m : Int) (w : World) (h1 : 1 ≤ m) (h2 : m ≤ 13) (hA : Ahead w) : Calls Tryz.prog 147 #[.int .i64 y, .int .i64 m] w fun e w' => e = .returned (.int .i64 (da y m)) ∧ w = w' :=
  daysAhead_any y m w h1 h2 (hA.2 m h1 h2) (ah_bd m).1 (ah_bd m).2
theorem below_drewN {B : Nat} {a w : World} (h : Below B a w) (n : Nat) : Below B a (w.drewN n) := ⟨h.os, h.tape, h.output, h.size, h.block⟩
theorem Ahead.drewN {w : World} (h : Ahead w) (n : Nat) : Ahead (w.drewN n) := h
theorem yearStart_any' (y : Int) (w : World) (h1 : -19999 ≤ y) (h2 : y ≤ 30000) : Calls Tryz.prog 146 #[.int .i64 y] w fun e w' => e = .returned (.int .i64 (ys y)) ∧ w' = w := (yearStart_any y w h1 h2).mono fun _ _ ⟨h, k⟩ => ⟨h, k.symm⟩
theorem da_any' (y m : Int) (w : World) (h1 : 1 ≤ m) (h2 : m ≤ 13) (hA : Ahead w) : Calls Tryz.prog 147 #[.int .i64 y, .int .i64 m] w fun e w' => e = .returned (.int .i64 (da y m)) ∧ w' = w := (da_any y m w h1 h2 hA).mono fun _ _ ⟨h, k⟩ => ⟨h, k.symm⟩
theorem dayOf_any (y m d : Int) (w : World) (g1 : -9999 ≤ y) (g2 : y ≤ 9999) (h1 : 1 ≤ m) (h2 : m ≤ 12) (h3 : 1 ≤ d) (h4 : d ≤ 31) (hA : Ahead w) : Calls Tryz.prog 82 #[.agg #[.int .i64 y, .int .i64 m, .int .i64 d]] w fun e w' => e = .returned (.int .i64 (dayOf y m d)) ∧ Below w.heap.size w w' := by
  have a := da_bd y m h1 h2
  have b := ys_mono (-9999) y g1
  have c := ys_mono y 9999 g2
  have e := ys_low
  have f : ys 9999 = 2921575 := by decide
  have i1 : -4382544 ≤ ys y := by omega
  have i2 : ys y ≤ 2921575 := by omega
  clear b c e f
  have s1 : IntKind.i64.wrap (ys y + da y m) = ys y + da y m := IntWalk.i64_in _ (by omega)
  have s2 : IntKind.i64.wrap (ys y + da y m + d) = ys y + da y m + d := IntWalk.i64_in _ (by omega)
  have s3 : IntKind.i64.wrap (ys y + da y m + d - 1) = ys y + da y m + d - 1 := IntWalk.i64_in _ (by omega)
  go_enter Tryz.func82, Tryz.ntmps82
  go_wp2
  go_quiet ((first | (go_at_call 146; exact Calls.quiet_of_same (yearStart_any' _ _ (by omega) (by omega))) | (go_at_call 147; exact Calls.quiet_of_same (da_any' _ _ _ h1 (by omega) ((hA.below' ((Below.refl _ _).alloc (Nat.le_refl _) _)).drewN _)))))
  go_wp2
  go_ret
  exact ⟨ret_int (by unfold dayOf; omega), below_drewN ((Below.refl _ _).alloc (Nat.le_refl _) _) _⟩
set_option maxHeartbeats 1000000
theorem guess_bd (n : Int) (h1 : -4382544 ≤ n) (h2 : n ≤ 2922000) : -11999 ≤ (n * 400).tdiv 146097 ∧ (n * 400).tdiv 146097 ≤ 8001 := by
  rw [Int.tdiv_eq_ediv]
  split
  · omega
  · have e : Int.sign 146097 = 1 := by decide
    rw [e]; omega
def SomeDate (n : Int) (w : World) (e : Ending) (w' : World) : Prop := ∃ y m : Int, Of n y m ∧ -9999 ≤ y ∧ y ≤ 10000 ∧ e = .returned (.agg #[.int .i64 y, .int .i64 m, .int .i64 (n - ys y - da y m + 1)]) ∧ Below w.heap.size w w'
theorem ys_above {n y : Int} (h1 : -4382544 ≤ n) (h : n < ys y) : -9998 ≤ y := by
  rcases Int.lt_or_le y (-9998) with h' | h'
  · have := ys_mono y (-9999) (by omega); have := ys_low; omega
  · exact h'
theorem ys_under {n y : Int} (h2 : n ≤ 2922000) (h : ys (y + 1) ≤ n) : y + 1 ≤ 10000 := by
  rcases Int.lt_or_le 10000 (y + 1) with h' | h'
  · have := ys_mono 10001 (y + 1) (by omega); have e : ys 10001 = 2922306 := by decide
    omega
  · exact h'
theorem dateOf_any (n : Int) (w : World) (h1 : -4382544 ≤ n) (h2 : n ≤ 2922000) (hA : Ahead w) : Calls Tryz.prog 84 #[.int .i64 n] w (SomeDate n w) := by
  obtain ⟨g1, g2⟩ := guess_bd n h1 h2
  go_enter Tryz.func84, Tryz.ntmps84
  go_wp2
  go_loop [3] (fun t => ∃ y : Int, -9999 ≤ y ∧ y ≤ 10001 ∧ t = .int .i64 y) (fun t => (intOf t + 20000).toNat)
  case atStart => exact ⟨_, by omega, by omega, rfl⟩
  case round =>
    obtain ⟨y, y1, y2, rfl⟩ := hrel
    clear g1 g2
    by_cases hc : n < ys y
    · have hy := ys_above h1 hc
      go_wp2_with (go_at_call 146; refine (yearStart_any _ _ (by omega) (by omega)).mono ?_; rintro e w' ⟨rfl, rfl⟩)
      go_round
      case rel => exact ⟨y - 1, by omega, by omega, rfl⟩
      case measure => simp [intOf]; omega
    · go_wp2_with (go_at_call 146; refine (yearStart_any _ _ (by omega) (by omega)).mono ?_; rintro e w' ⟨rfl, rfl⟩)
      have hc1 : ys y ≤ n := by omega
      clear hc
      go_loop [3] (fun t => ∃ y : Int, -9999 ≤ y ∧ y ≤ 10001 ∧ ys y ≤ n ∧ t = .int .i64 y) (fun t => (20000 - intOf t).toNat)
      case atStart => exact ⟨_, y1, y2, hc1, rfl⟩
      case round =>
        clear hc1 y1 y2
        obtain ⟨z, y1, y2, hc1, rfl⟩ := hrel
        have hsz := ys_succ z
        have hlz := lp_01 z
        by_cases hc : ys (z + 1) ≤ n
        · have hy := ys_under h2 hc
          clear hsz hlz
          go_wp2_with (go_at_call 146; refine (yearStart_any _ _ (by omega) (by omega)).mono ?_; rintro e w' ⟨rfl, rfl⟩)
          go_round
          case rel => exact ⟨z + 1, by omega, by omega, hc, rfl⟩
          case measure => simp [intOf]; omega
        · have hc2 : n < ys (z + 1) := by omega
          have hd : n - ys z ≤ 365 := by omega
          have hd0 : 0 ≤ n - ys z := by omega
          have H := Lib.hid hsz
          clear hc hsz hlz
          have hz : z ≤ 10000 := by
            rcases Int.lt_or_le 10000 z with h' | h'
            · have := ys_mono 10001 z (by omega); have e : ys 10001 = 2922306 := by decide
              omega
            · exact h'
          go_wp2_with (go_at_call 146; refine (yearStart_any _ _ (by omega) (by omega)).mono ?_; rintro e w' ⟨rfl, rfl⟩)
          have hA1 : Ahead (w.alloc (.cells #[.int .i64 0, .int .i64 0, .int .i64 0] 23)) := hA.below' ((Below.refl _ _).alloc (Nat.le_refl _) _)
          have hd12 : n - ys z < da z (12 + 1) := by rw [da_13]; have := H.out; omega
          go_loop [4] (fun t => ∃ m : Int, 1 ≤ m ∧ m ≤ 12 ∧ n - ys z < da z (m + 1) ∧ t = .int .i64 m) (fun t => (intOf t).toNat)
          case atStart => exact ⟨12, by omega, by omega, hd12, rfl⟩
          case round =>
            clear hd12
            obtain ⟨m, m1, m2, hm3, rfl⟩ := hrel
            have HM := Lib.hid hm3
            clear hm3
            obtain ⟨b1, b2⟩ := da_bd z m m1 m2
            by_cases hc3 : n - ys z < da z m
            · have hm1 : 2 ≤ m := by
                rcases Int.lt_or_le m 2 with h' | h'
                · have e : m = 1 := by omega
                  subst e
                  have := da_one z
                  omega
                · exact h'
              have HN : Hid (n - ys z < da z (m - 1 + 1)) := by rw [Int.sub_add_cancel]; exact Lib.hid hc3
              go_wp2_with (go_at_call 147; refine (da_any _ _ _ m1 (by omega) hA1).mono ?_; rintro e w' ⟨rfl, rfl⟩)
              go_round
              case rel => exact ⟨m - 1, by omega, by omega, HN.out, rfl⟩
              case measure => simp [intOf]; omega
            · go_wp2_with (go_at_call 147; refine (da_any _ _ _ m1 (by omega) hA1).mono ?_; rintro e w' ⟨rfl, rfl⟩)
              refine bodyPost_ret (v := .agg #[.int .i64 z, .int .i64 m, .int .i64 (n - ys z - da z m + 1)]) (by simp [results, Tryz.results84, go_sem]) rfl ?_
              exact ⟨z, m, ⟨hc1, hc2, m1, m2, by omega, HM.out⟩, y1, hz, rfl, (Below.refl _ _).alloc (Nat.le_refl _) _⟩
end Go.Proofs.YtfhljcpicdabmaaGreatDoor
