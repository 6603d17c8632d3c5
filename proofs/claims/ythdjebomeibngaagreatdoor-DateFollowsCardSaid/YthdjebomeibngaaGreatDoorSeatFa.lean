/- The seat: the date that follows another one. -/
import Derived.Test.YthdjebomeibngaaGreatDoorSeatL
import Derived.Test.YthdjebomeibngaaGreatDoorSeatYm
import Derived.Deep.RegionLaw
namespace Go.Proofs.YthdjebomeibngaaGreatDoor
open Go Go.RowKit Go.DayM
set_option maxRecDepth 100000
set_option maxHeartbeats 1000000
theorem civilL_any (y m d : Int) (w : World) : Calls Tryz.prog 67 #[.int .i64 y, .int .i64 m, .int .i64 d] w fun e w' => e = .returned (.agg #[.int .i64 y, .int .i64 m, .int .i64 d]) ∧ Below w.heap.size w w' := by
  go_enter Tryz.func67, Tryz.ntmps67
  go_wp2
  refine bodyPost_ret (v := .agg #[.int .i64 y, .int .i64 m, .int .i64 d]) (by simp [results, Tryz.results67, go_sem]) rfl ⟨rfl, ?_⟩
  exact (Below.refl _ _).alloc (Nat.le_refl _) _
theorem follows_day (y m d : Int) (w : World) (_y1 : -9999 ≤ y) (_y2 : y ≤ 9999) (m1 : 1 ≤ m) (m2 : m ≤ 12) (d1 : 1 ≤ d) (d2 : d < len y m) : Calls Tryz.prog 66 #[.agg #[.int .i64 y, .int .i64 m, .int .i64 d], .agg #[.int .i64 y, .int .i64 m, .int .i64 (d + 1)]] w fun e w' => e = .returned (.bool true) ∧ Below w.heap.size w w' := by
  have l := len_bd y m m1 m2
  have hn : ¬ len y m < d + 1 := by omega
  go_enter Tryz.func66, Tryz.ntmps66
  go_wp2
  go_quiet ((go_at_call 141; exact Calls.quiet_of_same (length_any' _ _ _ m1 m2)))
  go_wp2
  go_ret
  refine ⟨rfl, ?_⟩
  repeat (first | assumption | exact Below.refl _ _ | refine below_drewN ?_ _ | refine Below.drew ?_ | refine Below.setCell ?_ (by first | exact Nat.le_refl _ | (simp; done) | (simp; omega)) _ | refine Below.alloc ?_ (by first | exact Nat.le_refl _ | (simp; done) | (simp; omega)) _)
theorem follows_month (y m d : Int) (w : World) (_y1 : -9999 ≤ y) (_y2 : y ≤ 9999) (m1 : 1 ≤ m) (m2 : m ≤ 12) (d1 : 1 ≤ d) (d2 : d = len y m) (m3 : m < 12) : Calls Tryz.prog 66 #[.agg #[.int .i64 y, .int .i64 m, .int .i64 d], .agg #[.int .i64 y, .int .i64 (m + 1), .int .i64 1]] w fun e w' => e = .returned (.bool true) ∧ Below w.heap.size w w' := by
  have l := len_bd y m m1 m2
  have hn : len y m < d + 1 := by omega
  have hm : ¬ 12 < m + 1 := by omega
  have d3 : d ≤ 31 := by omega
  have D2 := Lib.hid d2
  clear d2
  go_enter Tryz.func66, Tryz.ntmps66
  go_wp2
  go_quiet ((go_at_call 141; exact Calls.quiet_of_same (length_any' _ _ _ m1 m2)))
  go_wp2
  go_ret
  refine ⟨rfl, ?_⟩
  repeat (first | assumption | exact Below.refl _ _ | refine below_drewN ?_ _ | refine Below.drew ?_ | refine Below.setCell ?_ (by first | exact Nat.le_refl _ | (simp; done) | (simp; omega)) _ | refine Below.alloc ?_ (by first | exact Nat.le_refl _ | (simp; done) | (simp; omega)) _)
theorem follows_year (y m d : Int) (w : World) (y1 : -9999 ≤ y) (y2 : y ≤ 9999) (m1 : 1 ≤ m) (m2 : m ≤ 12) (d1 : 1 ≤ d) (d2 : d = len y m) (m3 : m = 12) : Calls Tryz.prog 66 #[.agg #[.int .i64 y, .int .i64 m, .int .i64 d], .agg #[.int .i64 (y + 1), .int .i64 1, .int .i64 1]] w fun e w' => e = .returned (.bool true) ∧ Below w.heap.size w w' := by
  have l := len_bd y m m1 m2
  have hn : len y m < d + 1 := by omega
  have hm : 12 < m + 1 := by omega
  have d3 : d ≤ 31 := by omega
  have D2 := Lib.hid d2
  have M3 := Lib.hid m3
  clear d2 m3
  go_enter Tryz.func66, Tryz.ntmps66
  go_wp2
  go_quiet ((go_at_call 141; exact Calls.quiet_of_same (length_any' _ _ _ m1 m2)))
  go_wp2
  go_ret
  refine ⟨rfl, ?_⟩
  repeat (first | assumption | exact Below.refl _ _ | refine below_drewN ?_ _ | refine Below.drew ?_ | refine Below.setCell ?_ (by first | exact Nat.le_refl _ | (simp; done) | (simp; omega)) _ | refine Below.alloc ?_ (by first | exact Nat.le_refl _ | (simp; done) | (simp; omega)) _)
end Go.Proofs.YthdjebomeibngaaGreatDoor
