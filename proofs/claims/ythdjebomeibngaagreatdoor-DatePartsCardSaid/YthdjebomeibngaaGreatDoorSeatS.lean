/- The seat: the specification's functions on months. -/
import Derived.Test.YthdjebomeibngaaGreatDoorSeatQm
import Derived.Test.YthdjebomeibngaaGreatDoorSeatL
import Derived.Deep.RegionLaw
namespace Go.Proofs.YthdjebomeibngaaGreatDoor
open Go Go.RowKit Go.DayM
set_option maxRecDepth 100000
set_option maxHeartbeats 1000000
theorem rest12_any (n : Int) (w : World) (h1 : -10000000 ≤ n) (h2 : n ≤ 10000000) : Calls Tryz.prog 151 #[.int .i64 n, .int .i64 12] w fun e w' => e = .returned (.int .i64 (n % 12)) ∧ w = w' := by
  go_enter Tryz.func151, Tryz.ntmps151
  go_wp2_with (go_at_call 150; refine (floor_any _ _ _ (by omega) (by omega) (by omega) (by omega)).mono ?_; rintro e w' ⟨rfl, rfl⟩)
  go_ret
  exact ⟨ret_int (by omega), rfl⟩
theorem moved_out (y m n : Int) (w : World) (h : n < -240000 ∨ 240000 < n) : Calls Tryz.prog 153 #[.int .i64 y, .int .i64 m, .int .i64 n] w fun e w' => e = .returned (.tuple #[.int .i64 0, .int .i64 0, .bool false]) ∧ w = w' := by
  rcases Classical.em (n < -240000) with h' | h'
  · go_enter Tryz.func153, Tryz.ntmps153
    go_wp2
    go_ret3
    exact ⟨rfl, rfl⟩
  · have h2 : 240000 < n := by omega
    go_enter Tryz.func153, Tryz.ntmps153
    go_wp2
    go_ret3
    exact ⟨rfl, rfl⟩
def inOK (k : Int) : Bool := decide (-119988 ≤ k) && decide (k ≤ 119999)
theorem inOK_eq {k : Int} : inOK k = (decide (-9999 ≤ inY k) && decide (inY k ≤ 9999)) := by
  unfold inOK inY
  rw [Bool.eq_iff_iff]
  simp
  omega
theorem moved_in (y m n : Int) (w : World) (y1 : -9999 ≤ y) (y2 : y ≤ 9999) (m1 : 1 ≤ m) (m2 : m ≤ 12) (h1 : -240000 ≤ n) (h2 : n ≤ 240000) : Calls Tryz.prog 153 #[.int .i64 y, .int .i64 m, .int .i64 n] w fun e w' => e = .returned (.tuple #[.int .i64 (inY (y * 12 + m - 1 + n)), .int .i64 (inM (y * 12 + m - 1 + n)), .bool (inOK (y * 12 + m - 1 + n))]) ∧ w = w' := by
  have e : 12 * y = y * 12 := by omega
  have H := Lib.hid (inOK_eq (k := y * 12 + m - 1 + n))
  have hY : inY (y * 12 + m - 1 + n) = (12 * y + m - 1 + n) / 12 := by unfold inY; rw [e]
  have hM : inM (y * 12 + m - 1 + n) = (12 * y + m - 1 + n) % 12 + 1 := by unfold inM; rw [e]
  have HY := Lib.hid hY
  have HM := Lib.hid hM
  clear e hY hM
  rcases Classical.em (-9999 ≤ (12 * y + m - 1 + n) / 12) with h | h
  all_goals
    go_enter Tryz.func153, Tryz.ntmps153
    go_wp2_with (first | (go_at_call 150; refine (floor_any _ _ _ (by omega) (by omega) (by omega) (by omega)).mono ?_; rintro e w' ⟨rfl, rfl⟩) | (go_at_call 151; refine (rest12_any _ _ (by omega) (by omega)).mono ?_; rintro e w' ⟨rfl, rfl⟩))
    go_ret3
    refine ⟨?_, rfl⟩
    rw [H.out, HY.out, HM.out]
    first | (simp [h]; done) | (simp; intro _; omega)
theorem addOf_no (y m d n : Int) (w : World) (y1 : -9999 ≤ y) (y2 : y ≤ 9999) (m1 : 1 ≤ m) (m2 : m ≤ 12) (hk : inOK (y * 12 + m - 1 + n) = false) : Calls Tryz.prog 97 #[.agg #[.int .i64 y, .int .i64 m, .int .i64 d], .int .i64 n] w fun e w' => e = .returned (.tuple #[.agg #[.int .i64 0, .int .i64 0, .int .i64 0], .bool false]) ∧ Below w.heap.size w w' := by
  have hk0 : Below w.heap.size w ((w.alloc (.cells #[.int .i64 y, .int .i64 m, .int .i64 d] 23)).alloc (.cells #[.int .i64 0, .int .i64 0, .int .i64 0] 23)) := ((Below.refl _ _).alloc (Nat.le_refl _) _).alloc (by simp) _
  rcases Classical.em (n < -240000 ∨ 240000 < n) with h | h
  · go_enter Tryz.func97, Tryz.ntmps97
    go_wp2_with (go_at_call 153; refine (moved_out _ _ _ _ h).mono ?_; rintro e w' ⟨rfl, rfl⟩)
    refine bodyPost_ret (v := .tuple #[.agg #[.int .i64 0, .int .i64 0, .int .i64 0], .bool false]) (by simp [results, Tryz.results97, go_sem]) rfl ⟨rfl, ?_⟩
    exact hk0
  · go_enter Tryz.func97, Tryz.ntmps97
    go_wp2_with (go_at_call 153; refine (moved_in _ _ _ _ y1 y2 m1 m2 (by omega) (by omega)).mono ?_; rintro e w' ⟨rfl, rfl⟩)
    refine bodyPost_ret (v := .tuple #[.agg #[.int .i64 0, .int .i64 0, .int .i64 0], .bool false]) (by simp [results, Tryz.results97, go_sem]) rfl ⟨rfl, ?_⟩
    exact hk0
theorem addOf_yes (y m d n : Int) (w : World) (y1 : -9999 ≤ y) (y2 : y ≤ 9999) (m1 : 1 ≤ m) (m2 : m ≤ 12) (hk : inOK (y * 12 + m - 1 + n) = true) : Calls Tryz.prog 97 #[.agg #[.int .i64 y, .int .i64 m, .int .i64 d], .int .i64 n] w fun e w' => e = .returned (.tuple #[.agg #[.int .i64 (inY (y * 12 + m - 1 + n)), .int .i64 (inM (y * 12 + m - 1 + n)), .int .i64 (inD (y * 12 + m - 1 + n) d)], .bool true]) ∧ Below w.heap.size w w' := by
  have hb : -119988 ≤ y * 12 + m - 1 + n ∧ y * 12 + m - 1 + n ≤ 119999 := by unfold inOK at hk; simpa using hk
  have hm := inM_bd (y * 12 + m - 1 + n)
  have hl := len_bd (inY (y * 12 + m - 1 + n)) (inM (y * 12 + m - 1 + n)) hm.1 hm.2
  rcases Classical.em (len (inY (y * 12 + m - 1 + n)) (inM (y * 12 + m - 1 + n)) < d) with h | h
  · go_enter Tryz.func97, Tryz.ntmps97
    go_wp2_with fail
    refine (moved_in _ _ _ _ y1 y2 m1 m2 (by omega) (by omega)).mono ?_
    rintro e w' ⟨rfl, rfl⟩
    go_wp2
    go_region_law ((go_simp; go_at_call 141; refine (length_any _ _ _ hm.1 hm.2).mono ?_; rintro e w' ⟨rfl, rfl⟩))
    all_goals
      go_wp2
      refine bodyPost_ret (v := .tuple #[.agg #[.int .i64 (inY (y * 12 + m - 1 + n)), .int .i64 (inM (y * 12 + m - 1 + n)), .int .i64 (len (inY (y * 12 + m - 1 + n)) (inM (y * 12 + m - 1 + n)))], .bool true]) (by simp [results, Tryz.results97, go_sem]) rfl ⟨?_, ?_⟩
      · have e : inD (y * 12 + m - 1 + n) d = (len (inY (y * 12 + m - 1 + n)) (inM (y * 12 + m - 1 + n))) := by unfold inD; rw [if_neg (by omega)]
        rw [e]
      · first | exact ((Below.refl _ _).alloc (Nat.le_refl _) _).alloc (by simp) _ | exact (((Below.refl _ _).alloc (Nat.le_refl _) _).alloc (by simp) _).drew
  · go_enter Tryz.func97, Tryz.ntmps97
    go_wp2_with fail
    refine (moved_in _ _ _ _ y1 y2 m1 m2 (by omega) (by omega)).mono ?_
    rintro e w' ⟨rfl, rfl⟩
    go_wp2
    go_region_law ((go_simp; go_at_call 141; refine (length_any _ _ _ hm.1 hm.2).mono ?_; rintro e w' ⟨rfl, rfl⟩))
    all_goals
      go_wp2
      refine bodyPost_ret (v := .tuple #[.agg #[.int .i64 (inY (y * 12 + m - 1 + n)), .int .i64 (inM (y * 12 + m - 1 + n)), .int .i64 d], .bool true]) (by simp [results, Tryz.results97, go_sem]) rfl ⟨?_, ?_⟩
      · have e : inD (y * 12 + m - 1 + n) d = d := by unfold inD; rw [if_pos (by omega)]
        rw [e]
      · first | exact ((Below.refl _ _).alloc (Nat.le_refl _) _).alloc (by simp) _ | exact (((Below.refl _ _).alloc (Nat.le_refl _) _).alloc (by simp) _).drew
theorem addR_bad (y m d n : Int) (w : World) (hg : good y m d = false) : Calls Tryz.prog 32 #[.agg #[.int .i64 y, .int .i64 m, .int .i64 d], .int .i64 n] w fun e w' => e = .returned (.tuple #[.agg #[.int .i64 0, .int .i64 0, .int .i64 0], .int .i64 2]) ∧ Below w.heap.size w w' := by
  go_enter Tryz.func32, Tryz.ntmps32
  go_wp2_with fail
  refine (goodR_any _ _ _ _).mono ?_
  rintro e w1 ⟨rfl, b1⟩
  obtain ⟨hc1, hf1⟩ := bcell b1
  have s1 : w.heap.size + 1 < w1.heap.size := by (have := b1.size; simp at this; omega)
  have s0 : w.heap.size < w1.heap.size := by omega
  have k1 : Below w.heap.size w w1 := (((Below.refl _ _).alloc (Nat.le_refl _) _).alloc (by simp) _).trans (b1.mono (by simp; omega))
  go_wp2
  refine bodyPost_ret (v := .tuple #[.agg #[.int .i64 0, .int .i64 0, .int .i64 0], .int .i64 2]) (by simp [results, Tryz.results32, go_sem, hc1]) rfl ⟨rfl, ?_⟩
  exact ((k1.setCell (by simp) _).setCell (by simp) _).setCell (by simp) _
theorem addR_long (y m d n : Int) (w : World) (hg : good y m d = true) (g1 : -9999 ≤ y) (g2 : y ≤ 9999) (m1 : 1 ≤ m) (m2 : m ≤ 12) (hk : inOK (y * 12 + m - 1 + n) = false) : Calls Tryz.prog 32 #[.agg #[.int .i64 y, .int .i64 m, .int .i64 d], .int .i64 n] w fun e w' => e = .returned (.tuple #[.agg #[.int .i64 0, .int .i64 0, .int .i64 0], .int .i64 3]) ∧ Below w.heap.size w w' := by
  go_enter Tryz.func32, Tryz.ntmps32
  go_wp2_with fail
  refine (goodR_any _ _ _ _).mono ?_
  rintro e w1 ⟨rfl, b1⟩
  obtain ⟨hc1, hf1⟩ := bcell b1
  have s1 : w.heap.size + 1 < w1.heap.size := by (have := b1.size; simp at this; omega)
  have s0 : w.heap.size < w1.heap.size := by omega
  have k1 : Below w.heap.size w w1 := (((Below.refl _ _).alloc (Nat.le_refl _) _).alloc (by simp) _).trans (b1.mono (by simp; omega))
  go_wp2_with fail
  refine (addOf_no _ _ _ _ _ g1 g2 m1 m2 hk).mono ?_
  rintro e w2 ⟨rfl, b2⟩
  obtain ⟨hc2, hf2⟩ := bcell b2
  have s2 := b2.size
  have s02 : w.heap.size < w2.heap.size := by omega
  have s12 : w.heap.size + 1 < w2.heap.size := by omega
  have k2 : Below w.heap.size w w2 := k1.trans (b2.mono (by omega))
  go_wp2
  refine bodyPost_ret (v := .tuple #[.agg #[.int .i64 0, .int .i64 0, .int .i64 0], .int .i64 3]) (by simp [results, Tryz.results32, go_sem, hc1, hc2, s1, s12]) rfl ⟨rfl, ?_⟩
  repeat (first | assumption | refine Below.setCell ?_ (by first | (simp; done) | (simp; omega)) _ | refine Below.alloc ?_ (by first | omega | (simp; omega)) _)
theorem addR_yes (y m d n : Int) (w : World) (hg : good y m d = true) (g1 : -9999 ≤ y) (g2 : y ≤ 9999) (m1 : 1 ≤ m) (m2 : m ≤ 12) (hk : inOK (y * 12 + m - 1 + n) = true) : Calls Tryz.prog 32 #[.agg #[.int .i64 y, .int .i64 m, .int .i64 d], .int .i64 n] w fun e w' => e = .returned (.tuple #[.agg #[.int .i64 (inY (y * 12 + m - 1 + n)), .int .i64 (inM (y * 12 + m - 1 + n)), .int .i64 (inD (y * 12 + m - 1 + n) d)], .int .i64 0]) ∧ Below w.heap.size w w' := by
  go_enter Tryz.func32, Tryz.ntmps32
  go_wp2_with fail
  refine (goodR_any _ _ _ _).mono ?_
  rintro e w1 ⟨rfl, b1⟩
  obtain ⟨hc1, hf1⟩ := bcell b1
  have s1 : w.heap.size + 1 < w1.heap.size := by (have := b1.size; simp at this; omega)
  have s0 : w.heap.size < w1.heap.size := by omega
  have k1 : Below w.heap.size w w1 := (((Below.refl _ _).alloc (Nat.le_refl _) _).alloc (by simp) _).trans (b1.mono (by simp; omega))
  go_wp2_with fail
  refine (addOf_yes _ _ _ _ _ g1 g2 m1 m2 hk).mono ?_
  rintro e w2 ⟨rfl, b2⟩
  obtain ⟨hc2, hf2⟩ := bcell b2
  have s2 := b2.size
  have s02 : w.heap.size < w2.heap.size := by omega
  have s12 : w.heap.size + 1 < w2.heap.size := by omega
  have k2 : Below w.heap.size w w2 := k1.trans (b2.mono (by omega))
  go_wp2
  refine bodyPost_ret (v := .tuple #[.agg #[.int .i64 (inY (y * 12 + m - 1 + n)), .int .i64 (inM (y * 12 + m - 1 + n)), .int .i64 (inD (y * 12 + m - 1 + n) d)], .int .i64 0]) (by simp [results, Tryz.results32, go_sem, hc1, hc2, s1, s12]) rfl ⟨rfl, ?_⟩
  repeat (first | assumption | refine Below.setCell ?_ (by first | (simp; done) | (simp; omega)) _ | refine Below.alloc ?_ (by first | omega | (simp; omega)) _)
end Go.Proofs.YthdjebomeibngaaGreatDoor
