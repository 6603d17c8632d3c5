import Derived.Test.YtfhljcpicdabmaaGreatDoorSeatE
import Derived.Deep.RegionHeld3
namespace Go.Proofs.YtfhljcpicdabmaaGreatDoor
open Go Go.RowKit Go.DayM
set_option maxRecDepth 100000
set_option maxHeartbeats 1000000
theorem bcell {W w1 : World} (hb : Below W.heap.size W w1) : (∀ b o, b < W.heap.size → w1.cell? ⟨b, o, none⟩ = W.cell? ⟨b, o, none⟩) ∧ (∀ b o, b < W.heap.size → w1.frozen? ⟨b, o, none⟩ = W.frozen? ⟨b, o, none⟩) :=
  ⟨fun b o h => hb.cell (p := ⟨b, o, none⟩) h, fun b o h => hb.frozen (p := ⟨b, o, none⟩) h⟩
theorem held_lt {a b c d : Prop} {n m : Nat} (h : a ∧ b ∧ c ∧ n < m ∧ d) : n < m := h.2.2.2.1
theorem held_below {a b c d : Prop} {B : Nat} {w w' : World} (h : a ∧ b ∧ c ∧ d ∧ Below B w w') : Below B w w' := h.2.2.2.2
theorem isYear_yes (y : Int) (w : World) (h1 : -9999 ≤ y) (h2 : y ≤ 9999) : Calls Tryz.prog 92 #[.int .i64 y] w fun e w' => e = .returned (.bool true) ∧ w = w' := by
  go_enter Tryz.func92, Tryz.ntmps92
  go_wp2
  go_ret
  exact ⟨rfl, rfl⟩
theorem isYear_low (y : Int) (w : World) (h1 : y < -9999) : Calls Tryz.prog 92 #[.int .i64 y] w fun e w' => e = .returned (.bool false) ∧ w = w' := by
  go_enter Tryz.func92, Tryz.ntmps92
  go_wp2
  go_ret
  exact ⟨rfl, rfl⟩
theorem isYear_high (y : Int) (w : World) (h1 : 9999 < y) : Calls Tryz.prog 92 #[.int .i64 y] w fun e w' => e = .returned (.bool false) ∧ w = w' := by
  have h0 : -9999 ≤ y := by omega
  go_enter Tryz.func92, Tryz.ntmps92
  go_wp2
  go_ret
  exact ⟨ret_bool (by simp; omega), rfl⟩
theorem isYear_no (y : Int) (w : World) (h1 : y < -9999 ∨ 9999 < y) : Calls Tryz.prog 92 #[.int .i64 y] w fun e w' => e = .returned (.bool false) ∧ w = w' := by
  rcases h1 with h1 | h1
  · exact isYear_low y w h1
  · exact isYear_high y w h1
theorem of_bad {y m d : Int} (h : good y m d = false) (y1 : -9999 ≤ y) (y2 : y ≤ 9999) (m1 : 1 ≤ m) (m2 : m ≤ 12) (d1 : 1 ≤ d) (d2 : d ≤ 31) : Of (dayOf y m d) y (m + 1) := by
  have hng : ¬ (d ≤ da y (m + 1) - da y m) := fun hd => by
    have := (good_iff y m d).2 ⟨y1, y2, m1, m2, d1, hd⟩
    rw [h] at this
    cases this
  have hs := da_step y m m1 m2
  have hm : m ≤ 11 := by
    rcases Int.lt_or_le 11 m with h' | h'
    · have e : m = 12 := by omega
      subst e
      have e1 := da_13 y
      have e2 : da y 12 = 334 + lp y := by simp [da, ah]
      omega
    · exact h'
  have hs2 := da_step y (m + 1) (by omega) (by omega)
  have b := da_bd y m m1 m2
  have hy := ys_succ y
  have hl := lp_01 y
  have hb := da_mono y (13 - (m + 1 + 1)).toNat (m + 1 + 1) (by omega) (by omega)
  have e : m + 1 + 1 + ((13 - (m + 1 + 1)).toNat : Int) = 13 := by omega
  rw [e] at hb
  have e13 : da y 13 = 365 + lp y := da_13 y
  exact ⟨by unfold dayOf; omega, by unfold dayOf; omega, by omega, by omega, by unfold dayOf; omega, by unfold dayOf; omega⟩
theorem dateOf_bad (y m d : Int) (w : World) (h : good y m d = false) (y1 : -9999 ≤ y) (y2 : y ≤ 9999) (m1 : 1 ≤ m) (m2 : m ≤ 12) (d1 : 1 ≤ d) (d2 : d ≤ 31) (hA : Ahead w) : Calls Tryz.prog 84 #[.int .i64 (dayOf y m d)] w fun e w' => e = .returned (.agg #[.int .i64 y, .int .i64 (m + 1), .int .i64 (dayOf y m d - ys y - da y (m + 1) + 1)]) ∧ Below w.heap.size w w' := by
  have b := day_bd y1 y2 m1 m2 d1 d2
  have ho := of_bad h y1 y2 m1 m2 d1 d2
  refine (dateOf_any _ w b.1 b.2 hA).mono fun e w' ⟨y', m', o, _, _, he, hb⟩ => ⟨?_, hb⟩
  have e1 := ho.year o
  subst e1
  have e2 := ho.month o
  subst e2
  exact he
theorem dateOf_good (y m d : Int) (w : World) (h : good y m d = true) (hA : Ahead w) : Calls Tryz.prog 84 #[.int .i64 (dayOf y m d)] w fun e w' => e = .returned (.agg #[.int .i64 y, .int .i64 m, .int .i64 d]) ∧ Below w.heap.size w w' := by
  have ho := of_good h
  rw [good_iff] at h
  have s := da_step y m (by omega) (by omega)
  have b := day_bd h.1 h.2.1 h.2.2.1 h.2.2.2.1 h.2.2.2.2.1 (by omega)
  refine (dateOf_any _ w b.1 b.2 hA).mono fun e w' ⟨y', m', o, _, _, he, hb⟩ => ⟨?_, hb⟩
  have e1 := ho.year o
  subst e1
  have e2 := ho.month o
  subst e2
  rw [he]
  have : dayOf y m d - ys y - da y m + 1 = d := by unfold dayOf; omega
  rw [this]
theorem isDate_good (y m d : Int) (w : World) (h : Hid (good y m d = true)) (y1 : -9999 ≤ y) (y2 : y ≤ 9999) (m1 : 1 ≤ m) (m2 : m ≤ 12) (d1 : 1 ≤ d) (d2 : d ≤ 31) (hA : Ahead w) : Calls Tryz.prog 81 #[.agg #[.int .i64 y, .int .i64 m, .int .i64 d]] w fun e w' => e = .returned (.bool true) ∧ Below w.heap.size w w' := by
  go_enter Tryz.func81, Tryz.ntmps81
  go_wp2
  go_region_held3 (fun w' => w'.cell? ⟨w.heap.size, 0, none⟩ = some (.int .i64 y) ∧ w'.cell? ⟨w.heap.size, 1, none⟩ = some (.int .i64 m) ∧ w'.cell? ⟨w.heap.size, 2, none⟩ = some (.int .i64 d) ∧ w.heap.size < w'.heap.size ∧ Below w.heap.size w w')
    ((refine ⟨?_, ?_, ?_, ?_, ?_⟩ <;> (first | go_keep | omega | assumption | exact (Below.refl _ _).alloc (Nat.le_refl _) _ | exact ((Below.refl _ _).alloc (Nat.le_refl _) _).drew | exact Below.trans (by assumption) (Below.mono (by assumption) (by omega)) | (have := hb.size; omega))))
    (first | (go_at_call 92; refine (isYear_yes _ _ y1 y2).mono ?_; rintro e w' ⟨rfl, rfl⟩) | (go_at_call 82; refine (dayOf_any _ _ _ _ y1 y2 m1 m2 d1 d2 (hA.below' (by first | assumption | exact held_below (by assumption) | exact ((Below.refl _ _).alloc (Nat.le_refl _) _).drew))).mono ?_; rintro e w' ⟨rfl, hb⟩; have hbW : Below w.heap.size w w' := Below.trans (by first | assumption | exact held_below (by assumption) | exact ((Below.refl _ _).alloc (Nat.le_refl _) _).drew) (hb.mono (by first | omega | (simp; done) | exact Nat.le_of_lt (held_lt (by assumption)))); obtain ⟨hcc, hff⟩ := bcell hb) | (go_at_call 84; refine (dateOf_good _ _ _ _ h.out (hA.below' (by first | assumption | exact held_below (by assumption) | exact ((Below.refl _ _).alloc (Nat.le_refl _) _).drew))).mono ?_; rintro e w' ⟨rfl, hb⟩; have hbW : Below w.heap.size w w' := Below.trans (by first | assumption | exact held_below (by assumption) | exact ((Below.refl _ _).alloc (Nat.le_refl _) _).drew) (hb.mono (by first | omega | (simp; done) | exact Nat.le_of_lt (held_lt (by assumption)))); obtain ⟨hcc, hff⟩ := bcell hb))
  go_wp2
  go_ret
  exact ⟨rfl, by assumption⟩
theorem isDate_bad (y m d : Int) (w : World) (h : Hid (good y m d = false)) (y1 : -9999 ≤ y) (y2 : y ≤ 9999) (m1 : 1 ≤ m) (m2 : m ≤ 12) (d1 : 1 ≤ d) (d2 : d ≤ 31) (hA : Ahead w) (hne : (m + 1 == m) = false) : Calls Tryz.prog 81 #[.agg #[.int .i64 y, .int .i64 m, .int .i64 d]] w fun e w' => e = .returned (.bool false) ∧ Below w.heap.size w w' := by
  go_enter Tryz.func81, Tryz.ntmps81
  go_wp2
  go_region_held3 (fun w' => w'.cell? ⟨w.heap.size, 0, none⟩ = some (.int .i64 y) ∧ w'.cell? ⟨w.heap.size, 1, none⟩ = some (.int .i64 m) ∧ w'.cell? ⟨w.heap.size, 2, none⟩ = some (.int .i64 d) ∧ w.heap.size < w'.heap.size ∧ Below w.heap.size w w')
    ((refine ⟨?_, ?_, ?_, ?_, ?_⟩ <;> (first | go_keep | omega | assumption | exact (Below.refl _ _).alloc (Nat.le_refl _) _ | exact ((Below.refl _ _).alloc (Nat.le_refl _) _).drew | exact Below.trans (by assumption) (Below.mono (by assumption) (by omega)) | (have := hb.size; omega))))
    (first | (go_at_call 92; refine (isYear_yes _ _ y1 y2).mono ?_; rintro e w' ⟨rfl, rfl⟩) | (go_at_call 82; refine (dayOf_any _ _ _ _ y1 y2 m1 m2 d1 d2 (hA.below' (by first | assumption | exact held_below (by assumption) | exact ((Below.refl _ _).alloc (Nat.le_refl _) _).drew))).mono ?_; rintro e w' ⟨rfl, hb⟩; have hbW : Below w.heap.size w w' := Below.trans (by first | assumption | exact held_below (by assumption) | exact ((Below.refl _ _).alloc (Nat.le_refl _) _).drew) (hb.mono (by first | omega | (simp; done) | exact Nat.le_of_lt (held_lt (by assumption)))); obtain ⟨hcc, hff⟩ := bcell hb) | (go_at_call 84; refine (dateOf_bad _ _ _ _ h.out y1 y2 m1 m2 d1 d2 (hA.below' (by first | assumption | exact held_below (by assumption) | exact ((Below.refl _ _).alloc (Nat.le_refl _) _).drew))).mono ?_; rintro e w' ⟨rfl, hb⟩; have hbW : Below w.heap.size w w' := Below.trans (by first | assumption | exact held_below (by assumption) | exact ((Below.refl _ _).alloc (Nat.le_refl _) _).drew) (hb.mono (by first | omega | (simp; done) | exact Nat.le_of_lt (held_lt (by assumption)))); obtain ⟨hcc, hff⟩ := bcell hb))
  go_wp2
  go_ret
  exact ⟨rfl, by assumption⟩
theorem isYear_no' (y : Int) (w : World) (h : y < -9999 ∨ 9999 < y) : Calls Tryz.prog 92 #[.int .i64 y] w fun e w' => e = .returned (.bool false) ∧ w' = w := (isYear_no y w h).mono fun _ _ ⟨h, k⟩ => ⟨h, k.symm⟩
theorem isYear_yes' (y : Int) (w : World) (h1 : -9999 ≤ y) (h2 : y ≤ 9999) : Calls Tryz.prog 92 #[.int .i64 y] w fun e w' => e = .returned (.bool true) ∧ w' = w := (isYear_yes y w h1 h2).mono fun _ _ ⟨h, k⟩ => ⟨h, k.symm⟩
theorem isDate_y (y m d : Int) (w : World) (y0 : Hid (y < -9999 ∨ 9999 < y)) : Calls Tryz.prog 81 #[.agg #[.int .i64 y, .int .i64 m, .int .i64 d]] w fun e w' => e = .returned (.bool false) ∧ Below w.heap.size w w' := by
  go_enter Tryz.func81, Tryz.ntmps81
  go_wp2
  go_quiet ((go_at_call 92; exact Calls.quiet_of_same (isYear_no' _ _ y0.out)))
  go_wp2
  go_ret
  exact ⟨rfl, below_drewN ((Below.refl _ _).alloc (Nat.le_refl _) _) _⟩
theorem isDate_m0 (y m d : Int) (w : World) (y1 : -9999 ≤ y) (y2 : y ≤ 9999) (_m0 : m < 1) (m0' : decide (1 ≤ m) = false) : Calls Tryz.prog 81 #[.agg #[.int .i64 y, .int .i64 m, .int .i64 d]] w fun e w' => e = .returned (.bool false) ∧ Below w.heap.size w w' := by
  go_enter Tryz.func81, Tryz.ntmps81
  go_wp2
  go_quiet ((go_at_call 92; exact Calls.quiet_of_same (isYear_yes' _ _ y1 y2)))
  go_wp2
  go_ret
  exact ⟨rfl, below_drewN ((Below.refl _ _).alloc (Nat.le_refl _) _) _⟩
theorem isDate_m13 (y m d : Int) (w : World) (y1 : -9999 ≤ y) (y2 : y ≤ 9999) (m1 : 1 ≤ m) (_m0 : 12 < m) (m0' : decide (m ≤ 12) = false) : Calls Tryz.prog 81 #[.agg #[.int .i64 y, .int .i64 m, .int .i64 d]] w fun e w' => e = .returned (.bool false) ∧ Below w.heap.size w w' := by
  go_enter Tryz.func81, Tryz.ntmps81
  go_wp2
  go_quiet ((go_at_call 92; exact Calls.quiet_of_same (isYear_yes' _ _ y1 y2)))
  go_wp2
  go_ret
  exact ⟨rfl, below_drewN ((Below.refl _ _).alloc (Nat.le_refl _) _) _⟩
theorem isDate_d0 (y m d : Int) (w : World) (y1 : -9999 ≤ y) (y2 : y ≤ 9999) (m1 : 1 ≤ m) (m2 : m ≤ 12) (_d0 : d < 1) (d0' : decide (1 ≤ d) = false) : Calls Tryz.prog 81 #[.agg #[.int .i64 y, .int .i64 m, .int .i64 d]] w fun e w' => e = .returned (.bool false) ∧ Below w.heap.size w w' := by
  go_enter Tryz.func81, Tryz.ntmps81
  go_wp2
  go_quiet ((go_at_call 92; exact Calls.quiet_of_same (isYear_yes' _ _ y1 y2)))
  go_wp2
  go_ret
  exact ⟨rfl, below_drewN ((Below.refl _ _).alloc (Nat.le_refl _) _) _⟩
theorem isDate_d32 (y m d : Int) (w : World) (y1 : -9999 ≤ y) (y2 : y ≤ 9999) (m1 : 1 ≤ m) (m2 : m ≤ 12) (d1 : 1 ≤ d) (_d0 : 31 < d) (d0' : decide (d ≤ 31) = false) : Calls Tryz.prog 81 #[.agg #[.int .i64 y, .int .i64 m, .int .i64 d]] w fun e w' => e = .returned (.bool false) ∧ Below w.heap.size w w' := by
  go_enter Tryz.func81, Tryz.ntmps81
  go_wp2
  go_quiet ((go_at_call 92; exact Calls.quiet_of_same (isYear_yes' _ _ y1 y2)))
  go_wp2
  go_ret
  exact ⟨rfl, below_drewN ((Below.refl _ _).alloc (Nat.le_refl _) _) _⟩
theorem isDate_any (y m d : Int) (w : World) (hA : Ahead w) : Calls Tryz.prog 81 #[.agg #[.int .i64 y, .int .i64 m, .int .i64 d]] w fun e w' => e = .returned (.bool (good y m d)) ∧ Below w.heap.size w w' := by
  have no : ∀ (h : ¬ (-9999 ≤ y ∧ y ≤ 9999 ∧ 1 ≤ m ∧ m ≤ 12 ∧ 1 ≤ d ∧ d ≤ da y (m + 1) - da y m)), good y m d = false := fun h => by
    cases hg : good y m d with
    | false => rfl
    | true => exact (h ((good_iff y m d).1 hg)).elim
  by_cases hy : y < -9999 ∨ 9999 < y
  · rw [no (by omega)]; exact isDate_y y m d w (Lib.hid hy)
  · by_cases hm0 : m < 1
    · rw [no (by omega)]; exact isDate_m0 y m d w (by omega) (by omega) hm0 (by simp; omega)
    · by_cases hm13 : 12 < m
      · rw [no (by omega)]; exact isDate_m13 y m d w (by omega) (by omega) (by omega) hm13 (by simp; omega)
      · by_cases hd0 : d < 1
        · rw [no (by omega)]; exact isDate_d0 y m d w (by omega) (by omega) (by omega) (by omega) hd0 (by simp; omega)
        · by_cases hd32 : 31 < d
          · have := da_step y m (by omega) (by omega)
            rw [no (by omega)]; exact isDate_d32 y m d w (by omega) (by omega) (by omega) (by omega) (by omega) hd32 (by simp; omega)
          · cases hg : good y m d with
            | true => exact isDate_good y m d w (Lib.hid hg) (by omega) (by omega) (by omega) (by omega) (by omega) (by omega) hA
            | false => exact isDate_bad y m d w (Lib.hid hg) (by omega) (by omega) (by omega) (by omega) (by omega) (by omega) hA (by simp; omega)
end Go.Proofs.YtfhljcpicdabmaaGreatDoor
