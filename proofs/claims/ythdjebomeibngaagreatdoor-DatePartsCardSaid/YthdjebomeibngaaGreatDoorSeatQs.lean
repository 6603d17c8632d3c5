/- The seat: Since. -/
import Derived.Test.YthdjebomeibngaaGreatDoorSeatQm
namespace Go.Proofs.YthdjebomeibngaaGreatDoor
open Go Go.RowKit Go.DayM
set_option maxRecDepth 100000
set_option maxHeartbeats 1000000
abbrev OneIn (w : World) (y m d : Int) (w' : World) : Prop := w'.cell? ⟨w.heap.size, 0, none⟩ = some (.int .i64 y) ∧ w'.cell? ⟨w.heap.size, 1, none⟩ = some (.int .i64 m) ∧ w'.cell? ⟨w.heap.size, 2, none⟩ = some (.int .i64 d) ∧ w.heap.size < w'.heap.size ∧ Below w.heap.size w w'
abbrev TwoIn (w : World) (y m d y' m' d' : Int) (w' : World) : Prop := w'.cell? ⟨w.heap.size, 0, none⟩ = some (.int .i64 y) ∧ w'.cell? ⟨w.heap.size, 1, none⟩ = some (.int .i64 m) ∧ w'.cell? ⟨w.heap.size, 2, none⟩ = some (.int .i64 d) ∧ w'.cell? ⟨w.heap.size + 1, 0, none⟩ = some (.int .i64 y') ∧ w'.cell? ⟨w.heap.size + 1, 1, none⟩ = some (.int .i64 m') ∧ w'.cell? ⟨w.heap.size + 1, 2, none⟩ = some (.int .i64 d') ∧ w.heap.size < w'.heap.size ∧ w.heap.size + 1 < w'.heap.size ∧ Below w.heap.size w w'
theorem one_below {a b c d : Prop} {B : Nat} {w w' : World} (h : a ∧ b ∧ c ∧ d ∧ Below B w w') : Below B w w' := h.2.2.2.2
theorem one_lt {a b c d : Prop} {n m : Nat} (h : a ∧ b ∧ c ∧ n < m ∧ d) : n < m := h.2.2.2.1
theorem since_yes0 (y m d y' m' d' : Int) (w : World) (hA : Ahead w) (hg : good y m d = true) (hg' : good y' m' d' = true) (y1 : -9999 ≤ y) (y2 : y ≤ 9999) (m1 : 1 ≤ m) (m2 : m ≤ 12) (d1 : 1 ≤ d) (d2 : d ≤ 31) (y1' : -9999 ≤ y') (y2' : y' ≤ 9999) (m1' : 1 ≤ m') (m2' : m' ≤ 12) (d1' : 1 ≤ d') (d2' : d' ≤ 31) (hle : dayOf y m d ≤ dayOf y' m' d') (hk : dIn (y' * 12 + m' - 1) d ≤ dayOf y' m' d') :
    Calls Tryz.prog 31 #[.agg #[.int .i64 y, .int .i64 m, .int .i64 d], .agg #[.int .i64 y', .int .i64 m', .int .i64 d']] w fun e w' => e = .returned (.tuple #[.int .i64 (y' * 12 + m' - 1 - (y * 12 + m - 1)), .int .i64 (dayOf y' m' d' - dIn (y' * 12 + m' - 1) d), .int .i64 0]) ∧ Below w.heap.size w w' := by
  have hA1 : Ahead ((w.alloc (.cells #[.int .i64 y, .int .i64 m, .int .i64 d] 23)).alloc (.cells #[.int .i64 y', .int .i64 m', .int .i64 d'] 23)) := hA.below' (((Below.refl _ _).alloc (Nat.le_refl _) _).alloc (by simp) _)
  go_enter Tryz.func31, Tryz.ntmps31
  go_wp2_with fail
  refine (isDate_any _ _ _ _ hA1).mono ?_
  rintro e w1 ⟨rfl, b1⟩
  obtain ⟨hc1, hf1⟩ := bcell b1
  have s1 : w.heap.size + 1 < w1.heap.size := by (have := b1.size; simp at this; omega)
  have s0 : w.heap.size < w1.heap.size := by omega
  have k1 : Below w.heap.size w w1 := (((Below.refl _ _).alloc (Nat.le_refl _) _).alloc (by simp) _).trans (b1.mono (by simp; omega))
  go_wp2_with fail
  refine (isDate_any _ _ _ _ (hA.below' k1)).mono ?_
  rintro e w2 ⟨rfl, b2⟩
  obtain ⟨hc2, hf2⟩ := bcell b2
  have s2 := b2.size
  have k2 : Below w.heap.size w w2 := k1.trans (b2.mono (by omega))
  have c0 : w2.cell? ⟨w.heap.size, 0, none⟩ = some (.int .i64 y) := by go_simp
  have c1 : w2.cell? ⟨w.heap.size, 1, none⟩ = some (.int .i64 m) := by go_simp
  have c2 : w2.cell? ⟨w.heap.size, 2, none⟩ = some (.int .i64 d) := by go_simp
  have e0 : w2.cell? ⟨w.heap.size + 1, 0, none⟩ = some (.int .i64 y') := by go_simp
  have e1 : w2.cell? ⟨w.heap.size + 1, 1, none⟩ = some (.int .i64 m') := by go_simp
  have e2 : w2.cell? ⟨w.heap.size + 1, 2, none⟩ = some (.int .i64 d') := by go_simp
  have t2 : w.heap.size + 1 < w2.heap.size := by omega
  have t1 : w.heap.size < w2.heap.size := by omega
  clear hc1 hf1 hc2 hf2 b1 b2 k1 s0 s1 s2 hA1
  go_wp2
  go_region_held3 (fun w' => w'.cell? ⟨w.heap.size, 0, none⟩ = some (.int .i64 y) ∧ w'.cell? ⟨w.heap.size, 1, none⟩ = some (.int .i64 m) ∧ w'.cell? ⟨w.heap.size, 2, none⟩ = some (.int .i64 d) ∧ w'.cell? ⟨w.heap.size + 1, 0, none⟩ = some (.int .i64 y') ∧ w'.cell? ⟨w.heap.size + 1, 1, none⟩ = some (.int .i64 m') ∧ w'.cell? ⟨w.heap.size + 1, 2, none⟩ = some (.int .i64 d') ∧ w.heap.size < w'.heap.size ∧ w.heap.size + 1 < w'.heap.size ∧ Below w.heap.size w w')
    ((refine ⟨?_, ?_, ?_, ?_, ?_, ?_, ?_, ?_, ?_⟩ <;> (first | go_keep | omega | assumption | exact Below.drew (by assumption) | (rw [hcc _ _ (by first | exact t1 | exact t2 | omega)]; first | exact c0 | exact c1 | exact c2 | exact e0 | exact e1 | exact e2 | go_keep) | (have := hb.size; omega) | exact Below.trans (by first | assumption | exact two_below (by assumption) | exact Below.drew (by assumption)) (Below.mono (by assumption) (by first | omega | (simp; omega))))))
    (first | (go_at_call 82; refine (dayOf_any _ _ _ _ (by omega) (by omega) (by omega) (by omega) (by omega) (by omega) (hA.below' (by first | assumption | exact two_below (by assumption) | exact Below.drew (by assumption)))).mono ?_; rintro e w' ⟨rfl, hb⟩; have hbW : Below w.heap.size w w' := Below.trans (by first | assumption | exact two_below (by assumption) | exact Below.drew (by assumption)) (hb.mono (by first | omega | (simp; omega) | exact Nat.le_of_lt (two_lt (by assumption)))); obtain ⟨hcc, hff⟩ := bcell hb))
  have hS : TwoIn w y m d y' m' d' w' := by assumption
  obtain ⟨c0, c1, c2, e0, e1, e2, t1, t2, k3⟩ := hS
  have hnlt : ¬ dayOf y' m' d' < dayOf y m d := by omega
  obtain ⟨q1, q2⟩ := (good_iff y m d).1 hg
  have hmo := mo_le hg hg' m1 m2 m1' m2' d1 hle
  have hyb := inY_bd (k := y' * 12 + m' - 1) (by omega) (by omega)
  have hmb := inM_bd (y' * 12 + m' - 1)
  have hdb := inD_bd (k := y' * 12 + m' - 1) d1 d2
  have hnk : ¬ dayOf y' m' d' < dayOf (inY (y' * 12 + m' - 1)) (inM (y' * 12 + m' - 1)) (inD (y' * 12 + m' - 1) d) := by (have : dIn (y' * 12 + m' - 1) d = dayOf (inY (y' * 12 + m' - 1)) (inM (y' * 12 + m' - 1)) (inD (y' * 12 + m' - 1) d) := rfl); omega
  have HM := Lib.hid hmo
  clear hmo q1 q2
  go_wp2_with fail
  refine (monthOf_any _ _ _ _ (by omega) (by omega) m1' m2').mono ?_
  rintro e w4 ⟨rfl, b4⟩
  obtain ⟨hc4, hf4⟩ := bcell b4
  have s4 := b4.size
  have k4 : Below w.heap.size w w4 := k3.trans (b4.mono (by omega))
  go_wp2_with fail
  refine (dateIn_any _ _ _ (by omega) (by omega) (hA.below' k4)).mono ?_
  rintro e w5 ⟨rfl, b5⟩
  obtain ⟨hc5, hf5⟩ := bcell b5
  have s5 := b5.size
  have k5 : Below w.heap.size w w5 := k4.trans (b5.mono (by omega))
  go_wp2_with fail
  refine (dayOf_any _ _ _ _ hyb.1 hyb.2 hmb.1 hmb.2 hdb.1 hdb.2.1 (hA.below' k5)).mono ?_
  rintro e w6 ⟨rfl, b6⟩
  obtain ⟨hc6, hf6⟩ := bcell b6
  have s6 := b6.size
  have k6 : Below w.heap.size w w6 := k5.trans (b6.mono (by omega))
  have t4 : w.heap.size < w4.heap.size := by omega
  have t5 : w.heap.size < w5.heap.size := by omega
  have t6 : w.heap.size < w6.heap.size := by omega
  have r0 : w6.cell? ⟨w.heap.size, 0, none⟩ = some (.int .i64 y) := by rw [hc6 _ _ t5, hc5 _ _ t4, hc4 _ _ t1]; exact c0
  have r1 : w6.cell? ⟨w.heap.size, 1, none⟩ = some (.int .i64 m) := by rw [hc6 _ _ t5, hc5 _ _ t4, hc4 _ _ t1]; exact c1
  have r2 : w6.cell? ⟨w.heap.size, 2, none⟩ = some (.int .i64 d) := by rw [hc6 _ _ t5, hc5 _ _ t4, hc4 _ _ t1]; exact c2
  clear hc4 hf4 hc5 hf5 hc6 hf6 c0 c1 c2 e0 e1 e2 t1 t2 k3 k4 k5 t4 t5 s4 s5 s6 b4 b5 b6
  go_wp2
  have sw1 : IntKind.i64.wrap (y' * 12 + m' - 1 - (y * 12 + m - 1)) = y' * 12 + m' - 1 - (y * 12 + m - 1) := IntWalk.i64_in _ (by omega)
  have sw2 : IntKind.i64.wrap (dayOf y' m' d' - dayOf (inY (y' * 12 + m' - 1)) (inM (y' * 12 + m' - 1)) (inD (y' * 12 + m' - 1) d)) = dayOf y' m' d' - dayOf (inY (y' * 12 + m' - 1)) (inM (y' * 12 + m' - 1)) (inD (y' * 12 + m' - 1) d) := IntWalk.i64_in _ (by have := day_bd y1' y2' m1' m2' d1' d2'; have := day_bd hyb.1 hyb.2 hmb.1 hmb.2 hdb.1 hdb.2.1; omega)
  go_region_held3 (OneIn w y m d)
    ((refine ⟨?_, ?_, ?_, ?_, ?_⟩ <;> (first | go_keep | omega | assumption | exact Below.drew (by assumption) | (rw [hcc _ _ (by first | exact t6 | omega)]; first | exact r0 | exact r1 | exact r2 | go_keep) | (have := hb.size; omega) | exact Below.trans (by first | assumption | exact one_below (by assumption) | exact Below.drew (by assumption)) (Below.mono (by assumption) (by first | omega | (simp; omega))))))
    (first | (go_at_call 95; refine (monthOf_any _ _ _ _ (by omega) (by omega) m1 m2).mono ?_; rintro e w' ⟨rfl, hb⟩; have hbW : Below w.heap.size w w' := Below.trans (by first | assumption | exact one_below (by assumption) | exact Below.drew (by assumption)) (hb.mono (by first | omega | (simp; omega) | exact Nat.le_of_lt (one_lt (by assumption)))); obtain ⟨hcc, hff⟩ := bcell hb) | (go_at_call 96; refine (dateIn_any _ _ _ (by omega) (by omega) (hA.below' (by first | assumption | exact one_below (by assumption) | exact Below.drew (by assumption)))).mono ?_; rintro e w' ⟨rfl, hb⟩; have hbW : Below w.heap.size w w' := Below.trans (by first | assumption | exact one_below (by assumption) | exact Below.drew (by assumption)) (hb.mono (by first | omega | (simp; omega) | exact Nat.le_of_lt (one_lt (by assumption)))); obtain ⟨hcc, hff⟩ := bcell hb) | (go_at_call 82; refine (dayOf_any _ _ _ _ (by omega) (by omega) (by omega) (by omega) (by omega) (by omega) (hA.below' (by first | assumption | exact one_below (by assumption) | exact Below.drew (by assumption)))).mono ?_; rintro e w' ⟨rfl, hb⟩; have hbW : Below w.heap.size w w' := Below.trans (by first | assumption | exact one_below (by assumption) | exact Below.drew (by assumption)) (hb.mono (by first | omega | (simp; omega) | exact Nat.le_of_lt (one_lt (by assumption)))); obtain ⟨hcc, hff⟩ := bcell hb))
  have hbF : Below w.heap.size w w' := hbW
  go_wp2
  go_ret3
  exact ⟨rfl, hbF⟩
theorem since_yes1 (y m d y' m' d' : Int) (w : World) (hA : Ahead w) (hg : good y m d = true) (hg' : good y' m' d' = true) (y1 : -9999 ≤ y) (y2 : y ≤ 9999) (m1 : 1 ≤ m) (m2 : m ≤ 12) (d1 : 1 ≤ d) (d2 : d ≤ 31) (y1' : -9999 ≤ y') (y2' : y' ≤ 9999) (m1' : 1 ≤ m') (m2' : m' ≤ 12) (d1' : 1 ≤ d') (d2' : d' ≤ 31) (hle : dayOf y m d ≤ dayOf y' m' d') (hk : dayOf y' m' d' < dIn (y' * 12 + m' - 1) d) :
    Calls Tryz.prog 31 #[.agg #[.int .i64 y, .int .i64 m, .int .i64 d], .agg #[.int .i64 y', .int .i64 m', .int .i64 d']] w fun e w' => e = .returned (.tuple #[.int .i64 (y' * 12 + m' - 1 - 1 - (y * 12 + m - 1)), .int .i64 (dayOf y' m' d' - dIn (y' * 12 + m' - 1 - 1) d), .int .i64 0]) ∧ Below w.heap.size w w' := by
  have hA1 : Ahead ((w.alloc (.cells #[.int .i64 y, .int .i64 m, .int .i64 d] 23)).alloc (.cells #[.int .i64 y', .int .i64 m', .int .i64 d'] 23)) := hA.below' (((Below.refl _ _).alloc (Nat.le_refl _) _).alloc (by simp) _)
  go_enter Tryz.func31, Tryz.ntmps31
  go_wp2_with fail
  refine (isDate_any _ _ _ _ hA1).mono ?_
  rintro e w1 ⟨rfl, b1⟩
  obtain ⟨hc1, hf1⟩ := bcell b1
  have s1 : w.heap.size + 1 < w1.heap.size := by (have := b1.size; simp at this; omega)
  have s0 : w.heap.size < w1.heap.size := by omega
  have k1 : Below w.heap.size w w1 := (((Below.refl _ _).alloc (Nat.le_refl _) _).alloc (by simp) _).trans (b1.mono (by simp; omega))
  go_wp2_with fail
  refine (isDate_any _ _ _ _ (hA.below' k1)).mono ?_
  rintro e w2 ⟨rfl, b2⟩
  obtain ⟨hc2, hf2⟩ := bcell b2
  have s2 := b2.size
  have k2 : Below w.heap.size w w2 := k1.trans (b2.mono (by omega))
  have c0 : w2.cell? ⟨w.heap.size, 0, none⟩ = some (.int .i64 y) := by go_simp
  have c1 : w2.cell? ⟨w.heap.size, 1, none⟩ = some (.int .i64 m) := by go_simp
  have c2 : w2.cell? ⟨w.heap.size, 2, none⟩ = some (.int .i64 d) := by go_simp
  have e0 : w2.cell? ⟨w.heap.size + 1, 0, none⟩ = some (.int .i64 y') := by go_simp
  have e1 : w2.cell? ⟨w.heap.size + 1, 1, none⟩ = some (.int .i64 m') := by go_simp
  have e2 : w2.cell? ⟨w.heap.size + 1, 2, none⟩ = some (.int .i64 d') := by go_simp
  have t2 : w.heap.size + 1 < w2.heap.size := by omega
  have t1 : w.heap.size < w2.heap.size := by omega
  clear hc1 hf1 hc2 hf2 b1 b2 k1 s0 s1 s2 hA1
  go_wp2
  go_region_held3 (fun w' => w'.cell? ⟨w.heap.size, 0, none⟩ = some (.int .i64 y) ∧ w'.cell? ⟨w.heap.size, 1, none⟩ = some (.int .i64 m) ∧ w'.cell? ⟨w.heap.size, 2, none⟩ = some (.int .i64 d) ∧ w'.cell? ⟨w.heap.size + 1, 0, none⟩ = some (.int .i64 y') ∧ w'.cell? ⟨w.heap.size + 1, 1, none⟩ = some (.int .i64 m') ∧ w'.cell? ⟨w.heap.size + 1, 2, none⟩ = some (.int .i64 d') ∧ w.heap.size < w'.heap.size ∧ w.heap.size + 1 < w'.heap.size ∧ Below w.heap.size w w')
    ((refine ⟨?_, ?_, ?_, ?_, ?_, ?_, ?_, ?_, ?_⟩ <;> (first | go_keep | omega | assumption | exact Below.drew (by assumption) | (rw [hcc _ _ (by first | exact t1 | exact t2 | omega)]; first | exact c0 | exact c1 | exact c2 | exact e0 | exact e1 | exact e2 | go_keep) | (have := hb.size; omega) | exact Below.trans (by first | assumption | exact two_below (by assumption) | exact Below.drew (by assumption)) (Below.mono (by assumption) (by first | omega | (simp; omega))))))
    (first | (go_at_call 82; refine (dayOf_any _ _ _ _ (by omega) (by omega) (by omega) (by omega) (by omega) (by omega) (hA.below' (by first | assumption | exact two_below (by assumption) | exact Below.drew (by assumption)))).mono ?_; rintro e w' ⟨rfl, hb⟩; have hbW : Below w.heap.size w w' := Below.trans (by first | assumption | exact two_below (by assumption) | exact Below.drew (by assumption)) (hb.mono (by first | omega | (simp; omega) | exact Nat.le_of_lt (two_lt (by assumption)))); obtain ⟨hcc, hff⟩ := bcell hb))
  have hS : TwoIn w y m d y' m' d' w' := by assumption
  obtain ⟨c0, c1, c2, e0, e1, e2, t1, t2, k3⟩ := hS
  have hnlt : ¬ dayOf y' m' d' < dayOf y m d := by omega
  obtain ⟨q1, q2⟩ := (good_iff y m d).1 hg
  have hmo := mo_le hg hg' m1 m2 m1' m2' d1 hle
  have hyb := inY_bd (k := y' * 12 + m' - 1) (by omega) (by omega)
  have hmb := inM_bd (y' * 12 + m' - 1)
  have hdb := inD_bd (k := y' * 12 + m' - 1) d1 d2
  have hnk : dayOf y' m' d' < dayOf (inY (y' * 12 + m' - 1)) (inM (y' * 12 + m' - 1)) (inD (y' * 12 + m' - 1) d) := by (have : dIn (y' * 12 + m' - 1) d = dayOf (inY (y' * 12 + m' - 1)) (inM (y' * 12 + m' - 1)) (inD (y' * 12 + m' - 1) d) := rfl); omega
  have hless := mo_less hg hg' m1 m2 m1' m2' d1 hle hk
  have hyb2 := inY_bd (k := y' * 12 + m' - 1 - 1) (by omega) (by omega)
  have hmb2 := inM_bd (y' * 12 + m' - 1 - 1)
  have hdb2 := inD_bd (k := y' * 12 + m' - 1 - 1) d1 d2
  have HM := Lib.hid hmo
  clear hmo q1 q2
  go_wp2_with fail
  refine (monthOf_any _ _ _ _ (by omega) (by omega) m1' m2').mono ?_
  rintro e w4 ⟨rfl, b4⟩
  obtain ⟨hc4, hf4⟩ := bcell b4
  have s4 := b4.size
  have k4 : Below w.heap.size w w4 := k3.trans (b4.mono (by omega))
  go_wp2_with fail
  refine (dateIn_any _ _ _ (by omega) (by omega) (hA.below' k4)).mono ?_
  rintro e w5 ⟨rfl, b5⟩
  obtain ⟨hc5, hf5⟩ := bcell b5
  have s5 := b5.size
  have k5 : Below w.heap.size w w5 := k4.trans (b5.mono (by omega))
  go_wp2_with fail
  refine (dayOf_any _ _ _ _ hyb.1 hyb.2 hmb.1 hmb.2 hdb.1 hdb.2.1 (hA.below' k5)).mono ?_
  rintro e w6 ⟨rfl, b6⟩
  obtain ⟨hc6, hf6⟩ := bcell b6
  have s6 := b6.size
  have k6 : Below w.heap.size w w6 := k5.trans (b6.mono (by omega))
  have t4 : w.heap.size < w4.heap.size := by omega
  have t5 : w.heap.size < w5.heap.size := by omega
  have t6 : w.heap.size < w6.heap.size := by omega
  have r0 : w6.cell? ⟨w.heap.size, 0, none⟩ = some (.int .i64 y) := by rw [hc6 _ _ t5, hc5 _ _ t4, hc4 _ _ t1]; exact c0
  have r1 : w6.cell? ⟨w.heap.size, 1, none⟩ = some (.int .i64 m) := by rw [hc6 _ _ t5, hc5 _ _ t4, hc4 _ _ t1]; exact c1
  have r2 : w6.cell? ⟨w.heap.size, 2, none⟩ = some (.int .i64 d) := by rw [hc6 _ _ t5, hc5 _ _ t4, hc4 _ _ t1]; exact c2
  clear hc4 hf4 hc5 hf5 hc6 hf6 c0 c1 c2 e0 e1 e2 t1 t2 k3 k4 k5 t4 t5 s4 s5 s6 b4 b5 b6
  go_wp2
  have sw1 : IntKind.i64.wrap (y' * 12 + m' - 1 - 1 - (y * 12 + m - 1)) = y' * 12 + m' - 1 - 1 - (y * 12 + m - 1) := IntWalk.i64_in _ (by omega)
  have sw2 : IntKind.i64.wrap (dayOf y' m' d' - dayOf (inY (y' * 12 + m' - 1 - 1)) (inM (y' * 12 + m' - 1 - 1)) (inD (y' * 12 + m' - 1 - 1) d)) = dayOf y' m' d' - dayOf (inY (y' * 12 + m' - 1 - 1)) (inM (y' * 12 + m' - 1 - 1)) (inD (y' * 12 + m' - 1 - 1) d) := IntWalk.i64_in _ (by have := day_bd y1' y2' m1' m2' d1' d2'; have := day_bd hyb2.1 hyb2.2 hmb2.1 hmb2.2 hdb2.1 hdb2.2.1; omega)
  go_region_held3 (OneIn w y m d)
    ((refine ⟨?_, ?_, ?_, ?_, ?_⟩ <;> (first | go_keep | omega | assumption | exact Below.drew (by assumption) | (rw [hcc _ _ (by first | exact t6 | omega)]; first | exact r0 | exact r1 | exact r2 | go_keep) | (have := hb.size; omega) | exact Below.trans (by first | assumption | exact one_below (by assumption) | exact Below.drew (by assumption)) (Below.mono (by assumption) (by first | omega | (simp; omega))))))
    (first | (go_at_call 95; refine (monthOf_any _ _ _ _ (by omega) (by omega) m1 m2).mono ?_; rintro e w' ⟨rfl, hb⟩; have hbW : Below w.heap.size w w' := Below.trans (by first | assumption | exact one_below (by assumption) | exact Below.drew (by assumption)) (hb.mono (by first | omega | (simp; omega) | exact Nat.le_of_lt (one_lt (by assumption)))); obtain ⟨hcc, hff⟩ := bcell hb) | (go_at_call 96; refine (dateIn_any _ _ _ (by omega) (by omega) (hA.below' (by first | assumption | exact one_below (by assumption) | exact Below.drew (by assumption)))).mono ?_; rintro e w' ⟨rfl, hb⟩; have hbW : Below w.heap.size w w' := Below.trans (by first | assumption | exact one_below (by assumption) | exact Below.drew (by assumption)) (hb.mono (by first | omega | (simp; omega) | exact Nat.le_of_lt (one_lt (by assumption)))); obtain ⟨hcc, hff⟩ := bcell hb) | (go_at_call 82; refine (dayOf_any _ _ _ _ (by omega) (by omega) (by omega) (by omega) (by omega) (by omega) (hA.below' (by first | assumption | exact one_below (by assumption) | exact Below.drew (by assumption)))).mono ?_; rintro e w' ⟨rfl, hb⟩; have hbW : Below w.heap.size w w' := Below.trans (by first | assumption | exact one_below (by assumption) | exact Below.drew (by assumption)) (hb.mono (by first | omega | (simp; omega) | exact Nat.le_of_lt (one_lt (by assumption)))); obtain ⟨hcc, hff⟩ := bcell hb))
  have hbF : Below w.heap.size w w' := hbW
  go_wp2
  go_ret3
  exact ⟨rfl, hbF⟩
end Go.Proofs.YthdjebomeibngaaGreatDoor
