/- The seat: the specification's Since, where there are months. -/
import Derived.Test.YthdjebomeibngaaGreatDoorSeatSs
namespace Go.Proofs.YthdjebomeibngaaGreatDoor
open Go Go.RowKit Go.DayM
set_option maxRecDepth 100000
set_option maxHeartbeats 2000000
abbrev ThreeIn (w : World) (B : Nat) (y m d y' m' d' Y M D : Int) (w' : World) : Prop := w'.cell? ⟨w.heap.size, 0, none⟩ = some (.int .i64 y) ∧ w'.cell? ⟨w.heap.size, 1, none⟩ = some (.int .i64 m) ∧ w'.cell? ⟨w.heap.size, 2, none⟩ = some (.int .i64 d) ∧ w'.cell? ⟨w.heap.size + 1, 0, none⟩ = some (.int .i64 y') ∧ w'.cell? ⟨w.heap.size + 1, 1, none⟩ = some (.int .i64 m') ∧ w'.cell? ⟨w.heap.size + 1, 2, none⟩ = some (.int .i64 d') ∧ w'.cell? ⟨B, 0, none⟩ = some (.int .i64 Y) ∧ w'.cell? ⟨B, 1, none⟩ = some (.int .i64 M) ∧ w'.cell? ⟨B, 2, none⟩ = some (.int .i64 D) ∧ w.heap.size < w'.heap.size ∧ w.heap.size + 1 < w'.heap.size ∧ B < w'.heap.size ∧ Below w.heap.size w w'
theorem three_below {a b c d e f g h k p q r : Prop} {B : Nat} {w w' : World} (x : a ∧ b ∧ c ∧ d ∧ e ∧ f ∧ g ∧ h ∧ k ∧ p ∧ q ∧ r ∧ Below B w w') : Below B w w' := x.2.2.2.2.2.2.2.2.2.2.2.2
theorem three_lt {a b c d e f g h k q r s : Prop} {n m : Nat} (x : a ∧ b ∧ c ∧ d ∧ e ∧ f ∧ g ∧ h ∧ k ∧ n < m ∧ q ∧ r ∧ s) : n < m := x.2.2.2.2.2.2.2.2.2.1
theorem addOf_at (y m d n k : Int) (w : World) (y1 : -9999 ≤ y) (y2 : y ≤ 9999) (m1 : 1 ≤ m) (m2 : m ≤ 12) (e : y * 12 + m - 1 + n = k) (hk : inOK k = true) : Calls Tryz.prog 97 #[.agg #[.int .i64 y, .int .i64 m, .int .i64 d], .int .i64 n] w fun e w' => e = .returned (.tuple #[.agg #[.int .i64 (inY k), .int .i64 (inM k), .int .i64 (inD k d)], .bool true]) ∧ Below w.heap.size w w' := by
  subst e
  exact addOf_yes y m d n w y1 y2 m1 m2 hk
theorem ret3i {a b a' b' : Int} {z : Int} (h : a = a') (k : b = b') : Ending.returned (.tuple #[.int .i64 a, .int .i64 b, .int .i64 z]) = .returned (.tuple #[.int .i64 a', .int .i64 b', .int .i64 z]) := by rw [h, k]
theorem sinceR_yes0 (y m d y' m' d' : Int) (w : World) (hg : good y m d = true) (hg' : good y' m' d' = true) (y1 : -9999 ≤ y) (y2 : y ≤ 9999) (m1 : 1 ≤ m) (m2 : m ≤ 12) (d1 : 1 ≤ d) (d2 : d ≤ 31) (y1' : -9999 ≤ y') (y2' : y' ≤ 9999) (m1' : 1 ≤ m') (m2' : m' ≤ 12) (d1' : 1 ≤ d') (d2' : d' ≤ 31) (hle : dayOf y m d ≤ dayOf y' m' d') (hk : dIn (y' * 12 + m' - 1) d ≤ dayOf y' m' d') : Calls Tryz.prog 33 #[.agg #[.int .i64 y, .int .i64 m, .int .i64 d], .agg #[.int .i64 y', .int .i64 m', .int .i64 d']] w fun e w' => e = .returned (.tuple #[.int .i64 (y' * 12 + m' - 1 - (y * 12 + m - 1)), .int .i64 (dayOf y' m' d' - dIn (y' * 12 + m' - 1) d), .int .i64 0]) ∧ Below w.heap.size w w' := by
  go_enter Tryz.func33, Tryz.ntmps33
  go_wp2_with fail
  refine (goodR_any _ _ _ _).mono ?_
  rintro e w1 ⟨rfl, b1⟩
  obtain ⟨hc1, hf1⟩ := bcell b1
  have s1 : w.heap.size + 1 < w1.heap.size := by (have := b1.size; simp at this; omega)
  have s0 : w.heap.size < w1.heap.size := by omega
  have k1 : Below w.heap.size w w1 := (((Below.refl _ _).alloc (Nat.le_refl _) _).alloc (by simp) _).trans (b1.mono (by simp; omega))
  go_wp2_with fail
  refine (goodR_any _ _ _ _).mono ?_
  rintro e w2 ⟨rfl, b2⟩
  obtain ⟨hc2, hf2⟩ := bcell b2
  have s2 := b2.size
  have k2 : Below w.heap.size w w2 := k1.trans (b2.mono (by omega))
  have c0 : w2.cell? ⟨w.heap.size, 0, none⟩ = some (.int .i64 y) := by go_simp
  have c1 : w2.cell? ⟨w.heap.size, 1, none⟩ = some (.int .i64 m) := by go_simp
  have c2 : w2.cell? ⟨w.heap.size, 2, none⟩ = some (.int .i64 d) := by go_simp
  have e0 : w2.cell? ⟨w.heap.size + 1, 0, none⟩ = some (.int .i64 y') := by go_simp
  have e1 : w2.cell? ⟨w.heap.size + 1, 1, none⟩ = some (.int .i64 m') := by go_simp
  have e2 : w2.cell? ⟨w.heap.size + 1, 2, none⟩ = some (.int .i64 d') := by go_simp
  have t2 : w.heap.size + 1 < w2.heap.size := by omega
  have t1 : w.heap.size < w2.heap.size := by omega
  clear hc1 hf1 hc2 hf2 b1 b2 k1 s0 s1 s2
  go_wp2
  go_region_held3 (TwoIn w y m d y' m' d')
    ((refine ⟨?_, ?_, ?_, ?_, ?_, ?_, ?_, ?_, ?_⟩ <;> (first | go_keep | omega | assumption | exact Below.drew (by assumption) | (rw [hcc _ _ (by first | exact t1 | exact t2 | omega)]; first | exact c0 | exact c1 | exact c2 | exact e0 | exact e1 | exact e2 | go_keep) | (have := hb.size; omega) | exact Below.trans (by first | assumption | exact two_below (by assumption) | exact Below.drew (by assumption)) (Below.mono (by assumption) (by first | omega | (simp; omega))))))
    (first | (go_at_call 86; refine (dayOfR_any _ _ _ _ (by omega) (by omega) (by omega) (by omega) (by omega) (by omega)).mono ?_; rintro e w' ⟨rfl, hb⟩; have hbW : Below w.heap.size w w' := Below.trans (by first | assumption | exact two_below (by assumption) | exact Below.drew (by assumption)) (hb.mono (by first | omega | (simp; done) | (simp; omega) | exact Nat.le_of_lt (two_lt (by assumption)))); obtain ⟨hcc, hff⟩ := bcell hb))
  have hS : TwoIn w y m d y' m' d' w' := by assumption
  obtain ⟨c0, c1, c2, e0, e1, e2, t1, t2, k3⟩ := hS
  have hnlt : ¬ dayOf y' m' d' < dayOf y m d := by omega
  obtain ⟨q1, q2⟩ := (good_iff y m d).1 hg
  have hmo := mo_le hg hg' m1 m2 m1' m2' d1 hle
  have hyb := inY_bd (k := y' * 12 + m' - 1) (by omega) (by omega)
  have hmb := inM_bd (y' * 12 + m' - 1)
  have hdb := inD_bd (k := y' * 12 + m' - 1) d1 d2
  have hok : inOK (y' * 12 + m' - 1) = true := by unfold inOK; simp; omega
  have hnk : ¬ dayOf y' m' d' < dayOf (inY (y' * 12 + m' - 1)) (inM (y' * 12 + m' - 1)) (inD (y' * 12 + m' - 1) d) := by (have : dIn (y' * 12 + m' - 1) d = dayOf (inY (y' * 12 + m' - 1)) (inM (y' * 12 + m' - 1)) (inD (y' * 12 + m' - 1) d) := rfl); omega
  clear hmo q1 q2
  go_wp2_with fail
  refine (addOf_at _ _ _ _ (y' * 12 + m' - 1) _ y1 y2 m1 m2 (by omega) hok).mono ?_
  rintro e w4 ⟨rfl, b4⟩
  obtain ⟨hc4, hf4⟩ := bcell b4
  have s4 := b4.size
  have k4 : Below w.heap.size w w4 := k3.trans (b4.mono (by omega))
  have a0 : w4.cell? ⟨w.heap.size, 0, none⟩ = some (.int .i64 y) := by rw [hc4 _ _ t1]; exact c0
  have a1 : w4.cell? ⟨w.heap.size, 1, none⟩ = some (.int .i64 m) := by rw [hc4 _ _ t1]; exact c1
  have a2 : w4.cell? ⟨w.heap.size, 2, none⟩ = some (.int .i64 d) := by rw [hc4 _ _ t1]; exact c2
  have f0 : w4.cell? ⟨w.heap.size + 1, 0, none⟩ = some (.int .i64 y') := by rw [hc4 _ _ t2]; exact e0
  have f1 : w4.cell? ⟨w.heap.size + 1, 1, none⟩ = some (.int .i64 m') := by rw [hc4 _ _ t2]; exact e1
  have f2 : w4.cell? ⟨w.heap.size + 1, 2, none⟩ = some (.int .i64 d') := by rw [hc4 _ _ t2]; exact e2
  have u1 : w.heap.size < w4.heap.size := by omega
  have u2 : w.heap.size + 1 < w4.heap.size := by omega
  have v1 : w.heap.size < w4.heap.size := u1
  have hal : ∀ o, Below w.heap.size w (w4.alloc o) := fun o => k4.alloc (by omega) _
  clear hc4 hf4 b4 s4 k3 c0 c1 c2 e0 e1 e2 t1 t2
  go_wp2
  obtain ⟨w5, hw5⟩ : ∃ w5 : World, Hid (w4.alloc (.cells #[.int .i64 (inY (y' * 12 + m' - 1)), .int .i64 (inM (y' * 12 + m' - 1)), .int .i64 (inD (y' * 12 + m' - 1) d)] 23) = w5) := ⟨_, Lib.hid rfl⟩
  have A0 : w5.cell? ⟨w.heap.size, 0, none⟩ = some (.int .i64 y) := by rw [← hw5.out]; go_simp
  have A1 : w5.cell? ⟨w.heap.size, 1, none⟩ = some (.int .i64 m) := by rw [← hw5.out]; go_simp
  have A2 : w5.cell? ⟨w.heap.size, 2, none⟩ = some (.int .i64 d) := by rw [← hw5.out]; go_simp
  have F0 : w5.cell? ⟨w.heap.size + 1, 0, none⟩ = some (.int .i64 y') := by rw [← hw5.out]; go_simp
  have F1 : w5.cell? ⟨w.heap.size + 1, 1, none⟩ = some (.int .i64 m') := by rw [← hw5.out]; go_simp
  have F2 : w5.cell? ⟨w.heap.size + 1, 2, none⟩ = some (.int .i64 d') := by rw [← hw5.out]; go_simp
  have G0 : w5.cell? ⟨w4.heap.size, 0, none⟩ = some (.int .i64 (inY (y' * 12 + m' - 1))) := by rw [← hw5.out]; go_simp
  have G1 : w5.cell? ⟨w4.heap.size, 1, none⟩ = some (.int .i64 (inM (y' * 12 + m' - 1))) := by rw [← hw5.out]; go_simp
  have G2 : w5.cell? ⟨w4.heap.size, 2, none⟩ = some (.int .i64 (inD (y' * 12 + m' - 1) d)) := by rw [← hw5.out]; go_simp
  have Z0 : w5.frozen? ⟨w4.heap.size, 0, none⟩ = false ∧ w5.frozen? ⟨w4.heap.size, 1, none⟩ = false ∧ w5.frozen? ⟨w4.heap.size, 2, none⟩ = false := by rw [← hw5.out]; exact ⟨by go_simp, by go_simp, by go_simp⟩
  have S5 : w5.heap.size = w4.heap.size + 1 := by rw [← hw5.out]; simp
  have k5 : Below w.heap.size w w5 := by rw [← hw5.out]; exact hal _
  rw [hw5.out]
  clear hw5 hal a0 a1 a2 f0 f1 f2
  have U1 : w.heap.size < w5.heap.size := by omega
  have U2 : w.heap.size + 1 < w5.heap.size := by omega
  have U3 : w4.heap.size < w5.heap.size := by omega
  clear S5 k4
  generalize w4.heap.size = B at *
  go_region_held3 (ThreeIn w B y m d y' m' d' (inY (y' * 12 + m' - 1)) (inM (y' * 12 + m' - 1)) (inD (y' * 12 + m' - 1) d))
    ((refine ⟨?_, ?_, ?_, ?_, ?_, ?_, ?_, ?_, ?_, ?_, ?_, ?_, ?_⟩ <;> (first | go_keep | omega | assumption | exact Below.drew (by assumption) | (rw [hcc _ _ (by first | exact U1 | exact U2 | exact U3 | omega)]; first | exact A0 | exact A1 | exact A2 | exact F0 | exact F1 | exact F2 | exact G0 | exact G1 | exact G2 | go_keep) | (have := hb.size; omega) | exact Below.trans (by first | assumption | exact three_below (by assumption) | exact Below.drew (by assumption)) (Below.mono (by assumption) (by first | omega | (simp; omega))))))
    (first | (go_at_call 86; refine (dayOfR_any _ _ _ _ (by omega) (by omega) (by omega) (by omega) (by omega) (by omega)).mono ?_; rintro e w' ⟨rfl, hb⟩; have hbW : Below w.heap.size w w' := Below.trans (by first | assumption | exact three_below (by assumption) | exact Below.drew (by assumption)) (hb.mono (by first | omega | (simp; done) | (simp; omega) | exact Nat.le_of_lt (three_lt (by assumption)))); obtain ⟨hcc, hff⟩ := bcell hb))
  have hT : ThreeIn w B y m d y' m' d' (inY (y' * 12 + m' - 1)) (inM (y' * 12 + m' - 1)) (inD (y' * 12 + m' - 1) d) w' := by assumption
  clear A0 A1 A2 F0 F1 F2 G0 G1 G2 U1 U2 U3 Z0 k5
  obtain ⟨A0, A1, A2, F0, F1, F2, G0, G1, G2, U1, U2, U3, k5⟩ := hT
  go_wp2
  have sw2 : IntKind.i64.wrap (dayOf y' m' d' - dayOf (inY (y' * 12 + m' - 1)) (inM (y' * 12 + m' - 1)) (inD (y' * 12 + m' - 1) d)) = dayOf y' m' d' - dayOf (inY (y' * 12 + m' - 1)) (inM (y' * 12 + m' - 1)) (inD (y' * 12 + m' - 1) d) := IntWalk.i64_in _ (by have := day_bd y1' y2' m1' m2' d1' d2'; have := day_bd hyb.1 hyb.2 hmb.1 hmb.2 hdb.1 hdb.2.1; omega)
  go_region_held3 (ThreeIn w B y m d y' m' d' (inY (y' * 12 + m' - 1)) (inM (y' * 12 + m' - 1)) (inD (y' * 12 + m' - 1) d))
    ((refine ⟨?_, ?_, ?_, ?_, ?_, ?_, ?_, ?_, ?_, ?_, ?_, ?_, ?_⟩ <;> (first | go_keep | omega | assumption | exact Below.drew (by assumption) | (rw [hcc _ _ (by first | exact U1 | exact U2 | exact U3 | omega)]; first | exact A0 | exact A1 | exact A2 | exact F0 | exact F1 | exact F2 | exact G0 | exact G1 | exact G2 | go_keep) | (have := hb.size; omega) | exact Below.trans (by first | assumption | exact three_below (by assumption) | exact Below.drew (by assumption)) (Below.mono (by assumption) (by first | omega | (simp; omega))))))
    (first | (go_at_call 86; refine (dayOfR_any _ _ _ _ (by omega) (by omega) (by omega) (by omega) (by omega) (by omega)).mono ?_; rintro e w' ⟨rfl, hb⟩; have hbW : Below w.heap.size w w' := Below.trans (by first | assumption | exact three_below (by assumption) | exact Below.drew (by assumption)) (hb.mono (by first | omega | (simp; done) | (simp; omega) | exact Nat.le_of_lt (three_lt (by assumption)))); obtain ⟨hcc, hff⟩ := bcell hb))
  have hbF : Below w.heap.size w w' := hbW
  go_wp2
  go_ret3
  exact ⟨ret3i (by omega) rfl, hbF⟩
end Go.Proofs.YthdjebomeibngaaGreatDoor
