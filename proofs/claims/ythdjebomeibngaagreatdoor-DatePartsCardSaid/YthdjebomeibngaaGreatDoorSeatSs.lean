/- The seat: the specification's Since. -/
import Derived.Test.YthdjebomeibngaaGreatDoorSeatS
import Derived.Test.YthdjebomeibngaaGreatDoorSeatQs
namespace Go.Proofs.YthdjebomeibngaaGreatDoor
open Go Go.RowKit Go.DayM
set_option maxRecDepth 100000
set_option maxHeartbeats 2000000
theorem sinceR_bad (y m d y' m' d' : Int) (w : World) (hg : good y m d = false ∨ good y' m' d' = false) : Calls Tryz.prog 33 #[.agg #[.int .i64 y, .int .i64 m, .int .i64 d], .agg #[.int .i64 y', .int .i64 m', .int .i64 d']] w fun e w' => e = .returned (.tuple #[.int .i64 0, .int .i64 0, .int .i64 2]) ∧ Below w.heap.size w w' := by
  cases h1 : good y m d with
  | false =>
    clear hg
    go_enter Tryz.func33, Tryz.ntmps33
    go_wp2_with fail
    refine (goodR_any _ _ _ _).mono ?_
    rintro e w1 ⟨rfl, b1⟩
    have k1 : Below w.heap.size w w1 := (((Below.refl _ _).alloc (Nat.le_refl _) _).alloc (by simp) _).trans (b1.mono (by simp; omega))
    go_wp2
    go_ret3
    exact ⟨rfl, k1⟩
  | true =>
    have h2 : good y' m' d' = false := by
      rcases hg with h | h
      · exact absurd (h1.symm.trans h) (by simp)
      · exact h
    clear hg
    go_enter Tryz.func33, Tryz.ntmps33
    go_wp2_with fail
    refine (goodR_any _ _ _ _).mono ?_
    rintro e w1 ⟨rfl, b1⟩
    obtain ⟨hc1, hf1⟩ := bcell b1
    have s1 : w.heap.size + 1 < w1.heap.size := by (have := b1.size; simp at this; omega)
    have k1 : Below w.heap.size w w1 := (((Below.refl _ _).alloc (Nat.le_refl _) _).alloc (by simp) _).trans (b1.mono (by simp; omega))
    go_wp2_with fail
    refine (goodR_any _ _ _ _).mono ?_
    rintro e w2 ⟨rfl, b2⟩
    have k2 : Below w.heap.size w w2 := k1.trans (b2.mono (by omega))
    go_wp2
    go_ret3
    exact ⟨rfl, k2⟩
theorem two_below' {a b c d e f g k : Prop} {B : Nat} {w w' : World} (h : a ∧ b ∧ c ∧ d ∧ e ∧ f ∧ g ∧ k ∧ Below B w w') : Below B w w' := h.2.2.2.2.2.2.2.2
theorem sinceR_rule (y m d y' m' d' : Int) (w : World) (hg : good y m d = true) (hg' : good y' m' d' = true) (y1 : -9999 ≤ y) (y2 : y ≤ 9999) (m1 : 1 ≤ m) (m2 : m ≤ 12) (d1 : 1 ≤ d) (d2 : d ≤ 31) (y1' : -9999 ≤ y') (y2' : y' ≤ 9999) (m1' : 1 ≤ m') (m2' : m' ≤ 12) (d1' : 1 ≤ d') (d2' : d' ≤ 31) (hlt : dayOf y' m' d' < dayOf y m d) : Calls Tryz.prog 33 #[.agg #[.int .i64 y, .int .i64 m, .int .i64 d], .agg #[.int .i64 y', .int .i64 m', .int .i64 d']] w fun e w' => e = .returned (.tuple #[.int .i64 0, .int .i64 0, .int .i64 7]) ∧ Below w.heap.size w w' := by
  go_enter Tryz.func33, Tryz.ntmps33
  go_wp2_with fail
  refine (goodR_any _ _ _ _).mono ?_
  rintro e w1 ⟨rfl, b1⟩
  obtain ⟨hc1, hf1⟩ := bcell b1
  have s1 : w.heap.size + 1 < w1.heap.size := by (have := b1.size; simp at this; omega)
  have s0 : w.heap.size < w1.heap.size := by omega
  have k1 : Below w.heap.size w w1 := (((Below.refl _ _).alloc (Nat.le_refl _) _).alloc (by simp) _).trans (b1.mono (by simp; omega))
  go_wp2_with fail
  refine (goodR_any _ _ _ _).mono ?_
  rintro e w2 ⟨rfl, b2⟩
  obtain ⟨hc2, hf2⟩ := bcell b2
  have s2 := b2.size
  have k2 : Below w.heap.size w w2 := k1.trans (b2.mono (by omega))
  have c0 : w2.cell? ⟨w.heap.size, 0, none⟩ = some (.int .i64 y) := by go_simp
  have c1 : w2.cell? ⟨w.heap.size, 1, none⟩ = some (.int .i64 m) := by go_simp
  have c2 : w2.cell? ⟨w.heap.size, 2, none⟩ = some (.int .i64 d) := by go_simp
  have e0 : w2.cell? ⟨w.heap.size + 1, 0, none⟩ = some (.int .i64 y') := by go_simp
  have e1 : w2.cell? ⟨w.heap.size + 1, 1, none⟩ = some (.int .i64 m') := by go_simp
  have e2 : w2.cell? ⟨w.heap.size + 1, 2, none⟩ = some (.int .i64 d') := by go_simp
  have t2 : w.heap.size + 1 < w2.heap.size := by omega
  have t1 : w.heap.size < w2.heap.size := by omega
  clear hc1 hf1 hc2 hf2 b1 b2 k1 s0 s1 s2
  go_wp2
  go_region_held3 (TwoIn w y m d y' m' d')
    ((refine ⟨?_, ?_, ?_, ?_, ?_, ?_, ?_, ?_, ?_⟩ <;> (first | go_keep | omega | assumption | exact Below.drew (by assumption) | (rw [hcc _ _ (by first | exact t1 | exact t2 | omega)]; first | exact c0 | exact c1 | exact c2 | exact e0 | exact e1 | exact e2 | go_keep) | (have := hb.size; omega) | exact Below.trans (by first | assumption | exact two_below (by assumption) | exact Below.drew (by assumption)) (Below.mono (by assumption) (by first | omega | (simp; omega))))))
    (first | (go_at_call 86; refine (dayOfR_any _ _ _ _ (by omega) (by omega) (by omega) (by omega) (by omega) (by omega)).mono ?_; rintro e w' ⟨rfl, hb⟩; have hbW : Below w.heap.size w w' := Below.trans (by first | assumption | exact two_below (by assumption) | exact Below.drew (by assumption)) (hb.mono (by first | omega | (simp; done) | (simp; omega) | exact Nat.le_of_lt (two_lt (by assumption)))); obtain ⟨hcc, hff⟩ := bcell hb))
  all_goals
    go_wp2
    go_ret3
    exact ⟨rfl, by assumption⟩
end Go.Proofs.YthdjebomeibngaaGreatDoor
