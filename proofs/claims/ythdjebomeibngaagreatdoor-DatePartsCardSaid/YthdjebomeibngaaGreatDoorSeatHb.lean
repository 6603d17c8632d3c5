/- The seat: DateParts, way by way. -/
import Derived.Test.YthdjebomeibngaaGreatDoorSeatHa
namespace Go.Proofs.YthdjebomeibngaaGreatDoor
open Go Go.RowKit Go.DayM Go.Ev
set_option maxRecDepth 100000
set_option maxHeartbeats 4000000
theorem put3 {w : World} {B : Nat} {x y z K L M : Value} (h0 : w.cell? ⟨B, 0, none⟩ = some x) (h1 : w.cell? ⟨B, 1, none⟩ = some y) (h2 : w.cell? ⟨B, 2, none⟩ = some z) :
    (((w.setCell ⟨B, 0, none⟩ K).setCell ⟨B, 1, none⟩ L).setCell ⟨B, 2, none⟩ M).cell? ⟨B, 0, none⟩ = some K ∧
    (((w.setCell ⟨B, 0, none⟩ K).setCell ⟨B, 1, none⟩ L).setCell ⟨B, 2, none⟩ M).cell? ⟨B, 1, none⟩ = some L ∧
    (((w.setCell ⟨B, 0, none⟩ K).setCell ⟨B, 1, none⟩ L).setCell ⟨B, 2, none⟩ M).cell? ⟨B, 2, none⟩ = some M ∧
    (∀ b o, b ≠ B → (((w.setCell ⟨B, 0, none⟩ K).setCell ⟨B, 1, none⟩ L).setCell ⟨B, 2, none⟩ M).cell? ⟨b, o, none⟩ = w.cell? ⟨b, o, none⟩) := by
  have e0 := World.cell?_setCell_same w ⟨B, 0, none⟩ K h0
  have e1 : (w.setCell ⟨B, 0, none⟩ K).cell? ⟨B, 1, none⟩ = some y := (World.cell?_setCell_other w _ _ K (by simp)).trans h1
  have e2 : (w.setCell ⟨B, 0, none⟩ K).cell? ⟨B, 2, none⟩ = some z := (World.cell?_setCell_other w _ _ K (by simp)).trans h2
  have f1 := World.cell?_setCell_same (w.setCell ⟨B, 0, none⟩ K) ⟨B, 1, none⟩ L e1
  have f0 := (World.cell?_setCell_other (w.setCell ⟨B, 0, none⟩ K) ⟨B, 1, none⟩ ⟨B, 0, none⟩ L (by simp)).trans e0
  have f2 := (World.cell?_setCell_other (w.setCell ⟨B, 0, none⟩ K) ⟨B, 1, none⟩ ⟨B, 2, none⟩ L (by simp)).trans e2
  refine ⟨(World.cell?_setCell_other _ _ _ M (by simp)).trans f0, (World.cell?_setCell_other _ _ _ M (by simp)).trans f1, World.cell?_setCell_same _ ⟨B, 2, none⟩ M f2, fun b o hb => ?_⟩
  rw [World.cell?_setCell_other _ _ _ M (by first | (simp; done) | (simp; omega)), World.cell?_setCell_other _ _ _ L (by first | (simp; done) | (simp; omega)), World.cell?_setCell_other _ _ _ K (by first | (simp; done) | (simp; omega))]
theorem good_yes {y m d : Int} (h : good y m d = true) (w : World) : Calls Tryz.prog 65 #[.agg #[.int .i64 y, .int .i64 m, .int .i64 d]] w fun e w' => e = .returned (.bool true) ∧ Below w.heap.size w w' := h ▸ goodR_any y m d w
theorem parts_00 (y m d y' m' d' a n : Int) (w : World) (hA : Ahead w) (hT : Hid (TabsIn tabs w)) (h8 : 4 ≤ w.heap.size) (a1 : -32768 ≤ a) (a2 : a ≤ 32767) (_n1 : -32768 ≤ n) (_n2 : n ≤ 32767) (g1 : good y m d = true) (g2 : good y' m' d' = true) (hP : AddIs y m d a 0 0 0 3) (N D : Int) (hU : SinceIs y m d y' m' d' 0 0 7) (hV : SinceIs y' m' d' y m d N D 0) :
    Calls Tryz.prog 12 #[.agg #[.int .i64 y, .int .i64 m, .int .i64 d], .agg #[.int .i64 y', .int .i64 m', .int .i64 d'], .int .i16 a, .int .i16 n] w fun e w' => e = .returned (.bool true) ∧ Below w.heap.size w w' := by
  go_enter Tryz.func12, Tryz.ntmps12
  have k0 : Below w.heap.size w ((w.alloc (.cells #[.int .i64 y, .int .i64 m, .int .i64 d] 23)).alloc (.cells #[.int .i64 y', .int .i64 m', .int .i64 d'] 23)) := ((Below.refl _ _).alloc (Nat.le_refl _) _).alloc (by simp) _
  go_wp2_with fail
  refine (good_yes g1 _).mono ?_
  rintro e w1 ⟨rfl, b1⟩
  obtain ⟨hc1, hf1⟩ := bcell b1
  have z1 : w.heap.size + 1 < w1.heap.size := by (have := b1.size; simp at this; omega)
  have g1 : w.heap.size < w1.heap.size := by omega
  have k1 : Below w.heap.size w w1 := k0.trans (b1.mono (by first | exact Nat.le_refl _ | omega | (simp; done) | (simp; omega)))
  go_wp2_with fail
  refine (good_yes g2 _).mono ?_
  rintro e w2 ⟨rfl, b2⟩
  obtain ⟨hc2, hf2⟩ := bcell b2
  have z2 : w.heap.size + 1 < w2.heap.size := by (have := b2.size; first | omega | (simp at this; omega))
  have g2 : w.heap.size < w2.heap.size := by omega
  have k2 : Below w.heap.size w w2 := k1.trans (b2.mono (by first | exact Nat.le_refl _ | omega | (simp; done) | (simp; omega)))
  go_wp2_with fail
  refine (hP _ (hA.below' k2)).mono ?_
  rintro e w3 ⟨rfl, b3⟩
  obtain ⟨hc3, hf3⟩ := bcell b3
  have z3 : w.heap.size + 1 < w3.heap.size := by (have := b3.size; first | omega | (simp at this; omega))
  have g3 : w.heap.size < w3.heap.size := by omega
  have k3 : Below w.heap.size w w3 := k2.trans (b3.mono (by first | exact Nat.le_refl _ | omega | (simp; done) | (simp; omega)))
  go_wp2_with fail
  refine (hU _ (hA.below' (k3.alloc (by omega) _))).mono ?_
  rintro e w4 ⟨rfl, b4⟩
  obtain ⟨hc4, hf4⟩ := bcell b4
  have z4 : w.heap.size + 1 < w4.heap.size := by (have := b4.size; first | omega | (simp at this; omega))
  have g4 : w.heap.size < w4.heap.size := by omega
  have k4 : Below w.heap.size w w4 := (k3.alloc (by omega) _).trans (b4.mono (by first | exact Nat.le_refl _ | omega | (simp; done) | (simp; omega)))
  have s3_4 : w3.heap.size < w4.heap.size := by (have := b4.size; first | omega | (simp at this; omega))
  go_wp2_with fail
  refine (hV _ (hA.below' k4)).mono ?_
  rintro e w5 ⟨rfl, b5⟩
  obtain ⟨hc5, hf5⟩ := bcell b5
  have z5 : w.heap.size + 1 < w5.heap.size := by (have := b5.size; first | omega | (simp at this; omega))
  have g5 : w.heap.size < w5.heap.size := by omega
  have k5 : Below w.heap.size w w5 := k4.trans (b5.mono (by first | exact Nat.le_refl _ | omega | (simp; done) | (simp; omega)))
  have s3_5 : w3.heap.size < w5.heap.size := by (have := b5.size; first | omega | (simp at this; omega))
  go_wp2_with fail
  refine (known_any _ (hT.out.below k5 (fun t ht => by have := tabs_four t ht; omega))).mono ?_
  rintro e w6 ⟨rfl, b6⟩
  obtain ⟨hc6, hf6⟩ := bcell b6
  have z6 : w.heap.size + 1 < w6.heap.size := by (have := b6.size; first | omega | (simp at this; omega))
  have g6 : w.heap.size < w6.heap.size := by omega
  have k6 : Below w.heap.size w w6 := k5.trans (b6.mono (by first | exact Nat.le_refl _ | omega | (simp; done) | (simp; omega)))
  have s3_6 : w3.heap.size < w6.heap.size := by (have := b6.size; first | omega | (simp at this; omega))
  go_wp2_with fail
  go_ret
  exact ⟨rfl, k6⟩
theorem parts_10 (y m d y' m' d' a n : Int) (w : World) (hA : Ahead w) (hT : Hid (TabsIn tabs w)) (h8 : 4 ≤ w.heap.size) (a1 : -32768 ≤ a) (a2 : a ≤ 32767) (_n1 : -32768 ≤ n) (_n2 : n ≤ 32767) (g1 : good y m d = true) (g2 : good y' m' d' = true) (X Y Z : Int) (hP : AddIs y m d a X Y Z 0) (h28 : 28 < d) (N D : Int) (hU : SinceIs y m d y' m' d' 0 0 7) (hV : SinceIs y' m' d' y m d N D 0) :
    Calls Tryz.prog 12 #[.agg #[.int .i64 y, .int .i64 m, .int .i64 d], .agg #[.int .i64 y', .int .i64 m', .int .i64 d'], .int .i16 a, .int .i16 n] w fun e w' => e = .returned (.bool true) ∧ Below w.heap.size w w' := by
  go_enter Tryz.func12, Tryz.ntmps12
  have k0 : Below w.heap.size w ((w.alloc (.cells #[.int .i64 y, .int .i64 m, .int .i64 d] 23)).alloc (.cells #[.int .i64 y', .int .i64 m', .int .i64 d'] 23)) := ((Below.refl _ _).alloc (Nat.le_refl _) _).alloc (by simp) _
  go_wp2_with fail
  refine (good_yes g1 _).mono ?_
  rintro e w1 ⟨rfl, b1⟩
  obtain ⟨hc1, hf1⟩ := bcell b1
  have z1 : w.heap.size + 1 < w1.heap.size := by (have := b1.size; simp at this; omega)
  have g1 : w.heap.size < w1.heap.size := by omega
  have k1 : Below w.heap.size w w1 := k0.trans (b1.mono (by first | exact Nat.le_refl _ | omega | (simp; done) | (simp; omega)))
  go_wp2_with fail
  refine (good_yes g2 _).mono ?_
  rintro e w2 ⟨rfl, b2⟩
  obtain ⟨hc2, hf2⟩ := bcell b2
  have z2 : w.heap.size + 1 < w2.heap.size := by (have := b2.size; first | omega | (simp at this; omega))
  have g2 : w.heap.size < w2.heap.size := by omega
  have k2 : Below w.heap.size w w2 := k1.trans (b2.mono (by first | exact Nat.le_refl _ | omega | (simp; done) | (simp; omega)))
  go_wp2_with fail
  refine (hP _ (hA.below' k2)).mono ?_
  rintro e w3 ⟨rfl, b3⟩
  obtain ⟨hc3, hf3⟩ := bcell b3
  have z3 : w.heap.size + 1 < w3.heap.size := by (have := b3.size; first | omega | (simp at this; omega))
  have g3 : w.heap.size < w3.heap.size := by omega
  have k3 : Below w.heap.size w w3 := k2.trans (b3.mono (by first | exact Nat.le_refl _ | omega | (simp; done) | (simp; omega)))
  go_wp2_with fail
  refine (hU _ (hA.below' (k3.alloc (by omega) _))).mono ?_
  rintro e w4 ⟨rfl, b4⟩
  obtain ⟨hc4, hf4⟩ := bcell b4
  have z4 : w.heap.size + 1 < w4.heap.size := by (have := b4.size; first | omega | (simp at this; omega))
  have g4 : w.heap.size < w4.heap.size := by omega
  have k4 : Below w.heap.size w w4 := (k3.alloc (by omega) _).trans (b4.mono (by first | exact Nat.le_refl _ | omega | (simp; done) | (simp; omega)))
  have s3_4 : w3.heap.size < w4.heap.size := by (have := b4.size; first | omega | (simp at this; omega))
  go_wp2_with fail
  refine (hV _ (hA.below' k4)).mono ?_
  rintro e w5 ⟨rfl, b5⟩
  obtain ⟨hc5, hf5⟩ := bcell b5
  have z5 : w.heap.size + 1 < w5.heap.size := by (have := b5.size; first | omega | (simp at this; omega))
  have g5 : w.heap.size < w5.heap.size := by omega
  have k5 : Below w.heap.size w w5 := k4.trans (b5.mono (by first | exact Nat.le_refl _ | omega | (simp; done) | (simp; omega)))
  have s3_5 : w3.heap.size < w5.heap.size := by (have := b5.size; first | omega | (simp at this; omega))
  go_wp2_with fail
  refine (known_any _ (hT.out.below k5 (fun t ht => by have := tabs_four t ht; omega))).mono ?_
  rintro e w6 ⟨rfl, b6⟩
  obtain ⟨hc6, hf6⟩ := bcell b6
  have z6 : w.heap.size + 1 < w6.heap.size := by (have := b6.size; first | omega | (simp at this; omega))
  have g6 : w.heap.size < w6.heap.size := by omega
  have k6 : Below w.heap.size w w6 := k5.trans (b6.mono (by first | exact Nat.le_refl _ | omega | (simp; done) | (simp; omega)))
  have s3_6 : w3.heap.size < w6.heap.size := by (have := b6.size; first | omega | (simp at this; omega))
  go_wp2_with fail
  go_ret
  exact ⟨rfl, k6⟩
theorem parts_20 (y m d y' m' d' a n : Int) (w : World) (hA : Ahead w) (hT : Hid (TabsIn tabs w)) (h8 : 4 ≤ w.heap.size) (a1 : -32768 ≤ a) (a2 : a ≤ 32767) (n1 : -32768 ≤ n) (n2 : n ≤ 32767) (g1 : good y m d = true) (g2 : good y' m' d' = true) (X Y Z : Int) (hP : AddIs y m d a X Y Z 0) (h28 : d ≤ 28) (F G H E : Int) (hQ : AddIs X Y Z n F G H E) (hR : AddIs y m d (a + n) F G H E) (h0 : a < 0) (N D : Int) (hU : SinceIs y m d y' m' d' 0 0 7) (hV : SinceIs y' m' d' y m d N D 0) :
    Calls Tryz.prog 12 #[.agg #[.int .i64 y, .int .i64 m, .int .i64 d], .agg #[.int .i64 y', .int .i64 m', .int .i64 d'], .int .i16 a, .int .i16 n] w fun e w' => e = .returned (.bool true) ∧ Below w.heap.size w w' := by
  go_enter Tryz.func12, Tryz.ntmps12
  have k0 : Below w.heap.size w ((w.alloc (.cells #[.int .i64 y, .int .i64 m, .int .i64 d] 23)).alloc (.cells #[.int .i64 y', .int .i64 m', .int .i64 d'] 23)) := ((Below.refl _ _).alloc (Nat.le_refl _) _).alloc (by simp) _
  go_wp2_with fail
  refine (good_yes g1 _).mono ?_
  rintro e w1 ⟨rfl, b1⟩
  obtain ⟨hc1, hf1⟩ := bcell b1
  have z1 : w.heap.size + 1 < w1.heap.size := by (have := b1.size; simp at this; omega)
  have g1 : w.heap.size < w1.heap.size := by omega
  have k1 : Below w.heap.size w w1 := k0.trans (b1.mono (by first | exact Nat.le_refl _ | omega | (simp; done) | (simp; omega)))
  go_wp2_with fail
  refine (good_yes g2 _).mono ?_
  rintro e w2 ⟨rfl, b2⟩
  obtain ⟨hc2, hf2⟩ := bcell b2
  have z2 : w.heap.size + 1 < w2.heap.size := by (have := b2.size; first | omega | (simp at this; omega))
  have g2 : w.heap.size < w2.heap.size := by omega
  have k2 : Below w.heap.size w w2 := k1.trans (b2.mono (by first | exact Nat.le_refl _ | omega | (simp; done) | (simp; omega)))
  go_wp2_with fail
  refine (hP _ (hA.below' k2)).mono ?_
  rintro e w3 ⟨rfl, b3⟩
  obtain ⟨hc3, hf3⟩ := bcell b3
  have z3 : w.heap.size + 1 < w3.heap.size := by (have := b3.size; first | omega | (simp at this; omega))
  have g3 : w.heap.size < w3.heap.size := by omega
  have k3 : Below w.heap.size w w3 := k2.trans (b3.mono (by first | exact Nat.le_refl _ | omega | (simp; done) | (simp; omega)))
  go_wp2_with fail
  refine (hQ _ (hA.below' (k3.alloc (by omega) _))).mono ?_
  rintro e w4 ⟨rfl, b4⟩
  obtain ⟨hc4, hf4⟩ := bcell b4
  have z4 : w.heap.size + 1 < w4.heap.size := by (have := b4.size; first | omega | (simp at this; omega))
  have g4 : w.heap.size < w4.heap.size := by omega
  have k4 : Below w.heap.size w w4 := (k3.alloc (by omega) _).trans (b4.mono (by first | exact Nat.le_refl _ | omega | (simp; done) | (simp; omega)))
  have s3_4 : w3.heap.size < w4.heap.size := by (have := b4.size; first | omega | (simp at this; omega))
  go_wp2_with fail
  refine (hR _ (hA.below' (k4.alloc (by omega) _))).mono ?_
  rintro e w5 ⟨rfl, b5⟩
  obtain ⟨hc5, hf5⟩ := bcell b5
  have z5 : w.heap.size + 1 < w5.heap.size := by (have := b5.size; first | omega | (simp at this; omega))
  have g5 : w.heap.size < w5.heap.size := by omega
  have k5 : Below w.heap.size w w5 := (k4.alloc (by omega) _).trans (b5.mono (by first | exact Nat.le_refl _ | omega | (simp; done) | (simp; omega)))
  have s3_5 : w3.heap.size < w5.heap.size := by (have := b5.size; first | omega | (simp at this; omega))
  have s4_5 : w4.heap.size < w5.heap.size := by (have := b5.size; first | omega | (simp at this; omega))
  go_wp2_with fail
  refine (hU _ (hA.below' (k5.alloc (by omega) _))).mono ?_
  rintro e w6 ⟨rfl, b6⟩
  obtain ⟨hc6, hf6⟩ := bcell b6
  have z6 : w.heap.size + 1 < w6.heap.size := by (have := b6.size; first | omega | (simp at this; omega))
  have g6 : w.heap.size < w6.heap.size := by omega
  have k6 : Below w.heap.size w w6 := (k5.alloc (by omega) _).trans (b6.mono (by first | exact Nat.le_refl _ | omega | (simp; done) | (simp; omega)))
  have s3_6 : w3.heap.size < w6.heap.size := by (have := b6.size; first | omega | (simp at this; omega))
  have s4_6 : w4.heap.size < w6.heap.size := by (have := b6.size; first | omega | (simp at this; omega))
  have s5_6 : w5.heap.size < w6.heap.size := by (have := b6.size; first | omega | (simp at this; omega))
  go_wp2_with fail
  refine (hV _ (hA.below' k6)).mono ?_
  rintro e w7 ⟨rfl, b7⟩
  obtain ⟨hc7, hf7⟩ := bcell b7
  have z7 : w.heap.size + 1 < w7.heap.size := by (have := b7.size; first | omega | (simp at this; omega))
  have g7 : w.heap.size < w7.heap.size := by omega
  have k7 : Below w.heap.size w w7 := k6.trans (b7.mono (by first | exact Nat.le_refl _ | omega | (simp; done) | (simp; omega)))
  have s3_7 : w3.heap.size < w7.heap.size := by (have := b7.size; first | omega | (simp at this; omega))
  have s4_7 : w4.heap.size < w7.heap.size := by (have := b7.size; first | omega | (simp at this; omega))
  have s5_7 : w5.heap.size < w7.heap.size := by (have := b7.size; first | omega | (simp at this; omega))
  go_wp2_with fail
  refine (known_any _ (hT.out.below k7 (fun t ht => by have := tabs_four t ht; omega))).mono ?_
  rintro e w8 ⟨rfl, b8⟩
  obtain ⟨hc8, hf8⟩ := bcell b8
  have z8 : w.heap.size + 1 < w8.heap.size := by (have := b8.size; first | omega | (simp at this; omega))
  have g8 : w.heap.size < w8.heap.size := by omega
  have k8 : Below w.heap.size w w8 := k7.trans (b8.mono (by first | exact Nat.le_refl _ | omega | (simp; done) | (simp; omega)))
  have s3_8 : w3.heap.size < w8.heap.size := by (have := b8.size; first | omega | (simp at this; omega))
  have s4_8 : w4.heap.size < w8.heap.size := by (have := b8.size; first | omega | (simp at this; omega))
  have s5_8 : w5.heap.size < w8.heap.size := by (have := b8.size; first | omega | (simp at this; omega))
  go_wp2_with fail
  go_ret
  exact ⟨rfl, k8⟩
theorem parts_30 (y m d y' m' d' a n : Int) (w : World) (hA : Ahead w) (hT : Hid (TabsIn tabs w)) (h8 : 4 ≤ w.heap.size) (a1 : -32768 ≤ a) (a2 : a ≤ 32767) (n1 : -32768 ≤ n) (n2 : n ≤ 32767) (g1 : good y m d = true) (g2 : good y' m' d' = true) (X Y Z : Int) (hP : AddIs y m d a X Y Z 0) (h28 : d ≤ 28) (F G H E : Int) (hQ : AddIs X Y Z n F G H E) (hR : AddIs y m d (a + n) F G H E) (h0 : 0 ≤ a) (hS : SinceIs y m d X Y Z a 0 0) (N D : Int) (hU : SinceIs y m d y' m' d' 0 0 7) (hV : SinceIs y' m' d' y m d N D 0) :
    Calls Tryz.prog 12 #[.agg #[.int .i64 y, .int .i64 m, .int .i64 d], .agg #[.int .i64 y', .int .i64 m', .int .i64 d'], .int .i16 a, .int .i16 n] w fun e w' => e = .returned (.bool true) ∧ Below w.heap.size w w' := by
  go_enter Tryz.func12, Tryz.ntmps12
  have k0 : Below w.heap.size w ((w.alloc (.cells #[.int .i64 y, .int .i64 m, .int .i64 d] 23)).alloc (.cells #[.int .i64 y', .int .i64 m', .int .i64 d'] 23)) := ((Below.refl _ _).alloc (Nat.le_refl _) _).alloc (by simp) _
  go_wp2_with fail
  refine (good_yes g1 _).mono ?_
  rintro e w1 ⟨rfl, b1⟩
  obtain ⟨hc1, hf1⟩ := bcell b1
  have z1 : w.heap.size + 1 < w1.heap.size := by (have := b1.size; simp at this; omega)
  have g1 : w.heap.size < w1.heap.size := by omega
  have k1 : Below w.heap.size w w1 := k0.trans (b1.mono (by first | exact Nat.le_refl _ | omega | (simp; done) | (simp; omega)))
  go_wp2_with fail
  refine (good_yes g2 _).mono ?_
  rintro e w2 ⟨rfl, b2⟩
  obtain ⟨hc2, hf2⟩ := bcell b2
  have z2 : w.heap.size + 1 < w2.heap.size := by (have := b2.size; first | omega | (simp at this; omega))
  have g2 : w.heap.size < w2.heap.size := by omega
  have k2 : Below w.heap.size w w2 := k1.trans (b2.mono (by first | exact Nat.le_refl _ | omega | (simp; done) | (simp; omega)))
  go_wp2_with fail
  refine (hP _ (hA.below' k2)).mono ?_
  rintro e w3 ⟨rfl, b3⟩
  obtain ⟨hc3, hf3⟩ := bcell b3
  have z3 : w.heap.size + 1 < w3.heap.size := by (have := b3.size; first | omega | (simp at this; omega))
  have g3 : w.heap.size < w3.heap.size := by omega
  have k3 : Below w.heap.size w w3 := k2.trans (b3.mono (by first | exact Nat.le_refl _ | omega | (simp; done) | (simp; omega)))
  go_wp2_with fail
  refine (hQ _ (hA.below' (k3.alloc (by omega) _))).mono ?_
  rintro e w4 ⟨rfl, b4⟩
  obtain ⟨hc4, hf4⟩ := bcell b4
  have z4 : w.heap.size + 1 < w4.heap.size := by (have := b4.size; first | omega | (simp at this; omega))
  have g4 : w.heap.size < w4.heap.size := by omega
  have k4 : Below w.heap.size w w4 := (k3.alloc (by omega) _).trans (b4.mono (by first | exact Nat.le_refl _ | omega | (simp; done) | (simp; omega)))
  have s3_4 : w3.heap.size < w4.heap.size := by (have := b4.size; first | omega | (simp at this; omega))
  go_wp2_with fail
  refine (hR _ (hA.below' (k4.alloc (by omega) _))).mono ?_
  rintro e w5 ⟨rfl, b5⟩
  obtain ⟨hc5, hf5⟩ := bcell b5
  have z5 : w.heap.size + 1 < w5.heap.size := by (have := b5.size; first | omega | (simp at this; omega))
  have g5 : w.heap.size < w5.heap.size := by omega
  have k5 : Below w.heap.size w w5 := (k4.alloc (by omega) _).trans (b5.mono (by first | exact Nat.le_refl _ | omega | (simp; done) | (simp; omega)))
  have s3_5 : w3.heap.size < w5.heap.size := by (have := b5.size; first | omega | (simp at this; omega))
  have s4_5 : w4.heap.size < w5.heap.size := by (have := b5.size; first | omega | (simp at this; omega))
  go_wp2_with fail
  refine (hS _ (hA.below' (k5.alloc (by omega) _))).mono ?_
  rintro e w6 ⟨rfl, b6⟩
  obtain ⟨hc6, hf6⟩ := bcell b6
  have z6 : w.heap.size + 1 < w6.heap.size := by (have := b6.size; first | omega | (simp at this; omega))
  have g6 : w.heap.size < w6.heap.size := by omega
  have k6 : Below w.heap.size w w6 := (k5.alloc (by omega) _).trans (b6.mono (by first | exact Nat.le_refl _ | omega | (simp; done) | (simp; omega)))
  have s3_6 : w3.heap.size < w6.heap.size := by (have := b6.size; first | omega | (simp at this; omega))
  have s4_6 : w4.heap.size < w6.heap.size := by (have := b6.size; first | omega | (simp at this; omega))
  have s5_6 : w5.heap.size < w6.heap.size := by (have := b6.size; first | omega | (simp at this; omega))
  go_wp2_with fail
  refine (hU _ (hA.below' k6)).mono ?_
  rintro e w7 ⟨rfl, b7⟩
  obtain ⟨hc7, hf7⟩ := bcell b7
  have z7 : w.heap.size + 1 < w7.heap.size := by (have := b7.size; first | omega | (simp at this; omega))
  have g7 : w.heap.size < w7.heap.size := by omega
  have k7 : Below w.heap.size w w7 := k6.trans (b7.mono (by first | exact Nat.le_refl _ | omega | (simp; done) | (simp; omega)))
  have s3_7 : w3.heap.size < w7.heap.size := by (have := b7.size; first | omega | (simp at this; omega))
  have s4_7 : w4.heap.size < w7.heap.size := by (have := b7.size; first | omega | (simp at this; omega))
  have s5_7 : w5.heap.size < w7.heap.size := by (have := b7.size; first | omega | (simp at this; omega))
  go_wp2_with fail
  refine (hV _ (hA.below' k7)).mono ?_
  rintro e w8 ⟨rfl, b8⟩
  obtain ⟨hc8, hf8⟩ := bcell b8
  have z8 : w.heap.size + 1 < w8.heap.size := by (have := b8.size; first | omega | (simp at this; omega))
  have g8 : w.heap.size < w8.heap.size := by omega
  have k8 : Below w.heap.size w w8 := k7.trans (b8.mono (by first | exact Nat.le_refl _ | omega | (simp; done) | (simp; omega)))
  have s3_8 : w3.heap.size < w8.heap.size := by (have := b8.size; first | omega | (simp at this; omega))
  have s4_8 : w4.heap.size < w8.heap.size := by (have := b8.size; first | omega | (simp at this; omega))
  have s5_8 : w5.heap.size < w8.heap.size := by (have := b8.size; first | omega | (simp at this; omega))
  go_wp2_with fail
  refine (known_any _ (hT.out.below k8 (fun t ht => by have := tabs_four t ht; omega))).mono ?_
  rintro e w9 ⟨rfl, b9⟩
  obtain ⟨hc9, hf9⟩ := bcell b9
  have z9 : w.heap.size + 1 < w9.heap.size := by (have := b9.size; first | omega | (simp at this; omega))
  have g9 : w.heap.size < w9.heap.size := by omega
  have k9 : Below w.heap.size w w9 := k8.trans (b9.mono (by first | exact Nat.le_refl _ | omega | (simp; done) | (simp; omega)))
  have s3_9 : w3.heap.size < w9.heap.size := by (have := b9.size; first | omega | (simp at this; omega))
  have s4_9 : w4.heap.size < w9.heap.size := by (have := b9.size; first | omega | (simp at this; omega))
  have s5_9 : w5.heap.size < w9.heap.size := by (have := b9.size; first | omega | (simp at this; omega))
  go_wp2_with fail
  go_ret
  exact ⟨rfl, k9⟩
end Go.Proofs.YthdjebomeibngaaGreatDoor
