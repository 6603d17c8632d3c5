/- The seat: DateParts, way by way. -/
import Derived.Test.YthdjebomeibngaaGreatDoorSeatHb
namespace Go.Proofs.YthdjebomeibngaaGreatDoor
open Go Go.RowKit Go.DayM Go.Ev
set_option maxRecDepth 100000
set_option maxHeartbeats 4000000
theorem parts_02 (y m d y' m' d' a n : Int) (w : World) (hA : Ahead w) (hT : Hid (TabsIn tabs w)) (h8 : 4 ≤ w.heap.size) (a1 : -32768 ≤ a) (a2 : a ≤ 32767) (_n1 : -32768 ≤ n) (_n2 : n ≤ 32767) (g1 : good y m d = true) (g2 : good y' m' d' = true) (hP : AddIs y m d a 0 0 0 3) (k r K L M p : Int) (k1 : 0 ≤ k) (k2 : k ≤ 239987) (r1 : 0 ≤ r) (hU : SinceIs y m d y' m' d' k r 0) (hV : AddIs y m d k K L M 0) (hD : DayIs K L M p 0) (hG : DayIs y' m' d' (p + r) 0) (p1 : -10000000 ≤ p) (p2 : p + r ≤ 10000000) (S T U q : Int) (hN : AddIs y m d (k + 1) S T U 0) (hO : DayIs S T U q 0) (hq : p + r < q) :
    Calls Tryz.prog 12 #[.agg #[.int .i64 y, .int .i64 m, .int .i64 d], .agg #[.int .i64 y', .int .i64 m', .int .i64 d'], .int .i16 a, .int .i16 n] w fun e w' => e = .returned (.bool true) ∧ Below w.heap.size w w' := by
  go_enter Tryz.func12, Tryz.ntmps12
  have k0 : Below w.heap.size w ((w.alloc (.cells #[.int .i64 y, .int .i64 m, .int .i64 d] 23)).alloc (.cells #[.int .i64 y', .int .i64 m', .int .i64 d'] 23)) := ((Below.refl _ _).alloc (Nat.le_refl _) _).alloc (by simp) _
  go_wp2_with fail
  refine (good_yes g1 _).mono ?_
  rintro e w1 ⟨rfl, b1⟩
  obtain ⟨hc1, hf1⟩ := bcell b1
  have z1 : w.heap.size + 1 < w1.heap.size := by (have := b1.size; simp at this; omega)
  have g1 : w.heap.size < w1.heap.size := by omega
  have k1 : Below w.heap.size w w1 := k0.trans (b1.mono (by first | exact Nat.le_refl _ | omega | (simp; done) | (simp; omega)))
  go_wp2_with fail
  refine (good_yes g2 _).mono ?_
  rintro e w2 ⟨rfl, b2⟩
  obtain ⟨hc2, hf2⟩ := bcell b2
  have z2 : w.heap.size + 1 < w2.heap.size := by (have := b2.size; first | omega | (simp at this; omega))
  have g2 : w.heap.size < w2.heap.size := by omega
  have k2 : Below w.heap.size w w2 := k1.trans (b2.mono (by first | exact Nat.le_refl _ | omega | (simp; done) | (simp; omega)))
  go_wp2_with fail
  refine (hP _ (hA.below' k2)).mono ?_
  rintro e w3 ⟨rfl, b3⟩
  obtain ⟨hc3, hf3⟩ := bcell b3
  have z3 : w.heap.size + 1 < w3.heap.size := by (have := b3.size; first | omega | (simp at this; omega))
  have g3 : w.heap.size < w3.heap.size := by omega
  have k3 : Below w.heap.size w w3 := k2.trans (b3.mono (by first | exact Nat.le_refl _ | omega | (simp; done) | (simp; omega)))
  go_wp2_with fail
  refine (hU _ (hA.below' (k3.alloc (by omega) _))).mono ?_
  rintro e w4 ⟨rfl, b4⟩
  obtain ⟨hc4, hf4⟩ := bcell b4
  have z4 : w.heap.size + 1 < w4.heap.size := by (have := b4.size; first | omega | (simp at this; omega))
  have g4 : w.heap.size < w4.heap.size := by omega
  have k4 : Below w.heap.size w w4 := (k3.alloc (by omega) _).trans (b4.mono (by first | exact Nat.le_refl _ | omega | (simp; done) | (simp; omega)))
  have s3_4 : w3.heap.size < w4.heap.size := by (have := b4.size; first | omega | (simp at this; omega))
  go_wp2_with fail
  refine (hV _ (hA.below' k4)).mono ?_
  rintro e w5 ⟨rfl, b5⟩
  obtain ⟨hc5, hf5⟩ := bcell b5
  have z5 : w.heap.size + 1 < w5.heap.size := by (have := b5.size; first | omega | (simp at this; omega))
  have g5 : w.heap.size < w5.heap.size := by omega
  have k5 : Below w.heap.size w w5 := k4.trans (b5.mono (by first | exact Nat.le_refl _ | omega | (simp; done) | (simp; omega)))
  have s3_5 : w3.heap.size < w5.heap.size := by (have := b5.size; first | omega | (simp at this; omega))
  have x50 : w5.cell? ⟨w3.heap.size, 0, none⟩ = some (.int .i64 0) := by go_simp
  have x51 : w5.cell? ⟨w3.heap.size, 1, none⟩ = some (.int .i64 0) := by go_simp
  have x52 : w5.cell? ⟨w3.heap.size, 2, none⟩ = some (.int .i64 0) := by go_simp
  obtain ⟨y50, y51, y52, yo5⟩ := put3 (K := .int .i64 K) (L := .int .i64 L) (M := .int .i64 M) x50 x51 x52
  have p50 := (yo5 w.heap.size 0 (by omega)).trans (show w5.cell? ⟨w.heap.size, 0, none⟩ = some (.int .i64 y) by go_simp)
  have q50 := (yo5 (w.heap.size + 1) 0 (by omega)).trans (show w5.cell? ⟨w.heap.size + 1, 0, none⟩ = some (.int .i64 y') by go_simp)
  have p51 := (yo5 w.heap.size 1 (by omega)).trans (show w5.cell? ⟨w.heap.size, 1, none⟩ = some (.int .i64 m) by go_simp)
  have q51 := (yo5 (w.heap.size + 1) 1 (by omega)).trans (show w5.cell? ⟨w.heap.size + 1, 1, none⟩ = some (.int .i64 m') by go_simp)
  have p52 := (yo5 w.heap.size 2 (by omega)).trans (show w5.cell? ⟨w.heap.size, 2, none⟩ = some (.int .i64 d) by go_simp)
  have q52 := (yo5 (w.heap.size + 1) 2 (by omega)).trans (show w5.cell? ⟨w.heap.size + 1, 2, none⟩ = some (.int .i64 d') by go_simp)
  go_wp2_with fail
  refine (hD _  ?_).mono ?_
  · exact hA.below' (((k5.setCell (by first | omega | (simp; omega)) _).setCell (by first | omega | (simp; omega)) _).setCell (by first | omega | (simp; omega)) _)
  rintro e w6 ⟨rfl, b6⟩
  obtain ⟨hc6, hf6⟩ := bcell b6
  have z6 : w.heap.size + 1 < w6.heap.size := by (have := b6.size; first | omega | (simp at this; omega))
  have g6 : w.heap.size < w6.heap.size := by omega
  have k6 : Below w.heap.size w w6 := (((k5.setCell (by first | omega | (simp; omega)) _).setCell (by first | omega | (simp; omega)) _).setCell (by first | omega | (simp; omega)) _).trans (b6.mono (by first | exact Nat.le_refl _ | omega | (simp; done) | (simp; omega)))
  have s3_6 : w3.heap.size < w6.heap.size := by (have := b6.size; first | omega | (simp at this; omega))
  go_wp2_with fail
  refine (hG _ (hA.below' k6)).mono ?_
  rintro e w7 ⟨rfl, b7⟩
  obtain ⟨hc7, hf7⟩ := bcell b7
  have z7 : w.heap.size + 1 < w7.heap.size := by (have := b7.size; first | omega | (simp at this; omega))
  have g7 : w.heap.size < w7.heap.size := by omega
  have k7 : Below w.heap.size w w7 := k6.trans (b7.mono (by first | exact Nat.le_refl _ | omega | (simp; done) | (simp; omega)))
  have s3_7 : w3.heap.size < w7.heap.size := by (have := b7.size; first | omega | (simp at this; omega))
  go_wp2_with fail
  refine (hN _ (hA.below' k7)).mono ?_
  rintro e w8 ⟨rfl, b8⟩
  obtain ⟨hc8, hf8⟩ := bcell b8
  have z8 : w.heap.size + 1 < w8.heap.size := by (have := b8.size; first | omega | (simp at this; omega))
  have g8 : w.heap.size < w8.heap.size := by omega
  have k8 : Below w.heap.size w w8 := k7.trans (b8.mono (by first | exact Nat.le_refl _ | omega | (simp; done) | (simp; omega)))
  have s3_8 : w3.heap.size < w8.heap.size := by (have := b8.size; first | omega | (simp at this; omega))
  have x80 : w8.cell? ⟨w3.heap.size, 0, none⟩ = some (.int .i64 K) := by go_simp
  have x81 : w8.cell? ⟨w3.heap.size, 1, none⟩ = some (.int .i64 L) := by go_simp
  have x82 : w8.cell? ⟨w3.heap.size, 2, none⟩ = some (.int .i64 M) := by go_simp
  obtain ⟨y80, y81, y82, yo8⟩ := put3 (K := .int .i64 S) (L := .int .i64 T) (M := .int .i64 U) x80 x81 x82
  have p80 := (yo8 w.heap.size 0 (by omega)).trans (show w8.cell? ⟨w.heap.size, 0, none⟩ = some (.int .i64 y) by go_simp)
  have q80 := (yo8 (w.heap.size + 1) 0 (by omega)).trans (show w8.cell? ⟨w.heap.size + 1, 0, none⟩ = some (.int .i64 y') by go_simp)
  have p81 := (yo8 w.heap.size 1 (by omega)).trans (show w8.cell? ⟨w.heap.size, 1, none⟩ = some (.int .i64 m) by go_simp)
  have q81 := (yo8 (w.heap.size + 1) 1 (by omega)).trans (show w8.cell? ⟨w.heap.size + 1, 1, none⟩ = some (.int .i64 m') by go_simp)
  have p82 := (yo8 w.heap.size 2 (by omega)).trans (show w8.cell? ⟨w.heap.size, 2, none⟩ = some (.int .i64 d) by go_simp)
  have q82 := (yo8 (w.heap.size + 1) 2 (by omega)).trans (show w8.cell? ⟨w.heap.size + 1, 2, none⟩ = some (.int .i64 d') by go_simp)
  go_wp2_with fail
  refine (hO _  ?_).mono ?_
  · exact hA.below' (((k8.setCell (by first | omega | (simp; omega)) _).setCell (by first | omega | (simp; omega)) _).setCell (by first | omega | (simp; omega)) _)
  rintro e w9 ⟨rfl, b9⟩
  obtain ⟨hc9, hf9⟩ := bcell b9
  have z9 : w.heap.size + 1 < w9.heap.size := by (have := b9.size; first | omega | (simp at this; omega))
  have g9 : w.heap.size < w9.heap.size := by omega
  have k9 : Below w.heap.size w w9 := (((k8.setCell (by first | omega | (simp; omega)) _).setCell (by first | omega | (simp; omega)) _).setCell (by first | omega | (simp; omega)) _).trans (b9.mono (by first | exact Nat.le_refl _ | omega | (simp; done) | (simp; omega)))
  have s3_9 : w3.heap.size < w9.heap.size := by (have := b9.size; first | omega | (simp at this; omega))
  go_wp2_with fail
  refine (known_any _ (hT.out.below k9 (fun t ht => by have := tabs_four t ht; omega))).mono ?_
  rintro e w10 ⟨rfl, b10⟩
  obtain ⟨hc10, hf10⟩ := bcell b10
  have z10 : w.heap.size + 1 < w10.heap.size := by (have := b10.size; first | omega | (simp at this; omega))
  have g10 : w.heap.size < w10.heap.size := by omega
  have k10 : Below w.heap.size w w10 := k9.trans (b10.mono (by first | exact Nat.le_refl _ | omega | (simp; done) | (simp; omega)))
  have s3_10 : w3.heap.size < w10.heap.size := by (have := b10.size; first | omega | (simp at this; omega))
  go_wp2_with fail
  go_ret
  exact ⟨rfl, k10⟩
theorem parts_12 (y m d y' m' d' a n : Int) (w : World) (hA : Ahead w) (hT : Hid (TabsIn tabs w)) (h8 : 4 ≤ w.heap.size) (a1 : -32768 ≤ a) (a2 : a ≤ 32767) (_n1 : -32768 ≤ n) (_n2 : n ≤ 32767) (g1 : good y m d = true) (g2 : good y' m' d' = true) (X Y Z : Int) (hP : AddIs y m d a X Y Z 0) (h28 : 28 < d) (k r K L M p : Int) (k1 : 0 ≤ k) (k2 : k ≤ 239987) (r1 : 0 ≤ r) (hU : SinceIs y m d y' m' d' k r 0) (hV : AddIs y m d k K L M 0) (hD : DayIs K L M p 0) (hG : DayIs y' m' d' (p + r) 0) (p1 : -10000000 ≤ p) (p2 : p + r ≤ 10000000) (S T U q : Int) (hN : AddIs y m d (k + 1) S T U 0) (hO : DayIs S T U q 0) (hq : p + r < q) :
    Calls Tryz.prog 12 #[.agg #[.int .i64 y, .int .i64 m, .int .i64 d], .agg #[.int .i64 y', .int .i64 m', .int .i64 d'], .int .i16 a, .int .i16 n] w fun e w' => e = .returned (.bool true) ∧ Below w.heap.size w w' := by
  go_enter Tryz.func12, Tryz.ntmps12
  have k0 : Below w.heap.size w ((w.alloc (.cells #[.int .i64 y, .int .i64 m, .int .i64 d] 23)).alloc (.cells #[.int .i64 y', .int .i64 m', .int .i64 d'] 23)) := ((Below.refl _ _).alloc (Nat.le_refl _) _).alloc (by simp) _
  go_wp2_with fail
  refine (good_yes g1 _).mono ?_
  rintro e w1 ⟨rfl, b1⟩
  obtain ⟨hc1, hf1⟩ := bcell b1
  have z1 : w.heap.size + 1 < w1.heap.size := by (have := b1.size; simp at this; omega)
  have g1 : w.heap.size < w1.heap.size := by omega
  have k1 : Below w.heap.size w w1 := k0.trans (b1.mono (by first | exact Nat.le_refl _ | omega | (simp; done) | (simp; omega)))
  go_wp2_with fail
  refine (good_yes g2 _).mono ?_
  rintro e w2 ⟨rfl, b2⟩
  obtain ⟨hc2, hf2⟩ := bcell b2
  have z2 : w.heap.size + 1 < w2.heap.size := by (have := b2.size; first | omega | (simp at this; omega))
  have g2 : w.heap.size < w2.heap.size := by omega
  have k2 : Below w.heap.size w w2 := k1.trans (b2.mono (by first | exact Nat.le_refl _ | omega | (simp; done) | (simp; omega)))
  go_wp2_with fail
  refine (hP _ (hA.below' k2)).mono ?_
  rintro e w3 ⟨rfl, b3⟩
  obtain ⟨hc3, hf3⟩ := bcell b3
  have z3 : w.heap.size + 1 < w3.heap.size := by (have := b3.size; first | omega | (simp at this; omega))
  have g3 : w.heap.size < w3.heap.size := by omega
  have k3 : Below w.heap.size w w3 := k2.trans (b3.mono (by first | exact Nat.le_refl _ | omega | (simp; done) | (simp; omega)))
  go_wp2_with fail
  refine (hU _ (hA.below' (k3.alloc (by omega) _))).mono ?_
  rintro e w4 ⟨rfl, b4⟩
  obtain ⟨hc4, hf4⟩ := bcell b4
  have z4 : w.heap.size + 1 < w4.heap.size := by (have := b4.size; first | omega | (simp at this; omega))
  have g4 : w.heap.size < w4.heap.size := by omega
  have k4 : Below w.heap.size w w4 := (k3.alloc (by omega) _).trans (b4.mono (by first | exact Nat.le_refl _ | omega | (simp; done) | (simp; omega)))
  have s3_4 : w3.heap.size < w4.heap.size := by (have := b4.size; first | omega | (simp at this; omega))
  go_wp2_with fail
  refine (hV _ (hA.below' k4)).mono ?_
  rintro e w5 ⟨rfl, b5⟩
  obtain ⟨hc5, hf5⟩ := bcell b5
  have z5 : w.heap.size + 1 < w5.heap.size := by (have := b5.size; first | omega | (simp at this; omega))
  have g5 : w.heap.size < w5.heap.size := by omega
  have k5 : Below w.heap.size w w5 := k4.trans (b5.mono (by first | exact Nat.le_refl _ | omega | (simp; done) | (simp; omega)))
  have s3_5 : w3.heap.size < w5.heap.size := by (have := b5.size; first | omega | (simp at this; omega))
  have x50 : w5.cell? ⟨w3.heap.size, 0, none⟩ = some (.int .i64 X) := by go_simp
  have x51 : w5.cell? ⟨w3.heap.size, 1, none⟩ = some (.int .i64 Y) := by go_simp
  have x52 : w5.cell? ⟨w3.heap.size, 2, none⟩ = some (.int .i64 Z) := by go_simp
  obtain ⟨y50, y51, y52, yo5⟩ := put3 (K := .int .i64 K) (L := .int .i64 L) (M := .int .i64 M) x50 x51 x52
  have p50 := (yo5 w.heap.size 0 (by omega)).trans (show w5.cell? ⟨w.heap.size, 0, none⟩ = some (.int .i64 y) by go_simp)
  have q50 := (yo5 (w.heap.size + 1) 0 (by omega)).trans (show w5.cell? ⟨w.heap.size + 1, 0, none⟩ = some (.int .i64 y') by go_simp)
  have p51 := (yo5 w.heap.size 1 (by omega)).trans (show w5.cell? ⟨w.heap.size, 1, none⟩ = some (.int .i64 m) by go_simp)
  have q51 := (yo5 (w.heap.size + 1) 1 (by omega)).trans (show w5.cell? ⟨w.heap.size + 1, 1, none⟩ = some (.int .i64 m') by go_simp)
  have p52 := (yo5 w.heap.size 2 (by omega)).trans (show w5.cell? ⟨w.heap.size, 2, none⟩ = some (.int .i64 d) by go_simp)
  have q52 := (yo5 (w.heap.size + 1) 2 (by omega)).trans (show w5.cell? ⟨w.heap.size + 1, 2, none⟩ = some (.int .i64 d') by go_simp)
  go_wp2_with fail
  refine (hD _  ?_).mono ?_
  · exact hA.below' (((k5.setCell (by first | omega | (simp; omega)) _).setCell (by first | omega | (simp; omega)) _).setCell (by first | omega | (simp; omega)) _)
  rintro e w6 ⟨rfl, b6⟩
  obtain ⟨hc6, hf6⟩ := bcell b6
  have z6 : w.heap.size + 1 < w6.heap.size := by (have := b6.size; first | omega | (simp at this; omega))
  have g6 : w.heap.size < w6.heap.size := by omega
  have k6 : Below w.heap.size w w6 := (((k5.setCell (by first | omega | (simp; omega)) _).setCell (by first | omega | (simp; omega)) _).setCell (by first | omega | (simp; omega)) _).trans (b6.mono (by first | exact Nat.le_refl _ | omega | (simp; done) | (simp; omega)))
  have s3_6 : w3.heap.size < w6.heap.size := by (have := b6.size; first | omega | (simp at this; omega))
  go_wp2_with fail
  refine (hG _ (hA.below' k6)).mono ?_
  rintro e w7 ⟨rfl, b7⟩
  obtain ⟨hc7, hf7⟩ := bcell b7
  have z7 : w.heap.size + 1 < w7.heap.size := by (have := b7.size; first | omega | (simp at this; omega))
  have g7 : w.heap.size < w7.heap.size := by omega
  have k7 : Below w.heap.size w w7 := k6.trans (b7.mono (by first | exact Nat.le_refl _ | omega | (simp; done) | (simp; omega)))
  have s3_7 : w3.heap.size < w7.heap.size := by (have := b7.size; first | omega | (simp at this; omega))
  go_wp2_with fail
  refine (hN _ (hA.below' k7)).mono ?_
  rintro e w8 ⟨rfl, b8⟩
  obtain ⟨hc8, hf8⟩ := bcell b8
  have z8 : w.heap.size + 1 < w8.heap.size := by (have := b8.size; first | omega | (simp at this; omega))
  have g8 : w.heap.size < w8.heap.size := by omega
  have k8 : Below w.heap.size w w8 := k7.trans (b8.mono (by first | exact Nat.le_refl _ | omega | (simp; done) | (simp; omega)))
  have s3_8 : w3.heap.size < w8.heap.size := by (have := b8.size; first | omega | (simp at this; omega))
  have x80 : w8.cell? ⟨w3.heap.size, 0, none⟩ = some (.int .i64 K) := by go_simp
  have x81 : w8.cell? ⟨w3.heap.size, 1, none⟩ = some (.int .i64 L) := by go_simp
  have x82 : w8.cell? ⟨w3.heap.size, 2, none⟩ = some (.int .i64 M) := by go_simp
  obtain ⟨y80, y81, y82, yo8⟩ := put3 (K := .int .i64 S) (L := .int .i64 T) (M := .int .i64 U) x80 x81 x82
  have p80 := (yo8 w.heap.size 0 (by omega)).trans (show w8.cell? ⟨w.heap.size, 0, none⟩ = some (.int .i64 y) by go_simp)
  have q80 := (yo8 (w.heap.size + 1) 0 (by omega)).trans (show w8.cell? ⟨w.heap.size + 1, 0, none⟩ = some (.int .i64 y') by go_simp)
  have p81 := (yo8 w.heap.size 1 (by omega)).trans (show w8.cell? ⟨w.heap.size, 1, none⟩ = some (.int .i64 m) by go_simp)
  have q81 := (yo8 (w.heap.size + 1) 1 (by omega)).trans (show w8.cell? ⟨w.heap.size + 1, 1, none⟩ = some (.int .i64 m') by go_simp)
  have p82 := (yo8 w.heap.size 2 (by omega)).trans (show w8.cell? ⟨w.heap.size, 2, none⟩ = some (.int .i64 d) by go_simp)
  have q82 := (yo8 (w.heap.size + 1) 2 (by omega)).trans (show w8.cell? ⟨w.heap.size + 1, 2, none⟩ = some (.int .i64 d') by go_simp)
  go_wp2_with fail
  refine (hO _  ?_).mono ?_
  · exact hA.below' (((k8.setCell (by first | omega | (simp; omega)) _).setCell (by first | omega | (simp; omega)) _).setCell (by first | omega | (simp; omega)) _)
  rintro e w9 ⟨rfl, b9⟩
  obtain ⟨hc9, hf9⟩ := bcell b9
  have z9 : w.heap.size + 1 < w9.heap.size := by (have := b9.size; first | omega | (simp at this; omega))
  have g9 : w.heap.size < w9.heap.size := by omega
  have k9 : Below w.heap.size w w9 := (((k8.setCell (by first | omega | (simp; omega)) _).setCell (by first | omega | (simp; omega)) _).setCell (by first | omega | (simp; omega)) _).trans (b9.mono (by first | exact Nat.le_refl _ | omega | (simp; done) | (simp; omega)))
  have s3_9 : w3.heap.size < w9.heap.size := by (have := b9.size; first | omega | (simp at this; omega))
  go_wp2_with fail
  refine (known_any _ (hT.out.below k9 (fun t ht => by have := tabs_four t ht; omega))).mono ?_
  rintro e w10 ⟨rfl, b10⟩
  obtain ⟨hc10, hf10⟩ := bcell b10
  have z10 : w.heap.size + 1 < w10.heap.size := by (have := b10.size; first | omega | (simp at this; omega))
  have g10 : w.heap.size < w10.heap.size := by omega
  have k10 : Below w.heap.size w w10 := k9.trans (b10.mono (by first | exact Nat.le_refl _ | omega | (simp; done) | (simp; omega)))
  have s3_10 : w3.heap.size < w10.heap.size := by (have := b10.size; first | omega | (simp at this; omega))
  go_wp2_with fail
  go_ret
  exact ⟨rfl, k10⟩
theorem parts_22 (y m d y' m' d' a n : Int) (w : World) (hA : Ahead w) (hT : Hid (TabsIn tabs w)) (h8 : 4 ≤ w.heap.size) (a1 : -32768 ≤ a) (a2 : a ≤ 32767) (n1 : -32768 ≤ n) (n2 : n ≤ 32767) (g1 : good y m d = true) (g2 : good y' m' d' = true) (X Y Z : Int) (hP : AddIs y m d a X Y Z 0) (h28 : d ≤ 28) (F G H E : Int) (hQ : AddIs X Y Z n F G H E) (hR : AddIs y m d (a + n) F G H E) (h0 : a < 0) (k r K L M p : Int) (k1 : 0 ≤ k) (k2 : k ≤ 239987) (r1 : 0 ≤ r) (hU : SinceIs y m d y' m' d' k r 0) (hV : AddIs y m d k K L M 0) (hD : DayIs K L M p 0) (hG : DayIs y' m' d' (p + r) 0) (p1 : -10000000 ≤ p) (p2 : p + r ≤ 10000000) (S T U q : Int) (hN : AddIs y m d (k + 1) S T U 0) (hO : DayIs S T U q 0) (hq : p + r < q) :
    Calls Tryz.prog 12 #[.agg #[.int .i64 y, .int .i64 m, .int .i64 d], .agg #[.int .i64 y', .int .i64 m', .int .i64 d'], .int .i16 a, .int .i16 n] w fun e w' => e = .returned (.bool true) ∧ Below w.heap.size w w' := by
  go_enter Tryz.func12, Tryz.ntmps12
  have k0 : Below w.heap.size w ((w.alloc (.cells #[.int .i64 y, .int .i64 m, .int .i64 d] 23)).alloc (.cells #[.int .i64 y', .int .i64 m', .int .i64 d'] 23)) := ((Below.refl _ _).alloc (Nat.le_refl _) _).alloc (by simp) _
  go_wp2_with fail
  refine (good_yes g1 _).mono ?_
  rintro e w1 ⟨rfl, b1⟩
  obtain ⟨hc1, hf1⟩ := bcell b1
  have z1 : w.heap.size + 1 < w1.heap.size := by (have := b1.size; simp at this; omega)
  have g1 : w.heap.size < w1.heap.size := by omega
  have k1 : Below w.heap.size w w1 := k0.trans (b1.mono (by first | exact Nat.le_refl _ | omega | (simp; done) | (simp; omega)))
  go_wp2_with fail
  refine (good_yes g2 _).mono ?_
  rintro e w2 ⟨rfl, b2⟩
  obtain ⟨hc2, hf2⟩ := bcell b2
  have z2 : w.heap.size + 1 < w2.heap.size := by (have := b2.size; first | omega | (simp at this; omega))
  have g2 : w.heap.size < w2.heap.size := by omega
  have k2 : Below w.heap.size w w2 := k1.trans (b2.mono (by first | exact Nat.le_refl _ | omega | (simp; done) | (simp; omega)))
  go_wp2_with fail
  refine (hP _ (hA.below' k2)).mono ?_
  rintro e w3 ⟨rfl, b3⟩
  obtain ⟨hc3, hf3⟩ := bcell b3
  have z3 : w.heap.size + 1 < w3.heap.size := by (have := b3.size; first | omega | (simp at this; omega))
  have g3 : w.heap.size < w3.heap.size := by omega
  have k3 : Below w.heap.size w w3 := k2.trans (b3.mono (by first | exact Nat.le_refl _ | omega | (simp; done) | (simp; omega)))
  go_wp2_with fail
  refine (hQ _ (hA.below' (k3.alloc (by omega) _))).mono ?_
  rintro e w4 ⟨rfl, b4⟩
  obtain ⟨hc4, hf4⟩ := bcell b4
  have z4 : w.heap.size + 1 < w4.heap.size := by (have := b4.size; first | omega | (simp at this; omega))
  have g4 : w.heap.size < w4.heap.size := by omega
  have k4 : Below w.heap.size w w4 := (k3.alloc (by omega) _).trans (b4.mono (by first | exact Nat.le_refl _ | omega | (simp; done) | (simp; omega)))
  have s3_4 : w3.heap.size < w4.heap.size := by (have := b4.size; first | omega | (simp at this; omega))
  go_wp2_with fail
  refine (hR _ (hA.below' (k4.alloc (by omega) _))).mono ?_
  rintro e w5 ⟨rfl, b5⟩
  obtain ⟨hc5, hf5⟩ := bcell b5
  have z5 : w.heap.size + 1 < w5.heap.size := by (have := b5.size; first | omega | (simp at this; omega))
  have g5 : w.heap.size < w5.heap.size := by omega
  have k5 : Below w.heap.size w w5 := (k4.alloc (by omega) _).trans (b5.mono (by first | exact Nat.le_refl _ | omega | (simp; done) | (simp; omega)))
  have s3_5 : w3.heap.size < w5.heap.size := by (have := b5.size; first | omega | (simp at this; omega))
  have s4_5 : w4.heap.size < w5.heap.size := by (have := b5.size; first | omega | (simp at this; omega))
  go_wp2_with fail
  refine (hU _ (hA.below' (k5.alloc (by omega) _))).mono ?_
  rintro e w6 ⟨rfl, b6⟩
  obtain ⟨hc6, hf6⟩ := bcell b6
  have z6 : w.heap.size + 1 < w6.heap.size := by (have := b6.size; first | omega | (simp at this; omega))
  have g6 : w.heap.size < w6.heap.size := by omega
  have k6 : Below w.heap.size w w6 := (k5.alloc (by omega) _).trans (b6.mono (by first | exact Nat.le_refl _ | omega | (simp; done) | (simp; omega)))
  have s3_6 : w3.heap.size < w6.heap.size := by (have := b6.size; first | omega | (simp at this; omega))
  have s4_6 : w4.heap.size < w6.heap.size := by (have := b6.size; first | omega | (simp at this; omega))
  have s5_6 : w5.heap.size < w6.heap.size := by (have := b6.size; first | omega | (simp at this; omega))
  go_wp2_with fail
  refine (hV _ (hA.below' k6)).mono ?_
  rintro e w7 ⟨rfl, b7⟩
  obtain ⟨hc7, hf7⟩ := bcell b7
  have z7 : w.heap.size + 1 < w7.heap.size := by (have := b7.size; first | omega | (simp at this; omega))
  have g7 : w.heap.size < w7.heap.size := by omega
  have k7 : Below w.heap.size w w7 := k6.trans (b7.mono (by first | exact Nat.le_refl _ | omega | (simp; done) | (simp; omega)))
  have s3_7 : w3.heap.size < w7.heap.size := by (have := b7.size; first | omega | (simp at this; omega))
  have s4_7 : w4.heap.size < w7.heap.size := by (have := b7.size; first | omega | (simp at this; omega))
  have s5_7 : w5.heap.size < w7.heap.size := by (have := b7.size; first | omega | (simp at this; omega))
  have x70 : w7.cell? ⟨w3.heap.size, 0, none⟩ = some (.int .i64 X) := by go_simp
  have x71 : w7.cell? ⟨w3.heap.size, 1, none⟩ = some (.int .i64 Y) := by go_simp
  have x72 : w7.cell? ⟨w3.heap.size, 2, none⟩ = some (.int .i64 Z) := by go_simp
  obtain ⟨y70, y71, y72, yo7⟩ := put3 (K := .int .i64 K) (L := .int .i64 L) (M := .int .i64 M) x70 x71 x72
  have p70 := (yo7 w.heap.size 0 (by omega)).trans (show w7.cell? ⟨w.heap.size, 0, none⟩ = some (.int .i64 y) by go_simp)
  have q70 := (yo7 (w.heap.size + 1) 0 (by omega)).trans (show w7.cell? ⟨w.heap.size + 1, 0, none⟩ = some (.int .i64 y') by go_simp)
  have p71 := (yo7 w.heap.size 1 (by omega)).trans (show w7.cell? ⟨w.heap.size, 1, none⟩ = some (.int .i64 m) by go_simp)
  have q71 := (yo7 (w.heap.size + 1) 1 (by omega)).trans (show w7.cell? ⟨w.heap.size + 1, 1, none⟩ = some (.int .i64 m') by go_simp)
  have p72 := (yo7 w.heap.size 2 (by omega)).trans (show w7.cell? ⟨w.heap.size, 2, none⟩ = some (.int .i64 d) by go_simp)
  have q72 := (yo7 (w.heap.size + 1) 2 (by omega)).trans (show w7.cell? ⟨w.heap.size + 1, 2, none⟩ = some (.int .i64 d') by go_simp)
  go_wp2_with fail
  refine (hD _  ?_).mono ?_
  · exact hA.below' (((k7.setCell (by first | omega | (simp; omega)) _).setCell (by first | omega | (simp; omega)) _).setCell (by first | omega | (simp; omega)) _)
  rintro e w8 ⟨rfl, b8⟩
  obtain ⟨hc8, hf8⟩ := bcell b8
  have z8 : w.heap.size + 1 < w8.heap.size := by (have := b8.size; first | omega | (simp at this; omega))
  have g8 : w.heap.size < w8.heap.size := by omega
  have k8 : Below w.heap.size w w8 := (((k7.setCell (by first | omega | (simp; omega)) _).setCell (by first | omega | (simp; omega)) _).setCell (by first | omega | (simp; omega)) _).trans (b8.mono (by first | exact Nat.le_refl _ | omega | (simp; done) | (simp; omega)))
  have s3_8 : w3.heap.size < w8.heap.size := by (have := b8.size; first | omega | (simp at this; omega))
  have s4_8 : w4.heap.size < w8.heap.size := by (have := b8.size; first | omega | (simp at this; omega))
  have s5_8 : w5.heap.size < w8.heap.size := by (have := b8.size; first | omega | (simp at this; omega))
  go_wp2_with fail
  refine (hG _ (hA.below' k8)).mono ?_
  rintro e w9 ⟨rfl, b9⟩
  obtain ⟨hc9, hf9⟩ := bcell b9
  have z9 : w.heap.size + 1 < w9.heap.size := by (have := b9.size; first | omega | (simp at this; omega))
  have g9 : w.heap.size < w9.heap.size := by omega
  have k9 : Below w.heap.size w w9 := k8.trans (b9.mono (by first | exact Nat.le_refl _ | omega | (simp; done) | (simp; omega)))
  have s3_9 : w3.heap.size < w9.heap.size := by (have := b9.size; first | omega | (simp at this; omega))
  have s4_9 : w4.heap.size < w9.heap.size := by (have := b9.size; first | omega | (simp at this; omega))
  have s5_9 : w5.heap.size < w9.heap.size := by (have := b9.size; first | omega | (simp at this; omega))
  go_wp2_with fail
  refine (hN _ (hA.below' k9)).mono ?_
  rintro e w10 ⟨rfl, b10⟩
  obtain ⟨hc10, hf10⟩ := bcell b10
  have z10 : w.heap.size + 1 < w10.heap.size := by (have := b10.size; first | omega | (simp at this; omega))
  have g10 : w.heap.size < w10.heap.size := by omega
  have k10 : Below w.heap.size w w10 := k9.trans (b10.mono (by first | exact Nat.le_refl _ | omega | (simp; done) | (simp; omega)))
  have s3_10 : w3.heap.size < w10.heap.size := by (have := b10.size; first | omega | (simp at this; omega))
  have s4_10 : w4.heap.size < w10.heap.size := by (have := b10.size; first | omega | (simp at this; omega))
  have s5_10 : w5.heap.size < w10.heap.size := by (have := b10.size; first | omega | (simp at this; omega))
  have x100 : w10.cell? ⟨w3.heap.size, 0, none⟩ = some (.int .i64 K) := by go_simp
  have x101 : w10.cell? ⟨w3.heap.size, 1, none⟩ = some (.int .i64 L) := by go_simp
  have x102 : w10.cell? ⟨w3.heap.size, 2, none⟩ = some (.int .i64 M) := by go_simp
  obtain ⟨y100, y101, y102, yo10⟩ := put3 (K := .int .i64 S) (L := .int .i64 T) (M := .int .i64 U) x100 x101 x102
  have p100 := (yo10 w.heap.size 0 (by omega)).trans (show w10.cell? ⟨w.heap.size, 0, none⟩ = some (.int .i64 y) by go_simp)
  have q100 := (yo10 (w.heap.size + 1) 0 (by omega)).trans (show w10.cell? ⟨w.heap.size + 1, 0, none⟩ = some (.int .i64 y') by go_simp)
  have p101 := (yo10 w.heap.size 1 (by omega)).trans (show w10.cell? ⟨w.heap.size, 1, none⟩ = some (.int .i64 m) by go_simp)
  have q101 := (yo10 (w.heap.size + 1) 1 (by omega)).trans (show w10.cell? ⟨w.heap.size + 1, 1, none⟩ = some (.int .i64 m') by go_simp)
  have p102 := (yo10 w.heap.size 2 (by omega)).trans (show w10.cell? ⟨w.heap.size, 2, none⟩ = some (.int .i64 d) by go_simp)
  have q102 := (yo10 (w.heap.size + 1) 2 (by omega)).trans (show w10.cell? ⟨w.heap.size + 1, 2, none⟩ = some (.int .i64 d') by go_simp)
  go_wp2_with fail
  refine (hO _  ?_).mono ?_
  · exact hA.below' (((k10.setCell (by first | omega | (simp; omega)) _).setCell (by first | omega | (simp; omega)) _).setCell (by first | omega | (simp; omega)) _)
  rintro e w11 ⟨rfl, b11⟩
  obtain ⟨hc11, hf11⟩ := bcell b11
  have z11 : w.heap.size + 1 < w11.heap.size := by (have := b11.size; first | omega | (simp at this; omega))
  have g11 : w.heap.size < w11.heap.size := by omega
  have k11 : Below w.heap.size w w11 := (((k10.setCell (by first | omega | (simp; omega)) _).setCell (by first | omega | (simp; omega)) _).setCell (by first | omega | (simp; omega)) _).trans (b11.mono (by first | exact Nat.le_refl _ | omega | (simp; done) | (simp; omega)))
  have s3_11 : w3.heap.size < w11.heap.size := by (have := b11.size; first | omega | (simp at this; omega))
  have s4_11 : w4.heap.size < w11.heap.size := by (have := b11.size; first | omega | (simp at this; omega))
  have s5_11 : w5.heap.size < w11.heap.size := by (have := b11.size; first | omega | (simp at this; omega))
  go_wp2_with fail
  refine (known_any _ (hT.out.below k11 (fun t ht => by have := tabs_four t ht; omega))).mono ?_
  rintro e w12 ⟨rfl, b12⟩
  obtain ⟨hc12, hf12⟩ := bcell b12
  have z12 : w.heap.size + 1 < w12.heap.size := by (have := b12.size; first | omega | (simp at this; omega))
  have g12 : w.heap.size < w12.heap.size := by omega
  have k12 : Below w.heap.size w w12 := k11.trans (b12.mono (by first | exact Nat.le_refl _ | omega | (simp; done) | (simp; omega)))
  have s3_12 : w3.heap.size < w12.heap.size := by (have := b12.size; first | omega | (simp at this; omega))
  have s4_12 : w4.heap.size < w12.heap.size := by (have := b12.size; first | omega | (simp at this; omega))
  have s5_12 : w5.heap.size < w12.heap.size := by (have := b12.size; first | omega | (simp at this; omega))
  go_wp2_with fail
  go_ret
  exact ⟨rfl, k12⟩
theorem parts_32 (y m d y' m' d' a n : Int) (w : World) (hA : Ahead w) (hT : Hid (TabsIn tabs w)) (h8 : 4 ≤ w.heap.size) (a1 : -32768 ≤ a) (a2 : a ≤ 32767) (n1 : -32768 ≤ n) (n2 : n ≤ 32767) (g1 : good y m d = true) (g2 : good y' m' d' = true) (X Y Z : Int) (hP : AddIs y m d a X Y Z 0) (h28 : d ≤ 28) (F G H E : Int) (hQ : AddIs X Y Z n F G H E) (hR : AddIs y m d (a + n) F G H E) (h0 : 0 ≤ a) (hS : SinceIs y m d X Y Z a 0 0) (k r K L M p : Int) (k1 : 0 ≤ k) (k2 : k ≤ 239987) (r1 : 0 ≤ r) (hU : SinceIs y m d y' m' d' k r 0) (hV : AddIs y m d k K L M 0) (hD : DayIs K L M p 0) (hG : DayIs y' m' d' (p + r) 0) (p1 : -10000000 ≤ p) (p2 : p + r ≤ 10000000) (S T U q : Int) (hN : AddIs y m d (k + 1) S T U 0) (hO : DayIs S T U q 0) (hq : p + r < q) :
    Calls Tryz.prog 12 #[.agg #[.int .i64 y, .int .i64 m, .int .i64 d], .agg #[.int .i64 y', .int .i64 m', .int .i64 d'], .int .i16 a, .int .i16 n] w fun e w' => e = .returned (.bool true) ∧ Below w.heap.size w w' := by
  go_enter Tryz.func12, Tryz.ntmps12
  have k0 : Below w.heap.size w ((w.alloc (.cells #[.int .i64 y, .int .i64 m, .int .i64 d] 23)).alloc (.cells #[.int .i64 y', .int .i64 m', .int .i64 d'] 23)) := ((Below.refl _ _).alloc (Nat.le_refl _) _).alloc (by simp) _
  go_wp2_with fail
  refine (good_yes g1 _).mono ?_
  rintro e w1 ⟨rfl, b1⟩
  obtain ⟨hc1, hf1⟩ := bcell b1
  have z1 : w.heap.size + 1 < w1.heap.size := by (have := b1.size; simp at this; omega)
  have g1 : w.heap.size < w1.heap.size := by omega
  have k1 : Below w.heap.size w w1 := k0.trans (b1.mono (by first | exact Nat.le_refl _ | omega | (simp; done) | (simp; omega)))
  go_wp2_with fail
  refine (good_yes g2 _).mono ?_
  rintro e w2 ⟨rfl, b2⟩
  obtain ⟨hc2, hf2⟩ := bcell b2
  have z2 : w.heap.size + 1 < w2.heap.size := by (have := b2.size; first | omega | (simp at this; omega))
  have g2 : w.heap.size < w2.heap.size := by omega
  have k2 : Below w.heap.size w w2 := k1.trans (b2.mono (by first | exact Nat.le_refl _ | omega | (simp; done) | (simp; omega)))
  go_wp2_with fail
  refine (hP _ (hA.below' k2)).mono ?_
  rintro e w3 ⟨rfl, b3⟩
  obtain ⟨hc3, hf3⟩ := bcell b3
  have z3 : w.heap.size + 1 < w3.heap.size := by (have := b3.size; first | omega | (simp at this; omega))
  have g3 : w.heap.size < w3.heap.size := by omega
  have k3 : Below w.heap.size w w3 := k2.trans (b3.mono (by first | exact Nat.le_refl _ | omega | (simp; done) | (simp; omega)))
  go_wp2_with fail
  refine (hQ _ (hA.below' (k3.alloc (by omega) _))).mono ?_
  rintro e w4 ⟨rfl, b4⟩
  obtain ⟨hc4, hf4⟩ := bcell b4
  have z4 : w.heap.size + 1 < w4.heap.size := by (have := b4.size; first | omega | (simp at this; omega))
  have g4 : w.heap.size < w4.heap.size := by omega
  have k4 : Below w.heap.size w w4 := (k3.alloc (by omega) _).trans (b4.mono (by first | exact Nat.le_refl _ | omega | (simp; done) | (simp; omega)))
  have s3_4 : w3.heap.size < w4.heap.size := by (have := b4.size; first | omega | (simp at this; omega))
  go_wp2_with fail
  refine (hR _ (hA.below' (k4.alloc (by omega) _))).mono ?_
  rintro e w5 ⟨rfl, b5⟩
  obtain ⟨hc5, hf5⟩ := bcell b5
  have z5 : w.heap.size + 1 < w5.heap.size := by (have := b5.size; first | omega | (simp at this; omega))
  have g5 : w.heap.size < w5.heap.size := by omega
  have k5 : Below w.heap.size w w5 := (k4.alloc (by omega) _).trans (b5.mono (by first | exact Nat.le_refl _ | omega | (simp; done) | (simp; omega)))
  have s3_5 : w3.heap.size < w5.heap.size := by (have := b5.size; first | omega | (simp at this; omega))
  have s4_5 : w4.heap.size < w5.heap.size := by (have := b5.size; first | omega | (simp at this; omega))
  go_wp2_with fail
  refine (hS _ (hA.below' (k5.alloc (by omega) _))).mono ?_
  rintro e w6 ⟨rfl, b6⟩
  obtain ⟨hc6, hf6⟩ := bcell b6
  have z6 : w.heap.size + 1 < w6.heap.size := by (have := b6.size; first | omega | (simp at this; omega))
  have g6 : w.heap.size < w6.heap.size := by omega
  have k6 : Below w.heap.size w w6 := (k5.alloc (by omega) _).trans (b6.mono (by first | exact Nat.le_refl _ | omega | (simp; done) | (simp; omega)))
  have s3_6 : w3.heap.size < w6.heap.size := by (have := b6.size; first | omega | (simp at this; omega))
  have s4_6 : w4.heap.size < w6.heap.size := by (have := b6.size; first | omega | (simp at this; omega))
  have s5_6 : w5.heap.size < w6.heap.size := by (have := b6.size; first | omega | (simp at this; omega))
  go_wp2_with fail
  refine (hU _ (hA.below' k6)).mono ?_
  rintro e w7 ⟨rfl, b7⟩
  obtain ⟨hc7, hf7⟩ := bcell b7
  have z7 : w.heap.size + 1 < w7.heap.size := by (have := b7.size; first | omega | (simp at this; omega))
  have g7 : w.heap.size < w7.heap.size := by omega
  have k7 : Below w.heap.size w w7 := k6.trans (b7.mono (by first | exact Nat.le_refl _ | omega | (simp; done) | (simp; omega)))
  have s3_7 : w3.heap.size < w7.heap.size := by (have := b7.size; first | omega | (simp at this; omega))
  have s4_7 : w4.heap.size < w7.heap.size := by (have := b7.size; first | omega | (simp at this; omega))
  have s5_7 : w5.heap.size < w7.heap.size := by (have := b7.size; first | omega | (simp at this; omega))
  go_wp2_with fail
  refine (hV _ (hA.below' k7)).mono ?_
  rintro e w8 ⟨rfl, b8⟩
  obtain ⟨hc8, hf8⟩ := bcell b8
  have z8 : w.heap.size + 1 < w8.heap.size := by (have := b8.size; first | omega | (simp at this; omega))
  have g8 : w.heap.size < w8.heap.size := by omega
  have k8 : Below w.heap.size w w8 := k7.trans (b8.mono (by first | exact Nat.le_refl _ | omega | (simp; done) | (simp; omega)))
  have s3_8 : w3.heap.size < w8.heap.size := by (have := b8.size; first | omega | (simp at this; omega))
  have s4_8 : w4.heap.size < w8.heap.size := by (have := b8.size; first | omega | (simp at this; omega))
  have s5_8 : w5.heap.size < w8.heap.size := by (have := b8.size; first | omega | (simp at this; omega))
  have x80 : w8.cell? ⟨w3.heap.size, 0, none⟩ = some (.int .i64 X) := by go_simp
  have x81 : w8.cell? ⟨w3.heap.size, 1, none⟩ = some (.int .i64 Y) := by go_simp
  have x82 : w8.cell? ⟨w3.heap.size, 2, none⟩ = some (.int .i64 Z) := by go_simp
  obtain ⟨y80, y81, y82, yo8⟩ := put3 (K := .int .i64 K) (L := .int .i64 L) (M := .int .i64 M) x80 x81 x82
  have p80 := (yo8 w.heap.size 0 (by omega)).trans (show w8.cell? ⟨w.heap.size, 0, none⟩ = some (.int .i64 y) by go_simp)
  have q80 := (yo8 (w.heap.size + 1) 0 (by omega)).trans (show w8.cell? ⟨w.heap.size + 1, 0, none⟩ = some (.int .i64 y') by go_simp)
  have p81 := (yo8 w.heap.size 1 (by omega)).trans (show w8.cell? ⟨w.heap.size, 1, none⟩ = some (.int .i64 m) by go_simp)
  have q81 := (yo8 (w.heap.size + 1) 1 (by omega)).trans (show w8.cell? ⟨w.heap.size + 1, 1, none⟩ = some (.int .i64 m') by go_simp)
  have p82 := (yo8 w.heap.size 2 (by omega)).trans (show w8.cell? ⟨w.heap.size, 2, none⟩ = some (.int .i64 d) by go_simp)
  have q82 := (yo8 (w.heap.size + 1) 2 (by omega)).trans (show w8.cell? ⟨w.heap.size + 1, 2, none⟩ = some (.int .i64 d') by go_simp)
  go_wp2_with fail
  refine (hD _  ?_).mono ?_
  · exact hA.below' (((k8.setCell (by first | omega | (simp; omega)) _).setCell (by first | omega | (simp; omega)) _).setCell (by first | omega | (simp; omega)) _)
  rintro e w9 ⟨rfl, b9⟩
  obtain ⟨hc9, hf9⟩ := bcell b9
  have z9 : w.heap.size + 1 < w9.heap.size := by (have := b9.size; first | omega | (simp at this; omega))
  have g9 : w.heap.size < w9.heap.size := by omega
  have k9 : Below w.heap.size w w9 := (((k8.setCell (by first | omega | (simp; omega)) _).setCell (by first | omega | (simp; omega)) _).setCell (by first | omega | (simp; omega)) _).trans (b9.mono (by first | exact Nat.le_refl _ | omega | (simp; done) | (simp; omega)))
  have s3_9 : w3.heap.size < w9.heap.size := by (have := b9.size; first | omega | (simp at this; omega))
  have s4_9 : w4.heap.size < w9.heap.size := by (have := b9.size; first | omega | (simp at this; omega))
  have s5_9 : w5.heap.size < w9.heap.size := by (have := b9.size; first | omega | (simp at this; omega))
  go_wp2_with fail
  refine (hG _ (hA.below' k9)).mono ?_
  rintro e w10 ⟨rfl, b10⟩
  obtain ⟨hc10, hf10⟩ := bcell b10
  have z10 : w.heap.size + 1 < w10.heap.size := by (have := b10.size; first | omega | (simp at this; omega))
  have g10 : w.heap.size < w10.heap.size := by omega
  have k10 : Below w.heap.size w w10 := k9.trans (b10.mono (by first | exact Nat.le_refl _ | omega | (simp; done) | (simp; omega)))
  have s3_10 : w3.heap.size < w10.heap.size := by (have := b10.size; first | omega | (simp at this; omega))
  have s4_10 : w4.heap.size < w10.heap.size := by (have := b10.size; first | omega | (simp at this; omega))
  have s5_10 : w5.heap.size < w10.heap.size := by (have := b10.size; first | omega | (simp at this; omega))
  go_wp2_with fail
  refine (hN _ (hA.below' k10)).mono ?_
  rintro e w11 ⟨rfl, b11⟩
  obtain ⟨hc11, hf11⟩ := bcell b11
  have z11 : w.heap.size + 1 < w11.heap.size := by (have := b11.size; first | omega | (simp at this; omega))
  have g11 : w.heap.size < w11.heap.size := by omega
  have k11 : Below w.heap.size w w11 := k10.trans (b11.mono (by first | exact Nat.le_refl _ | omega | (simp; done) | (simp; omega)))
  have s3_11 : w3.heap.size < w11.heap.size := by (have := b11.size; first | omega | (simp at this; omega))
  have s4_11 : w4.heap.size < w11.heap.size := by (have := b11.size; first | omega | (simp at this; omega))
  have s5_11 : w5.heap.size < w11.heap.size := by (have := b11.size; first | omega | (simp at this; omega))
  have x110 : w11.cell? ⟨w3.heap.size, 0, none⟩ = some (.int .i64 K) := by go_simp
  have x111 : w11.cell? ⟨w3.heap.size, 1, none⟩ = some (.int .i64 L) := by go_simp
  have x112 : w11.cell? ⟨w3.heap.size, 2, none⟩ = some (.int .i64 M) := by go_simp
  obtain ⟨y110, y111, y112, yo11⟩ := put3 (K := .int .i64 S) (L := .int .i64 T) (M := .int .i64 U) x110 x111 x112
  have p110 := (yo11 w.heap.size 0 (by omega)).trans (show w11.cell? ⟨w.heap.size, 0, none⟩ = some (.int .i64 y) by go_simp)
  have q110 := (yo11 (w.heap.size + 1) 0 (by omega)).trans (show w11.cell? ⟨w.heap.size + 1, 0, none⟩ = some (.int .i64 y') by go_simp)
  have p111 := (yo11 w.heap.size 1 (by omega)).trans (show w11.cell? ⟨w.heap.size, 1, none⟩ = some (.int .i64 m) by go_simp)
  have q111 := (yo11 (w.heap.size + 1) 1 (by omega)).trans (show w11.cell? ⟨w.heap.size + 1, 1, none⟩ = some (.int .i64 m') by go_simp)
  have p112 := (yo11 w.heap.size 2 (by omega)).trans (show w11.cell? ⟨w.heap.size, 2, none⟩ = some (.int .i64 d) by go_simp)
  have q112 := (yo11 (w.heap.size + 1) 2 (by omega)).trans (show w11.cell? ⟨w.heap.size + 1, 2, none⟩ = some (.int .i64 d') by go_simp)
  go_wp2_with fail
  refine (hO _  ?_).mono ?_
  · exact hA.below' (((k11.setCell (by first | omega | (simp; omega)) _).setCell (by first | omega | (simp; omega)) _).setCell (by first | omega | (simp; omega)) _)
  rintro e w12 ⟨rfl, b12⟩
  obtain ⟨hc12, hf12⟩ := bcell b12
  have z12 : w.heap.size + 1 < w12.heap.size := by (have := b12.size; first | omega | (simp at this; omega))
  have g12 : w.heap.size < w12.heap.size := by omega
  have k12 : Below w.heap.size w w12 := (((k11.setCell (by first | omega | (simp; omega)) _).setCell (by first | omega | (simp; omega)) _).setCell (by first | omega | (simp; omega)) _).trans (b12.mono (by first | exact Nat.le_refl _ | omega | (simp; done) | (simp; omega)))
  have s3_12 : w3.heap.size < w12.heap.size := by (have := b12.size; first | omega | (simp at this; omega))
  have s4_12 : w4.heap.size < w12.heap.size := by (have := b12.size; first | omega | (simp at this; omega))
  have s5_12 : w5.heap.size < w12.heap.size := by (have := b12.size; first | omega | (simp at this; omega))
  go_wp2_with fail
  refine (known_any _ (hT.out.below k12 (fun t ht => by have := tabs_four t ht; omega))).mono ?_
  rintro e w13 ⟨rfl, b13⟩
  obtain ⟨hc13, hf13⟩ := bcell b13
  have z13 : w.heap.size + 1 < w13.heap.size := by (have := b13.size; first | omega | (simp at this; omega))
  have g13 : w.heap.size < w13.heap.size := by omega
  have k13 : Below w.heap.size w w13 := k12.trans (b13.mono (by first | exact Nat.le_refl _ | omega | (simp; done) | (simp; omega)))
  have s3_13 : w3.heap.size < w13.heap.size := by (have := b13.size; first | omega | (simp at this; omega))
  have s4_13 : w4.heap.size < w13.heap.size := by (have := b13.size; first | omega | (simp at this; omega))
  have s5_13 : w5.heap.size < w13.heap.size := by (have := b13.size; first | omega | (simp at this; omega))
  go_wp2_with fail
  go_ret
  exact ⟨rfl, k13⟩
end Go.Proofs.YthdjebomeibngaaGreatDoor
