/- The seat: DateFollows, where 400 years later is a day. -/
import Derived.Test.YthdjebomeibngaaGreatDoorSeatFc
namespace Go.Proofs.YthdjebomeibngaaGreatDoor
open Go Go.RowKit Go.DayM Go.Ev
set_option maxRecDepth 100000
set_option maxHeartbeats 4000000
abbrev BothIn (w : World) (B C : Nat) (y m d : Int) (w' : World) : Prop := w'.cell? ⟨B, 0, none⟩ = some (.int .i64 y) ∧ w'.cell? ⟨B, 1, none⟩ = some (.int .i64 m) ∧ w'.cell? ⟨B, 2, none⟩ = some (.int .i64 d) ∧ w'.cell? ⟨C, 0, none⟩ = some (.int .i64 (y + 400)) ∧ w'.cell? ⟨C, 1, none⟩ = some (.int .i64 m) ∧ w'.cell? ⟨C, 2, none⟩ = some (.int .i64 d) ∧ B < w'.heap.size ∧ C < w'.heap.size ∧ w.heap.size ≤ w'.heap.size ∧ Below w.heap.size w w'
theorem bothin_below {a b c d e f g h k : Prop} {B : Nat} {w w' : World} (x : a ∧ b ∧ c ∧ d ∧ e ∧ f ∧ g ∧ h ∧ k ∧ Below B w w') : Below B w w' := x.2.2.2.2.2.2.2.2.2
theorem bothin_le {a b c d e f g h k : Prop} {n m : Nat} (x : a ∧ b ∧ c ∧ d ∧ e ∧ f ∧ g ∧ h ∧ n ≤ m ∧ k) : n ≤ m := x.2.2.2.2.2.2.2.2.1
theorem follows_all (n y m d v y1 m1 d1 Y K _Y2 _L2 : Int) (w : World) (hA : Ahead w) (hT : Hid (TabsIn tabs w)) (h8 : 4 ≤ w.heap.size) (n1 : -4382544 ≤ n) (n2 : n ≤ 2921939) (v0 : 0 ≤ v) (v6 : v ≤ 6) (hC : ∀ w, Ahead w → Calls Tryz.prog 20 #[.int .i64 (n)] w fun e w' => e = .returned (.tuple #[.agg #[.int .i64 y, .int .i64 m, .int .i64 d], .int .i64 0]) ∧ Below w.heap.size w w') (hD : ∀ w, Ahead w → Calls Tryz.prog 19 #[.agg #[.int .i64 y, .int .i64 m, .int .i64 d]] w fun e w' => e = .returned (.tuple #[.int .i64 n, .int .i64 0]) ∧ Below w.heap.size w w') (hW : ∀ w, Calls Tryz.prog 21 #[.int .i64 (n)] w fun e w' => e = .returned (.tuple #[.int .i64 v, .int .i64 0]) ∧ w = w') (hG : ∀ w, Calls Tryz.prog 65 #[.agg #[.int .i64 y, .int .i64 m, .int .i64 d]] w fun e w' => e = .returned (.bool true) ∧ Below w.heap.size w w') (yb : -9999 ≤ y) (yb2 : y ≤ 9999) (v5 : v < 6) (h1C : ∀ w, Ahead w → Calls Tryz.prog 20 #[.int .i64 (n + 1)] w fun e w' => e = .returned (.tuple #[.agg #[.int .i64 y1, .int .i64 m1, .int .i64 d1], .int .i64 0]) ∧ Below w.heap.size w w') (h1W : ∀ w, Calls Tryz.prog 21 #[.int .i64 (n + 1)] w fun e w' => e = .returned (.tuple #[.int .i64 ((v + 1) % 7), .int .i64 0]) ∧ w = w') (hF : ∀ w, Calls Tryz.prog 66 #[.agg #[.int .i64 y, .int .i64 m, .int .i64 d], .agg #[.int .i64 y1, .int .i64 m1, .int .i64 d1]] w fun e w' => e = .returned (.bool true) ∧ Below w.heap.size w w') (h4C : ∀ w, Ahead w → Calls Tryz.prog 20 #[.int .i64 (n + 146097)] w fun e w' => e = .returned (.tuple #[.agg #[.int .i64 (y + 400), .int .i64 m, .int .i64 d], .int .i64 0]) ∧ Below w.heap.size w w') (h4W : ∀ w, Calls Tryz.prog 21 #[.int .i64 (n + 146097)] w fun e w' => e = .returned (.tuple #[.int .i64 v, .int .i64 0]) ∧ w = w') (K0 : 1 ≤ K) (K1 : K ≤ 53) (hK : ∀ w, Ahead w → Calls Tryz.prog 26 #[.int .i64 (n)] w fun e w' => e = .returned (.tuple #[.agg #[.int .i64 Y, .int .i64 K, .int .i64 v], .int .i64 0]) ∧ Below w.heap.size w w') (hO : ∀ w, Ahead w → Calls Tryz.prog 27 #[.agg #[.int .i64 Y, .int .i64 K, .int .i64 v]] w fun e w' => e = .returned (.tuple #[.int .i64 n, .int .i64 0]) ∧ Below w.heap.size w w') (hK1 : ∀ w, Ahead w → Calls Tryz.prog 26 #[.int .i64 (n + 1)] w fun e w' => e = .returned (.tuple #[.agg #[.int .i64 Y, .int .i64 K, .int .i64 (v + 1)], .int .i64 0]) ∧ Below w.heap.size w w') :
    Calls Tryz.prog 11 #[.int .i64 n] w fun e w' => e = .returned (.bool true) ∧ Below w.heap.size w w' := by
  go_enter Tryz.func11, Tryz.ntmps11
  go_wp2_with fail
  refine (hC _ (hA.below' (Below.refl _ _))).mono ?_
  rintro e w1 ⟨rfl, b1⟩
  obtain ⟨hc1, hf1⟩ := bcell b1
  have z1 : w.heap.size ≤ w1.heap.size := by (have := b1.size; first | omega | (simp at this; omega))
  have k1 : Below w.heap.size w w1 := (Below.refl _ _).trans (b1.mono (by first | exact Nat.le_refl _ | omega | (simp; done) | (simp; omega)))
  have g1 : w.heap.size ≤ w1.heap.size := by omega
  go_wp2_with fail
  refine (hD _ (hA.below' (k1.alloc (by omega) _))).mono ?_
  rintro e w2 ⟨rfl, b2⟩
  obtain ⟨hc2, hf2⟩ := bcell b2
  have z2 : w1.heap.size < w2.heap.size := by (have := b2.size; first | omega | (simp at this; omega))
  have k2 : Below w.heap.size w w2 := (k1.alloc (by omega) _).trans (b2.mono (by first | exact Nat.le_refl _ | omega | (simp; done) | (simp; omega)))
  have s1_2 : w1.heap.size < w2.heap.size := by omega
  have g2 : w.heap.size ≤ w2.heap.size := by omega
  go_wp2_with fail
  refine (hW _).mono ?_
  rintro e w' ⟨rfl, rfl⟩
  go_wp2_with fail
  refine (hG _).mono ?_
  rintro e w3 ⟨rfl, b3⟩
  obtain ⟨hc3, hf3⟩ := bcell b3
  have z3 : w2.heap.size ≤ w3.heap.size := by (have := b3.size; first | omega | (simp at this; omega))
  have k3 : Below w.heap.size w w3 := k2.trans (b3.mono (by first | exact Nat.le_refl _ | omega | (simp; done) | (simp; omega)))
  have s1_3 : w1.heap.size < w3.heap.size := by omega
  have g3 : w.heap.size ≤ w3.heap.size := by omega
  go_wp2_with fail
  refine (h1C _ (hA.below' k3)).mono ?_
  rintro e w4 ⟨rfl, b4⟩
  obtain ⟨hc4, hf4⟩ := bcell b4
  have z4 : w3.heap.size ≤ w4.heap.size := by (have := b4.size; first | omega | (simp at this; omega))
  have k4 : Below w.heap.size w w4 := k3.trans (b4.mono (by first | exact Nat.le_refl _ | omega | (simp; done) | (simp; omega)))
  have s1_4 : w1.heap.size < w4.heap.size := by omega
  have g4 : w.heap.size ≤ w4.heap.size := by omega
  go_wp2_with fail
  refine (h1W _).mono ?_
  rintro e w' ⟨rfl, rfl⟩
  go_wp2_with fail
  refine (hF _).mono ?_
  rintro e w5 ⟨rfl, b5⟩
  obtain ⟨hc5, hf5⟩ := bcell b5
  have z5 : w4.heap.size < w5.heap.size := by (have := b5.size; first | omega | (simp at this; omega))
  have k5 : Below w.heap.size w w5 := (k4.alloc (by omega) _).trans (b5.mono (by first | exact Nat.le_refl _ | omega | (simp; done) | (simp; omega)))
  have s1_5 : w1.heap.size < w5.heap.size := by omega
  have s4_5 : w4.heap.size < w5.heap.size := by omega
  have g5 : w.heap.size ≤ w5.heap.size := by omega
  go_wp2_with fail
  refine (h4C _ (hA.below' k5)).mono ?_
  rintro e w6 ⟨rfl, b6⟩
  obtain ⟨hc6, hf6⟩ := bcell b6
  have z6 : w5.heap.size ≤ w6.heap.size := by (have := b6.size; first | omega | (simp at this; omega))
  have k6 : Below w.heap.size w w6 := k5.trans (b6.mono (by first | exact Nat.le_refl _ | omega | (simp; done) | (simp; omega)))
  have s1_6 : w1.heap.size < w6.heap.size := by omega
  have s4_6 : w4.heap.size < w6.heap.size := by omega
  have g6 : w.heap.size ≤ w6.heap.size := by omega
  go_wp2_with fail
  refine (h4W _).mono ?_
  rintro e w' ⟨rfl, rfl⟩
  go_wp2
  have a0 : (w6.alloc (.cells #[.int .i64 (y + 400), .int .i64 m, .int .i64 d] 23)).cell? ⟨w1.heap.size, 0, none⟩ = some (.int .i64 y) := by go_simp
  have a1 : (w6.alloc (.cells #[.int .i64 (y + 400), .int .i64 m, .int .i64 d] 23)).cell? ⟨w1.heap.size, 1, none⟩ = some (.int .i64 m) := by go_simp
  have a2 : (w6.alloc (.cells #[.int .i64 (y + 400), .int .i64 m, .int .i64 d] 23)).cell? ⟨w1.heap.size, 2, none⟩ = some (.int .i64 d) := by go_simp
  have c0 : (w6.alloc (.cells #[.int .i64 (y + 400), .int .i64 m, .int .i64 d] 23)).cell? ⟨w6.heap.size, 0, none⟩ = some (.int .i64 (y + 400)) := by go_simp
  have c1 : (w6.alloc (.cells #[.int .i64 (y + 400), .int .i64 m, .int .i64 d] 23)).cell? ⟨w6.heap.size, 1, none⟩ = some (.int .i64 m) := by go_simp
  have c2 : (w6.alloc (.cells #[.int .i64 (y + 400), .int .i64 m, .int .i64 d] 23)).cell? ⟨w6.heap.size, 2, none⟩ = some (.int .i64 d) := by go_simp
  have u1 : w1.heap.size < (w6.alloc (.cells #[.int .i64 (y + 400), .int .i64 m, .int .i64 d] 23)).heap.size := by simp; omega
  have u3 : w6.heap.size < (w6.alloc (.cells #[.int .i64 (y + 400), .int .i64 m, .int .i64 d] 23)).heap.size := by simp
  have u2 : w.heap.size ≤ (w6.alloc (.cells #[.int .i64 (y + 400), .int .i64 m, .int .i64 d] 23)).heap.size := by simp; omega
  have kk : Below w.heap.size w (w6.alloc (.cells #[.int .i64 (y + 400), .int .i64 m, .int .i64 d] 23)) := (k6.alloc (by omega) _)
  clear hc1 hf1 b1 hc2 hf2 b2 hc3 hf3 b3 hc4 hf4 b4 hc5 hf5 b5 hc6 hf6 b6
  generalize w6.alloc (.cells #[.int .i64 (y + 400), .int .i64 m, .int .i64 d] 23) = W5 at *
  generalize w1.heap.size = B at *
  generalize w6.heap.size = C at *
  have sw : IntKind.i64.wrap (y + 400) = y + 400 := IntWalk.i64_in _ (by omega)
  go_region_held3 (BothIn w B C y m d)
    ((refine ⟨?_, ?_, ?_, ?_, ?_, ?_, ?_, ?_, ?_, ?_⟩ <;> (first | go_keep | omega | assumption | exact Below.drew (by assumption) | (rw [hcc _ _ (by first | exact u1 | exact u2 | exact u3 | omega)]; first | exact a0 | exact a1 | exact a2 | exact c0 | exact c1 | exact c2 | go_keep) | (have := hb.size; omega) | exact Below.trans (by first | assumption | exact bothin_below (by assumption) | exact Below.drew (by assumption)) (Below.mono (by assumption) (by first | omega | (simp; omega))))))
    (first | (go_at_call 67; refine (civilL_any _ _ _ _).mono ?_; rintro e w' ⟨rfl, hb⟩; have hbW : Below w.heap.size w w' := Below.trans (by first | assumption | exact bothin_below (by assumption) | exact Below.drew (by assumption)) (hb.mono (by first | omega | (simp; done) | (simp; omega) | exact bothin_le (by assumption))); obtain ⟨hcc, hff⟩ := bcell hb))
  have hS : BothIn w B C y m d w' := by assumption
  obtain ⟨_, _, _, _, _, _, _, _, g', k'⟩ := hS
  go_wp2_with fail
  refine (hK _ (hA.below' k')).mono ?_
  rintro e w7 ⟨rfl, b7⟩
  obtain ⟨hc7, hf7⟩ := bcell b7
  have z7 : w'.heap.size ≤ w7.heap.size := by (have := b7.size; first | omega | (simp at this; omega))
  have k7 : Below w.heap.size w w7 := k'.trans (b7.mono (by first | exact Nat.le_refl _ | omega | (simp; done) | (simp; omega)))
  have g7 : w.heap.size ≤ w7.heap.size := by omega
  go_wp2_with fail
  refine (hO _ (hA.below' (k7.alloc (by omega) _))).mono ?_
  rintro e w8 ⟨rfl, b8⟩
  obtain ⟨hc8, hf8⟩ := bcell b8
  have z8 : w7.heap.size < w8.heap.size := by (have := b8.size; first | omega | (simp at this; omega))
  have k8 : Below w.heap.size w w8 := (k7.alloc (by omega) _).trans (b8.mono (by first | exact Nat.le_refl _ | omega | (simp; done) | (simp; omega)))
  have s7_8 : w7.heap.size < w8.heap.size := by omega
  have g8 : w.heap.size ≤ w8.heap.size := by omega
  go_wp2_with fail
  refine (hK1 _ (hA.below' k8)).mono ?_
  rintro e w9 ⟨rfl, b9⟩
  obtain ⟨hc9, hf9⟩ := bcell b9
  have z9 : w8.heap.size ≤ w9.heap.size := by (have := b9.size; first | omega | (simp at this; omega))
  have k9 : Below w.heap.size w w9 := k8.trans (b9.mono (by first | exact Nat.le_refl _ | omega | (simp; done) | (simp; omega)))
  have s7_9 : w7.heap.size < w9.heap.size := by omega
  have g9 : w.heap.size ≤ w9.heap.size := by omega
  go_wp2_with fail
  refine (known_any _ (hT.out.below (k9.alloc (by omega) _) (fun t ht => by have := tabs_four t ht; omega))).mono ?_
  rintro e w10 ⟨rfl, b10⟩
  obtain ⟨hc10, hf10⟩ := bcell b10
  have z10 : w9.heap.size < w10.heap.size := by (have := b10.size; first | omega | (simp at this; omega))
  have k10 : Below w.heap.size w w10 := (k9.alloc (by omega) _).trans (b10.mono (by first | exact Nat.le_refl _ | omega | (simp; done) | (simp; omega)))
  have s7_10 : w7.heap.size < w10.heap.size := by omega
  have s9_10 : w9.heap.size < w10.heap.size := by omega
  have g10 : w.heap.size ≤ w10.heap.size := by omega
  go_wp2_with fail
  go_ret
  exact ⟨rfl, k10⟩
theorem follows_all_sunday (n y m d y1 m1 d1 Y K Y2 L2 : Int) (w : World) (hA : Ahead w) (hT : Hid (TabsIn tabs w)) (h8 : 4 ≤ w.heap.size) (n1 : -4382544 ≤ n) (n2 : n ≤ 2921939)  (hC : ∀ w, Ahead w → Calls Tryz.prog 20 #[.int .i64 (n)] w fun e w' => e = .returned (.tuple #[.agg #[.int .i64 y, .int .i64 m, .int .i64 d], .int .i64 0]) ∧ Below w.heap.size w w') (hD : ∀ w, Ahead w → Calls Tryz.prog 19 #[.agg #[.int .i64 y, .int .i64 m, .int .i64 d]] w fun e w' => e = .returned (.tuple #[.int .i64 n, .int .i64 0]) ∧ Below w.heap.size w w') (hW : ∀ w, Calls Tryz.prog 21 #[.int .i64 (n)] w fun e w' => e = .returned (.tuple #[.int .i64 6, .int .i64 0]) ∧ w = w') (hG : ∀ w, Calls Tryz.prog 65 #[.agg #[.int .i64 y, .int .i64 m, .int .i64 d]] w fun e w' => e = .returned (.bool true) ∧ Below w.heap.size w w') (yb : -9999 ≤ y) (yb2 : y ≤ 9999)  (h1C : ∀ w, Ahead w → Calls Tryz.prog 20 #[.int .i64 (n + 1)] w fun e w' => e = .returned (.tuple #[.agg #[.int .i64 y1, .int .i64 m1, .int .i64 d1], .int .i64 0]) ∧ Below w.heap.size w w') (h1W : ∀ w, Calls Tryz.prog 21 #[.int .i64 (n + 1)] w fun e w' => e = .returned (.tuple #[.int .i64 0, .int .i64 0]) ∧ w = w') (hF : ∀ w, Calls Tryz.prog 66 #[.agg #[.int .i64 y, .int .i64 m, .int .i64 d], .agg #[.int .i64 y1, .int .i64 m1, .int .i64 d1]] w fun e w' => e = .returned (.bool true) ∧ Below w.heap.size w w') (h4C : ∀ w, Ahead w → Calls Tryz.prog 20 #[.int .i64 (n + 146097)] w fun e w' => e = .returned (.tuple #[.agg #[.int .i64 (y + 400), .int .i64 m, .int .i64 d], .int .i64 0]) ∧ Below w.heap.size w w') (h4W : ∀ w, Calls Tryz.prog 21 #[.int .i64 (n + 146097)] w fun e w' => e = .returned (.tuple #[.int .i64 6, .int .i64 0]) ∧ w = w') (K0 : 1 ≤ K) (K1 : K ≤ 53) (hK : ∀ w, Ahead w → Calls Tryz.prog 26 #[.int .i64 (n)] w fun e w' => e = .returned (.tuple #[.agg #[.int .i64 Y, .int .i64 K, .int .i64 6], .int .i64 0]) ∧ Below w.heap.size w w') (hO : ∀ w, Ahead w → Calls Tryz.prog 27 #[.agg #[.int .i64 Y, .int .i64 K, .int .i64 6]] w fun e w' => e = .returned (.tuple #[.int .i64 n, .int .i64 0]) ∧ Below w.heap.size w w') (hK1 : ∀ w, Ahead w → Calls Tryz.prog 26 #[.int .i64 (n + 1)] w fun e w' => e = .returned (.tuple #[.agg #[.int .i64 Y2, .int .i64 L2, .int .i64 0], .int .i64 0]) ∧ Below w.heap.size w w') :
    Calls Tryz.prog 11 #[.int .i64 n] w fun e w' => e = .returned (.bool true) ∧ Below w.heap.size w w' := by
  go_enter Tryz.func11, Tryz.ntmps11
  go_wp2_with fail
  refine (hC _ (hA.below' (Below.refl _ _))).mono ?_
  rintro e w1 ⟨rfl, b1⟩
  obtain ⟨hc1, hf1⟩ := bcell b1
  have z1 : w.heap.size ≤ w1.heap.size := by (have := b1.size; first | omega | (simp at this; omega))
  have k1 : Below w.heap.size w w1 := (Below.refl _ _).trans (b1.mono (by first | exact Nat.le_refl _ | omega | (simp; done) | (simp; omega)))
  have g1 : w.heap.size ≤ w1.heap.size := by omega
  go_wp2_with fail
  refine (hD _ (hA.below' (k1.alloc (by omega) _))).mono ?_
  rintro e w2 ⟨rfl, b2⟩
  obtain ⟨hc2, hf2⟩ := bcell b2
  have z2 : w1.heap.size < w2.heap.size := by (have := b2.size; first | omega | (simp at this; omega))
  have k2 : Below w.heap.size w w2 := (k1.alloc (by omega) _).trans (b2.mono (by first | exact Nat.le_refl _ | omega | (simp; done) | (simp; omega)))
  have s1_2 : w1.heap.size < w2.heap.size := by omega
  have g2 : w.heap.size ≤ w2.heap.size := by omega
  go_wp2_with fail
  refine (hW _).mono ?_
  rintro e w' ⟨rfl, rfl⟩
  go_wp2_with fail
  refine (hG _).mono ?_
  rintro e w3 ⟨rfl, b3⟩
  obtain ⟨hc3, hf3⟩ := bcell b3
  have z3 : w2.heap.size ≤ w3.heap.size := by (have := b3.size; first | omega | (simp at this; omega))
  have k3 : Below w.heap.size w w3 := k2.trans (b3.mono (by first | exact Nat.le_refl _ | omega | (simp; done) | (simp; omega)))
  have s1_3 : w1.heap.size < w3.heap.size := by omega
  have g3 : w.heap.size ≤ w3.heap.size := by omega
  go_wp2_with fail
  refine (h1C _ (hA.below' k3)).mono ?_
  rintro e w4 ⟨rfl, b4⟩
  obtain ⟨hc4, hf4⟩ := bcell b4
  have z4 : w3.heap.size ≤ w4.heap.size := by (have := b4.size; first | omega | (simp at this; omega))
  have k4 : Below w.heap.size w w4 := k3.trans (b4.mono (by first | exact Nat.le_refl _ | omega | (simp; done) | (simp; omega)))
  have s1_4 : w1.heap.size < w4.heap.size := by omega
  have g4 : w.heap.size ≤ w4.heap.size := by omega
  go_wp2_with fail
  refine (h1W _).mono ?_
  rintro e w' ⟨rfl, rfl⟩
  go_wp2_with fail
  refine (hF _).mono ?_
  rintro e w5 ⟨rfl, b5⟩
  obtain ⟨hc5, hf5⟩ := bcell b5
  have z5 : w4.heap.size < w5.heap.size := by (have := b5.size; first | omega | (simp at this; omega))
  have k5 : Below w.heap.size w w5 := (k4.alloc (by omega) _).trans (b5.mono (by first | exact Nat.le_refl _ | omega | (simp; done) | (simp; omega)))
  have s1_5 : w1.heap.size < w5.heap.size := by omega
  have s4_5 : w4.heap.size < w5.heap.size := by omega
  have g5 : w.heap.size ≤ w5.heap.size := by omega
  go_wp2_with fail
  refine (h4C _ (hA.below' k5)).mono ?_
  rintro e w6 ⟨rfl, b6⟩
  obtain ⟨hc6, hf6⟩ := bcell b6
  have z6 : w5.heap.size ≤ w6.heap.size := by (have := b6.size; first | omega | (simp at this; omega))
  have k6 : Below w.heap.size w w6 := k5.trans (b6.mono (by first | exact Nat.le_refl _ | omega | (simp; done) | (simp; omega)))
  have s1_6 : w1.heap.size < w6.heap.size := by omega
  have s4_6 : w4.heap.size < w6.heap.size := by omega
  have g6 : w.heap.size ≤ w6.heap.size := by omega
  go_wp2_with fail
  refine (h4W _).mono ?_
  rintro e w' ⟨rfl, rfl⟩
  go_wp2
  have a0 : (w6.alloc (.cells #[.int .i64 (y + 400), .int .i64 m, .int .i64 d] 23)).cell? ⟨w1.heap.size, 0, none⟩ = some (.int .i64 y) := by go_simp
  have a1 : (w6.alloc (.cells #[.int .i64 (y + 400), .int .i64 m, .int .i64 d] 23)).cell? ⟨w1.heap.size, 1, none⟩ = some (.int .i64 m) := by go_simp
  have a2 : (w6.alloc (.cells #[.int .i64 (y + 400), .int .i64 m, .int .i64 d] 23)).cell? ⟨w1.heap.size, 2, none⟩ = some (.int .i64 d) := by go_simp
  have c0 : (w6.alloc (.cells #[.int .i64 (y + 400), .int .i64 m, .int .i64 d] 23)).cell? ⟨w6.heap.size, 0, none⟩ = some (.int .i64 (y + 400)) := by go_simp
  have c1 : (w6.alloc (.cells #[.int .i64 (y + 400), .int .i64 m, .int .i64 d] 23)).cell? ⟨w6.heap.size, 1, none⟩ = some (.int .i64 m) := by go_simp
  have c2 : (w6.alloc (.cells #[.int .i64 (y + 400), .int .i64 m, .int .i64 d] 23)).cell? ⟨w6.heap.size, 2, none⟩ = some (.int .i64 d) := by go_simp
  have u1 : w1.heap.size < (w6.alloc (.cells #[.int .i64 (y + 400), .int .i64 m, .int .i64 d] 23)).heap.size := by simp; omega
  have u3 : w6.heap.size < (w6.alloc (.cells #[.int .i64 (y + 400), .int .i64 m, .int .i64 d] 23)).heap.size := by simp
  have u2 : w.heap.size ≤ (w6.alloc (.cells #[.int .i64 (y + 400), .int .i64 m, .int .i64 d] 23)).heap.size := by simp; omega
  have kk : Below w.heap.size w (w6.alloc (.cells #[.int .i64 (y + 400), .int .i64 m, .int .i64 d] 23)) := (k6.alloc (by omega) _)
  clear hc1 hf1 b1 hc2 hf2 b2 hc3 hf3 b3 hc4 hf4 b4 hc5 hf5 b5 hc6 hf6 b6
  generalize w6.alloc (.cells #[.int .i64 (y + 400), .int .i64 m, .int .i64 d] 23) = W5 at *
  generalize w1.heap.size = B at *
  generalize w6.heap.size = C at *
  have sw : IntKind.i64.wrap (y + 400) = y + 400 := IntWalk.i64_in _ (by omega)
  go_region_held3 (BothIn w B C y m d)
    ((refine ⟨?_, ?_, ?_, ?_, ?_, ?_, ?_, ?_, ?_, ?_⟩ <;> (first | go_keep | omega | assumption | exact Below.drew (by assumption) | (rw [hcc _ _ (by first | exact u1 | exact u2 | exact u3 | omega)]; first | exact a0 | exact a1 | exact a2 | exact c0 | exact c1 | exact c2 | go_keep) | (have := hb.size; omega) | exact Below.trans (by first | assumption | exact bothin_below (by assumption) | exact Below.drew (by assumption)) (Below.mono (by assumption) (by first | omega | (simp; omega))))))
    (first | (go_at_call 67; refine (civilL_any _ _ _ _).mono ?_; rintro e w' ⟨rfl, hb⟩; have hbW : Below w.heap.size w w' := Below.trans (by first | assumption | exact bothin_below (by assumption) | exact Below.drew (by assumption)) (hb.mono (by first | omega | (simp; done) | (simp; omega) | exact bothin_le (by assumption))); obtain ⟨hcc, hff⟩ := bcell hb))
  have hS : BothIn w B C y m d w' := by assumption
  obtain ⟨_, _, _, _, _, _, _, _, g', k'⟩ := hS
  go_wp2_with fail
  refine (hK _ (hA.below' k')).mono ?_
  rintro e w7 ⟨rfl, b7⟩
  obtain ⟨hc7, hf7⟩ := bcell b7
  have z7 : w'.heap.size ≤ w7.heap.size := by (have := b7.size; first | omega | (simp at this; omega))
  have k7 : Below w.heap.size w w7 := k'.trans (b7.mono (by first | exact Nat.le_refl _ | omega | (simp; done) | (simp; omega)))
  have g7 : w.heap.size ≤ w7.heap.size := by omega
  go_wp2_with fail
  refine (hO _ (hA.below' (k7.alloc (by omega) _))).mono ?_
  rintro e w8 ⟨rfl, b8⟩
  obtain ⟨hc8, hf8⟩ := bcell b8
  have z8 : w7.heap.size < w8.heap.size := by (have := b8.size; first | omega | (simp at this; omega))
  have k8 : Below w.heap.size w w8 := (k7.alloc (by omega) _).trans (b8.mono (by first | exact Nat.le_refl _ | omega | (simp; done) | (simp; omega)))
  have s7_8 : w7.heap.size < w8.heap.size := by omega
  have g8 : w.heap.size ≤ w8.heap.size := by omega
  go_wp2_with fail
  refine (hK1 _ (hA.below' k8)).mono ?_
  rintro e w9 ⟨rfl, b9⟩
  obtain ⟨hc9, hf9⟩ := bcell b9
  have z9 : w8.heap.size ≤ w9.heap.size := by (have := b9.size; first | omega | (simp at this; omega))
  have k9 : Below w.heap.size w w9 := k8.trans (b9.mono (by first | exact Nat.le_refl _ | omega | (simp; done) | (simp; omega)))
  have s7_9 : w7.heap.size < w9.heap.size := by omega
  have g9 : w.heap.size ≤ w9.heap.size := by omega
  go_wp2_with fail
  refine (known_any _ (hT.out.below (k9.alloc (by omega) _) (fun t ht => by have := tabs_four t ht; omega))).mono ?_
  rintro e w10 ⟨rfl, b10⟩
  obtain ⟨hc10, hf10⟩ := bcell b10
  have z10 : w9.heap.size < w10.heap.size := by (have := b10.size; first | omega | (simp at this; omega))
  have k10 : Below w.heap.size w w10 := (k9.alloc (by omega) _).trans (b10.mono (by first | exact Nat.le_refl _ | omega | (simp; done) | (simp; omega)))
  have s7_10 : w7.heap.size < w10.heap.size := by omega
  have s9_10 : w9.heap.size < w10.heap.size := by omega
  have g10 : w.heap.size ≤ w10.heap.size := by omega
  go_wp2_with fail
  go_ret
  exact ⟨rfl, k10⟩
end Go.Proofs.YthdjebomeibngaaGreatDoor
