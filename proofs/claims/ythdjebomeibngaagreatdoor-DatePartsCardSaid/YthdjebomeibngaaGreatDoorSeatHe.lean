/- The seat: DateParts, walked for every input. -/
import Derived.Test.YthdjebomeibngaaGreatDoorSeatHb
import Derived.Test.YthdjebomeibngaaGreatDoorSeatHc
import Derived.Test.YthdjebomeibngaaGreatDoorSeatHd
namespace Go.Proofs.YthdjebomeibngaaGreatDoor
open Go Go.RowKit Go.DayM Go.Ev
set_option maxRecDepth 100000
set_option maxHeartbeats 2000000
theorem i16_wf {z : Int} (h : (Lit.int .i16 z).wf = true) : -32768 ≤ z ∧ z ≤ 32767 := by
  simpa [Lit.wf, IntKind.min, IntKind.max, IntKind.signed, IntKind.bits] using h
theorem parts_bad1 (y m d y' m' d' a n : Int) (w : World) (hT : Hid (TabsIn tabs w)) (h8 : 4 ≤ w.heap.size) (hg : good y m d = false) :
    Calls Tryz.prog 12 #[.agg #[.int .i64 y, .int .i64 m, .int .i64 d], .agg #[.int .i64 y', .int .i64 m', .int .i64 d'], .int .i16 a, .int .i16 n] w fun e w' => e = .returned (.bool true) ∧ Below w.heap.size w w' := by
  have k0 : Below w.heap.size w ((w.alloc (.cells #[.int .i64 y, .int .i64 m, .int .i64 d] 23)).alloc (.cells #[.int .i64 y', .int .i64 m', .int .i64 d'] 23)) := ((Below.refl _ _).alloc (Nat.le_refl _) _).alloc (by simp) _
  go_enter Tryz.func12, Tryz.ntmps12
  go_wp2_with fail
  refine (hg ▸ goodR_any y m d _).mono ?_
  rintro e w1 ⟨rfl, b1⟩
  have k1 : Below w.heap.size w w1 := k0.trans (b1.mono (by simp; omega))
  go_wp2_with fail
  refine (known_any _ (hT.out.below k1 (fun t ht => by have := tabs_four t ht; omega))).mono ?_
  rintro e w2 ⟨rfl, b2⟩
  go_wp2_with fail
  go_ret
  exact ⟨rfl, k1.trans (b2.mono k1.size)⟩
theorem parts_bad2 (y m d y' m' d' a n : Int) (w : World) (hT : Hid (TabsIn tabs w)) (h8 : 4 ≤ w.heap.size) (g1 : good y m d = true) (hg : good y' m' d' = false) :
    Calls Tryz.prog 12 #[.agg #[.int .i64 y, .int .i64 m, .int .i64 d], .agg #[.int .i64 y', .int .i64 m', .int .i64 d'], .int .i16 a, .int .i16 n] w fun e w' => e = .returned (.bool true) ∧ Below w.heap.size w w' := by
  have k0 : Below w.heap.size w ((w.alloc (.cells #[.int .i64 y, .int .i64 m, .int .i64 d] 23)).alloc (.cells #[.int .i64 y', .int .i64 m', .int .i64 d'] 23)) := ((Below.refl _ _).alloc (Nat.le_refl _) _).alloc (by simp) _
  go_enter Tryz.func12, Tryz.ntmps12
  go_wp2_with fail
  refine (good_yes g1 _).mono ?_
  rintro e w1 ⟨rfl, b1⟩
  obtain ⟨hc1, hf1⟩ := bcell b1
  have z1 : w.heap.size + 1 < w1.heap.size := by (have := b1.size; simp at this; omega)
  have k1 : Below w.heap.size w w1 := k0.trans (b1.mono (by simp; omega))
  go_wp2_with fail
  refine (hg ▸ goodR_any y' m' d' _).mono ?_
  rintro e w2 ⟨rfl, b2⟩
  have k2 : Below w.heap.size w w2 := k1.trans (b2.mono k1.size)
  go_wp2_with fail
  refine (known_any _ (hT.out.below k2 (fun t ht => by have := tabs_four t ht; omega))).mono ?_
  rintro e w3 ⟨rfl, b3⟩
  go_wp2_with fail
  go_ret
  exact ⟨rfl, k2.trans (b3.mono k2.size)⟩
theorem law_parts (y m d y' m' d' a n : Int) (w : World) (hA : Ahead w) (hT : Hid (TabsIn tabs w)) (h8 : 4 ≤ w.heap.size) (a1 : -32768 ≤ a) (a2 : a ≤ 32767) (n1 : -32768 ≤ n) (n2 : n ≤ 32767) :
    Calls Tryz.prog 12 #[.agg #[.int .i64 y, .int .i64 m, .int .i64 d], .agg #[.int .i64 y', .int .i64 m', .int .i64 d'], .int .i16 a, .int .i16 n] w fun e w' => e = .returned (.bool true) ∧ Below w.heap.size w w' := by
  cases g1 : good y m d with
  | false => exact parts_bad1 y m d y' m' d' a n w hT h8 g1
  | true =>
    cases g2 : good y' m' d' with
    | false => exact parts_bad2 y m d y' m' d' a n w hT h8 g1 g2
    | true =>
      rcases parts_two g1 g2 with ⟨hU, N, D, hV⟩ | ⟨k, r, K, L, M, p, k1, k2, r1, hU, hV, hD, hG, p1, p2, hN | ⟨S, T, U, q, hN, hO, hq⟩⟩
      · rcases parts_one a n g1 with hP | ⟨X, Y, Z, hP, h⟩
        · exact parts_00 y m d y' m' d' a n w hA hT h8 a1 a2 n1 n2 g1 g2 hP N D hU hV
        · rcases Int.lt_or_le 28 d with h28 | h28
          · exact parts_10 y m d y' m' d' a n w hA hT h8 a1 a2 n1 n2 g1 g2 X Y Z hP h28 N D hU hV
          · obtain ⟨⟨F, G, H, E, hQ, hR⟩, hS⟩ := h h28
            rcases Int.lt_or_le a 0 with h0 | h0
            · exact parts_20 y m d y' m' d' a n w hA hT h8 a1 a2 n1 n2 g1 g2 X Y Z hP h28 F G H E hQ hR h0 N D hU hV
            · exact parts_30 y m d y' m' d' a n w hA hT h8 a1 a2 n1 n2 g1 g2 X Y Z hP h28 F G H E hQ hR h0 (hS h0) N D hU hV
      · rcases parts_one a n g1 with hP | ⟨X, Y, Z, hP, h⟩
        · exact parts_01 y m d y' m' d' a n w hA hT h8 a1 a2 n1 n2 g1 g2 hP k r K L M p k1 k2 r1 hU hV hD hG p1 p2 hN
        · rcases Int.lt_or_le 28 d with h28 | h28
          · exact parts_11 y m d y' m' d' a n w hA hT h8 a1 a2 n1 n2 g1 g2 X Y Z hP h28 k r K L M p k1 k2 r1 hU hV hD hG p1 p2 hN
          · obtain ⟨⟨F, G, H, E, hQ, hR⟩, hS⟩ := h h28
            rcases Int.lt_or_le a 0 with h0 | h0
            · exact parts_21 y m d y' m' d' a n w hA hT h8 a1 a2 n1 n2 g1 g2 X Y Z hP h28 F G H E hQ hR h0 k r K L M p k1 k2 r1 hU hV hD hG p1 p2 hN
            · exact parts_31 y m d y' m' d' a n w hA hT h8 a1 a2 n1 n2 g1 g2 X Y Z hP h28 F G H E hQ hR h0 (hS h0) k r K L M p k1 k2 r1 hU hV hD hG p1 p2 hN
      · rcases parts_one a n g1 with hP | ⟨X, Y, Z, hP, h⟩
        · exact parts_02 y m d y' m' d' a n w hA hT h8 a1 a2 n1 n2 g1 g2 hP k r K L M p k1 k2 r1 hU hV hD hG p1 p2 S T U q hN hO hq
        · rcases Int.lt_or_le 28 d with h28 | h28
          · exact parts_12 y m d y' m' d' a n w hA hT h8 a1 a2 n1 n2 g1 g2 X Y Z hP h28 k r K L M p k1 k2 r1 hU hV hD hG p1 p2 S T U q hN hO hq
          · obtain ⟨⟨F, G, H, E, hQ, hR⟩, hS⟩ := h h28
            rcases Int.lt_or_le a 0 with h0 | h0
            · exact parts_22 y m d y' m' d' a n w hA hT h8 a1 a2 n1 n2 g1 g2 X Y Z hP h28 F G H E hQ hR h0 k r K L M p k1 k2 r1 hU hV hD hG p1 p2 S T U q hN hO hq
            · exact parts_32 y m d y' m' d' a n w hA hT h8 a1 a2 n1 n2 g1 g2 X Y Z hP h28 F G H E hQ hR h0 (hS h0) k r K L M p k1 k2 r1 hU hV hD hG p1 p2 S T U q hN hO hq
end Go.Proofs.YthdjebomeibngaaGreatDoor
