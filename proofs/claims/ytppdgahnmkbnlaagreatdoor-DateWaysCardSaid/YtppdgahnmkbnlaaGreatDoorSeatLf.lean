/- The seat: DateWays, walked for every input. -/
import Derived.Test.YtppdgahnmkbnlaaGreatDoorSeatLe
import Derived.Test.YtppdgahnmkbnlaaGreatDoorSeatM
namespace Go.Proofs.YtppdgahnmkbnlaaGreatDoor
open Go Go.RowKit Go.Ev Go.WayM
set_option maxRecDepth 100000
set_option maxHeartbeats 2000000
theorem law_ways (a b c d v u : Int) (w : World) (hT : Hid (TabsIn tabs w)) (h8 : 4 ≤ w.heap.size) :
    Calls Tryz.prog 7 #[.agg #[.int .i64 a, .int .i64 b], .agg #[.int .i64 c, .int .i64 d], .int .i64 v, .int .i64 u] w fun e w' => e = .returned (.bool true) ∧ Below w.heap.size w w' := by
  obtain ⟨xs, E, hl, cP, cR⟩ := chain_both v u
  have k0 := below2 w (.cells #[.int .i64 a, .int .i64 b] 48) (.cells #[.int .i64 c, .int .i64 d] 48)
  go_enter Tryz.func7, Tryz.ntmps7
  go_wp2_with fail
  refine (way_any' a b c d _).mono ?_
  rintro e w1 ⟨rfl, b1⟩
  obtain ⟨hc1, hf1⟩ := bcell b1
  have s1 : w.heap.size + 1 < w1.heap.size := by (have := b1.size; simp at this; omega)
  have s0 : w.heap.size < w1.heap.size := by omega
  have k1 : Below w.heap.size w w1 := k0.trans (b1.mono (by simp; omega))
  go_wp2_with fail
  refine (wayR_any' a b c d _).mono ?_
  rintro e w2 ⟨rfl, b2⟩
  have k2 : Below w.heap.size w w2 := k1.trans (b2.mono (by omega))
  go_wp2_with fail
  refine (cP _).mono ?_
  rintro e w3 ⟨s, rfl, own3, b3⟩
  have k3 : Below w.heap.size w w3 := k2.trans (b3.mono (by have := b2.size; omega))
  have y3 := waysAt_of own3
  clear own3
  go_wp2_with fail
  refine (cR _).mono ?_
  rintro e w4 ⟨s', rfl, own4, b4⟩
  have k4 : Below w.heap.size w w4 := k3.trans (b4.mono (by have := b2.size; have := b3.size; omega))
  have y4 := y3.below b4 (Nat.le_refl _)
  have z4 := waysAt_of own4
  clear own4 y3
  go_wp2_with fail
  refine (sameWays_any s s' xs _ y4 z4 hl).mono ?_
  rintro e w5 ⟨rfl, m, rfl⟩
  have k5 : Below w.heap.size w (w4.drewN m) := drewN_below k4 m
  go_wp2_with fail
  refine (known_any _ (hT.out.below k5 (fun t ht => by have := tabs_four t ht; omega))).mono ?_
  rintro e w6 ⟨rfl, b6⟩
  go_wp2_with fail
  go_ret
  exact ⟨rfl, k5.trans (b6.mono (by have := b1.size; have := b2.size; have := b3.size; have := b4.size; simp; omega))⟩
end Go.Proofs.YtppdgahnmkbnlaaGreatDoor
