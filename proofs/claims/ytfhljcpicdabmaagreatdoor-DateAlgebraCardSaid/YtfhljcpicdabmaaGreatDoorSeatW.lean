import Derived.Test.YtfhljcpicdabmaaGreatDoorChecked
import Derived.ProofKit
import Derived.WalkKit
import Derived.Outline
import Derived.Lib.Hide
namespace Go.Proofs.YtfhljcpicdabmaaGreatDoor
open Go Go.RowKit
set_option maxRecDepth 100000
theorem below2 (w : World) (o o' : Obj) : Below w.heap.size w ((w.alloc o).alloc o') := ((Below.refl _ _).alloc (Nat.le_refl _) _).alloc (by simp) _
theorem ne_lt {a b : Int} (h : a < b) : (a == b) = false := by simp; omega
theorem ne_gt {a b : Int} (h : b < a) : (a == b) = false := by simp; omega
abbrev WayIs (a b c d k : Int) (w : World) : Prop := Calls Tryz.prog 110 #[.agg #[.int .i64 a, .int .i64 b], .agg #[.int .i64 c, .int .i64 d]] w fun e w' => e = .returned (.int .i64 k) ∧ Below w.heap.size w w'
set_option maxHeartbeats 400000
theorem way_same (a b : Int) (w : World)  : WayIs a b a b 7 w := by
  go_enter Tryz.func110, Tryz.ntmps110
  go_wp2
  go_ret
  exact ⟨rfl, below2 _ _ _⟩
theorem way_before (a b c d : Int) (w : World) (h : b < c) (h1 : (a == c) = false) : WayIs a b c d 1 w := by
  go_enter Tryz.func110, Tryz.ntmps110
  go_wp2
  go_ret
  exact ⟨rfl, below2 _ _ _⟩
theorem way_meets (a b d : Int) (w : World) (h1 : (a == b) = false) : WayIs a b b d 2 w := by
  go_enter Tryz.func110, Tryz.ntmps110
  go_wp2
  go_ret
  exact ⟨rfl, below2 _ _ _⟩
theorem way_laps (a b c d : Int) (w : World) (h : c < b) (h2 : a < c) (h3 : b < d) (h1 : (a == c) = false) (h0 : (b == c) = false) : WayIs a b c d 3 w := by
  go_enter Tryz.func110, Tryz.ntmps110
  go_wp2
  go_ret
  exact ⟨rfl, below2 _ _ _⟩
theorem way_starts (a b d : Int) (w : World) (h : a < b) (h3 : b < d) (h1 : (b == d) = false) (h0 : (b == a) = false) : WayIs a b a d 4 w := by
  go_enter Tryz.func110, Tryz.ntmps110
  go_wp2
  go_ret
  exact ⟨rfl, below2 _ _ _⟩
theorem way_during (a b c d : Int) (w : World) (h : c < a) (hcb : c < b) (h3 : b < d) (h1 : (a == c) = false) (h0 : (b == c) = false) : WayIs a b c d 5 w := by
  go_enter Tryz.func110, Tryz.ntmps110
  go_wp2
  go_ret
  exact ⟨rfl, below2 _ _ _⟩
theorem way_ends (a b c : Int) (w : World) (h : c < a) (hcb : c < b) (h1 : (a == c) = false) (h0 : (b == c) = false) : WayIs a b c b 6 w := by
  go_enter Tryz.func110, Tryz.ntmps110
  go_wp2
  go_ret
  exact ⟨rfl, below2 _ _ _⟩
theorem way_after (a b c d : Int) (w : World) (h : d < a) (g1 : c < a) (g2 : c < b) (g3 : d < b) (h1 : (a == c) = false) (h0 : (b == c) = false) (h2 : (b == d) = false) : WayIs a b c d 13 w := by
  go_enter Tryz.func110, Tryz.ntmps110
  go_wp2_with (go_at_call 110; refine (way_before _ _ _ _ _ h (ne_lt g1)).mono ?_; rintro e w' ⟨rfl, hb⟩)
  go_ret
  exact ⟨rfl, (below2 _ _ _).trans (hb.mono (by simp; omega))⟩
theorem way_met (a b c : Int) (w : World) (g1 : c < a) (g2 : c < b) (g3 : a < b) (h1 : (a == c) = false) (h0 : (b == c) = false) (h2 : (b == a) = false) : WayIs a b c a 12 w := by
  go_enter Tryz.func110, Tryz.ntmps110
  go_wp2_with (go_at_call 110; refine (way_meets _ _ _ _ (ne_lt g1)).mono ?_; rintro e w' ⟨rfl, hb⟩)
  go_ret
  exact ⟨rfl, (below2 _ _ _).trans (hb.mono (by simp; omega))⟩
theorem way_lapped (a b c d : Int) (w : World) (g1 : c < a) (g4 : a < d) (g2 : c < b) (g3 : d < b) (h1 : (a == c) = false) (h0 : (b == c) = false) (h2 : (b == d) = false) : WayIs a b c d 11 w := by
  go_enter Tryz.func110, Tryz.ntmps110
  go_wp2_with (go_at_call 110; refine (way_laps _ _ _ _ _ g4 g1 g3 (ne_lt g1) (ne_gt g4)).mono ?_; rintro e w' ⟨rfl, hb⟩)
  go_ret
  exact ⟨rfl, (below2 _ _ _).trans (hb.mono (by simp; omega))⟩
theorem way_started (a b d : Int) (w : World) (g1 : a < d) (g2 : a < b) (g3 : d < b) (h1 : (b == a) = false) (h2 : (b == d) = false) : WayIs a b a d 10 w := by
  go_enter Tryz.func110, Tryz.ntmps110
  go_wp2_with (go_at_call 110; refine (way_starts _ _ _ _ g1 g3 (ne_lt g3) (ne_gt g1)).mono ?_; rintro e w' ⟨rfl, hb⟩)
  go_ret
  exact ⟨rfl, (below2 _ _ _).trans (hb.mono (by simp; omega))⟩
theorem way_holds (a b c d : Int) (w : World) (g1 : a < c) (g4 : a < d) (g2 : c < b) (g3 : d < b) (h1 : (a == c) = false) (h0 : (b == c) = false) (h2 : (b == d) = false) : WayIs a b c d 9 w := by
  go_enter Tryz.func110, Tryz.ntmps110
  go_wp2_with (go_at_call 110; refine (way_during _ _ _ _ _ g1 g4 g3 (ne_gt g1) (ne_gt g4)).mono ?_; rintro e w' ⟨rfl, hb⟩)
  go_ret
  exact ⟨rfl, (below2 _ _ _).trans (hb.mono (by simp; omega))⟩
theorem way_ended (a b c : Int) (w : World) (g1 : a < c) (g4 : a < b) (g2 : c < b) (h1 : (a == c) = false) (h0 : (b == c) = false) : WayIs a b c b 8 w := by
  go_enter Tryz.func110, Tryz.ntmps110
  go_wp2_with (go_at_call 110; refine (way_ends _ _ _ _ g1 g4 (ne_gt g1) (ne_gt g4)).mono ?_; rintro e w' ⟨rfl, hb⟩)
  go_ret
  exact ⟨rfl, (below2 _ _ _).trans (hb.mono (by simp; omega))⟩

/-- The way of one formed span to another one. -/
def wayL (a b c d : Int) : Int :=
  if a = c then (if b = d then 7 else if b < d then 4 else 10)
  else if a < c then (if b < c then 1 else if b = c then 2 else if b < d then 3 else if b = d then 8 else 9)
  else (if d < a then 13 else if d = a then 12 else if b < d then 5 else if b = d then 6 else 11)

theorem way_any (a b c d : Int) (w : World) (hab : a < b) (hcd : c < d) : WayIs a b c d (wayL a b c d) w := by
  unfold wayL
  by_cases e1 : a = c
  · subst e1
    rw [if_pos rfl]
    by_cases e2 : b = d
    · subst e2; rw [if_pos rfl]; exact way_same a b w
    · rw [if_neg e2]
      by_cases e3 : b < d
      · rw [if_pos e3]; exact way_starts a b d w hab e3 (ne_lt e3) (ne_gt hab)
      · rw [if_neg e3]; exact way_started a b d w hcd hab (by omega) (ne_gt hab) (ne_gt (by omega))
  · rw [if_neg e1]
    by_cases e2 : a < c
    · rw [if_pos e2]
      by_cases e3 : b < c
      · rw [if_pos e3]; exact way_before a b c d w e3 (ne_lt e2)
      · rw [if_neg e3]
        by_cases e4 : b = c
        · subst e4; rw [if_pos rfl]; exact way_meets a b d w (ne_lt e2)
        · rw [if_neg e4]
          by_cases e5 : b < d
          · rw [if_pos e5]; exact way_laps a b c d w (by omega) e2 e5 (ne_lt e2) (ne_gt (by omega))
          · rw [if_neg e5]
            by_cases e6 : b = d
            · subst e6; rw [if_pos rfl]; exact way_ended a b c w e2 hab hcd (ne_lt e2) (ne_gt hcd)
            · rw [if_neg e6]; exact way_holds a b c d w e2 (by omega) (by omega) (by omega) (ne_lt e2) (ne_gt (by omega)) (ne_gt (by omega))
    · rw [if_neg e2]
      by_cases e3 : d < a
      · rw [if_pos e3]; exact way_after a b c d w e3 (by omega) (by omega) (by omega) (ne_gt (by omega)) (ne_gt (by omega)) (ne_gt (by omega))
      · rw [if_neg e3]
        by_cases e4 : d = a
        · subst e4; rw [if_pos rfl]; exact way_met d b c w hcd (by omega) hab (ne_gt hcd) (ne_gt (by omega)) (ne_gt hab)
        · rw [if_neg e4]
          by_cases e5 : b < d
          · rw [if_pos e5]; exact way_during a b c d w (by omega) (by omega) e5 (ne_gt (by omega)) (ne_gt (by omega))
          · rw [if_neg e5]
            by_cases e6 : b = d
            · subst e6; rw [if_pos rfl]; exact way_ends a b c w (by omega) (by omega) (ne_gt (by omega)) (ne_gt (by omega))
            · rw [if_neg e6]; exact way_lapped a b c d w (by omega) (by omega) (by omega) (by omega) (ne_gt (by omega)) (ne_gt (by omega)) (ne_gt (by omega))
end Go.Proofs.YtfhljcpicdabmaaGreatDoor
#print axioms Go.Proofs.YtfhljcpicdabmaaGreatDoor.way_any
