/- The seat: the specification's way of spans. -/
import Derived.Test.YtfhljcpicdabmaaGreatDoorSeatW
import Derived.Test.YtfhljcpicdabmaaGreatDoorWayM
namespace Go.Proofs.YtfhljcpicdabmaaGreatDoor
open Go Go.RowKit Go.WayM
set_option maxRecDepth 100000
set_option maxHeartbeats 400000
abbrev WayRIs (a b c d k : Int) (w : World) : Prop := Calls Tryz.prog 112 #[.agg #[.int .i64 a, .int .i64 b], .agg #[.int .i64 c, .int .i64 d]] w fun e w' => e = .returned (.int .i64 k) ∧ Below w.heap.size w w'
theorem wr_before (a b c d : Int) (w : World) (h : b < c) : WayRIs a b c d 1 w := by
  go_enter Tryz.func112, Tryz.ntmps112
  go_wp2
  go_ret
  exact ⟨rfl, below2 _ _ _⟩
theorem wr_meets (a b d : Int) (w : World) : WayRIs a b b d 2 w := by
  go_enter Tryz.func112, Tryz.ntmps112
  go_wp2
  go_ret
  exact ⟨rfl, below2 _ _ _⟩
theorem wr_laps (a b c d : Int) (w : World) (h : c < b) (h2 : a < c) (h3 : b < d) (h0 : (b == c) = false) : WayRIs a b c d 3 w := by
  go_enter Tryz.func112, Tryz.ntmps112
  go_wp2
  go_ret
  exact ⟨rfl, below2 _ _ _⟩
theorem wr_starts (a b d : Int) (w : World) (h : a < b) (h3 : b < d) (h0 : (b == a) = false) : WayRIs a b a d 4 w := by
  go_enter Tryz.func112, Tryz.ntmps112
  go_wp2
  go_ret
  exact ⟨rfl, below2 _ _ _⟩
theorem wr_during (a b c d : Int) (w : World) (h : c < a) (hcb : c < b) (h3 : b < d) (h1 : (a == c) = false) (h0 : (b == c) = false) : WayRIs a b c d 5 w := by
  go_enter Tryz.func112, Tryz.ntmps112
  go_wp2
  go_ret
  exact ⟨rfl, below2 _ _ _⟩
theorem wr_ends (a b c : Int) (w : World) (h : c < a) (hcb : c < b) (h1 : (a == c) = false) (h0 : (b == c) = false) : WayRIs a b c b 6 w := by
  go_enter Tryz.func112, Tryz.ntmps112
  go_wp2
  go_ret
  exact ⟨rfl, below2 _ _ _⟩
theorem wr_same (a b : Int) (w : World) (h : a < b) (h0 : (b == a) = false) : WayRIs a b a b 7 w := by
  go_enter Tryz.func112, Tryz.ntmps112
  go_wp2
  go_ret
  exact ⟨rfl, below2 _ _ _⟩
theorem wr_after (a b c d : Int) (w : World) (h : d < a) (g1 : c < a) (g2 : c < b) (g3 : d < b) (h1 : (a == c) = false) (h0 : (b == c) = false) (h2 : (b == d) = false) : WayRIs a b c d 13 w := by
  go_enter Tryz.func112, Tryz.ntmps112
  go_wp2_with (go_at_call 112; refine (wr_before _ _ _ _ _ h).mono ?_; rintro e w' ⟨rfl, hb⟩)
  go_ret
  exact ⟨rfl, (below2 _ _ _).trans (hb.mono (by simp; omega))⟩
theorem wr_met (a b c : Int) (w : World) (g1 : c < a) (g2 : c < b) (g3 : a < b) (h1 : (a == c) = false) (h0 : (b == c) = false) (h2 : (b == a) = false) : WayRIs a b c a 12 w := by
  go_enter Tryz.func112, Tryz.ntmps112
  go_wp2_with (go_at_call 112; refine (wr_meets _ _ _ _).mono ?_; rintro e w' ⟨rfl, hb⟩)
  go_ret
  exact ⟨rfl, (below2 _ _ _).trans (hb.mono (by simp; omega))⟩
theorem wr_lapped (a b c d : Int) (w : World) (g1 : c < a) (g4 : a < d) (g2 : c < b) (g3 : d < b) (h1 : (a == c) = false) (h0 : (b == c) = false) (h2 : (b == d) = false) : WayRIs a b c d 11 w := by
  go_enter Tryz.func112, Tryz.ntmps112
  go_wp2_with (go_at_call 112; refine (wr_laps _ _ _ _ _ g4 g1 g3 (ne_gt g4)).mono ?_; rintro e w' ⟨rfl, hb⟩)
  go_ret
  exact ⟨rfl, (below2 _ _ _).trans (hb.mono (by simp; omega))⟩
theorem wr_started (a b d : Int) (w : World) (g1 : a < d) (g2 : a < b) (g3 : d < b) (h1 : (b == a) = false) (h2 : (b == d) = false) : WayRIs a b a d 10 w := by
  go_enter Tryz.func112, Tryz.ntmps112
  go_wp2_with (go_at_call 112; refine (wr_starts _ _ _ _ g1 g3 (ne_gt g1)).mono ?_; rintro e w' ⟨rfl, hb⟩)
  go_ret
  exact ⟨rfl, (below2 _ _ _).trans (hb.mono (by simp; omega))⟩
theorem wr_holds (a b c d : Int) (w : World) (g1 : a < c) (g4 : a < d) (g2 : c < b) (g3 : d < b) (h1 : (a == c) = false) (h0 : (b == c) = false) (_h2 : (b == d) = false) : WayRIs a b c d 9 w := by
  go_enter Tryz.func112, Tryz.ntmps112
  go_wp2_with (go_at_call 112; refine (wr_during _ _ _ _ _ g1 g4 g3 (ne_gt g1) (ne_gt g4)).mono ?_; rintro e w' ⟨rfl, hb⟩)
  go_ret
  exact ⟨rfl, (below2 _ _ _).trans (hb.mono (by simp; omega))⟩
theorem wr_ended (a b c : Int) (w : World) (g1 : a < c) (g4 : a < b) (g2 : c < b) (h1 : (a == c) = false) (h0 : (b == c) = false) : WayRIs a b c b 8 w := by
  go_enter Tryz.func112, Tryz.ntmps112
  go_wp2_with (go_at_call 112; refine (wr_ends _ _ _ _ g1 g4 (ne_gt g1) (ne_gt g4)).mono ?_; rintro e w' ⟨rfl, hb⟩)
  go_ret
  exact ⟨rfl, (below2 _ _ _).trans (hb.mono (by simp; omega))⟩

theorem wayR_any (a b c d : Int) (w : World) (hab : a < b) (hcd : c < d) : WayRIs a b c d (wl a b c d) w := by
  unfold wl
  by_cases e1 : a = c
  · subst e1
    rw [if_pos rfl]
    by_cases e2 : b = d
    · subst e2; rw [if_pos rfl]; exact wr_same a b w hab (ne_gt hab)
    · rw [if_neg e2]
      by_cases e3 : b < d
      · rw [if_pos e3]; exact wr_starts a b d w hab e3 (ne_gt hab)
      · rw [if_neg e3]; exact wr_started a b d w hcd hab (by omega) (ne_gt hab) (ne_gt (by omega))
  · rw [if_neg e1]
    by_cases e2 : a < c
    · rw [if_pos e2]
      by_cases e3 : b < c
      · rw [if_pos e3]; exact wr_before a b c d w e3
      · rw [if_neg e3]
        by_cases e4 : b = c
        · subst e4; rw [if_pos rfl]; exact wr_meets a b d w
        · rw [if_neg e4]
          by_cases e5 : b < d
          · rw [if_pos e5]; exact wr_laps a b c d w (by omega) e2 e5 (ne_gt (by omega))
          · rw [if_neg e5]
            by_cases e6 : b = d
            · subst e6; rw [if_pos rfl]; exact wr_ended a b c w e2 hab hcd (ne_lt e2) (ne_gt hcd)
            · rw [if_neg e6]; exact wr_holds a b c d w e2 (by omega) (by omega) (by omega) (ne_lt e2) (ne_gt (by omega)) (ne_gt (by omega))
    · rw [if_neg e2]
      by_cases e3 : d < a
      · rw [if_pos e3]; exact wr_after a b c d w e3 (by omega) (by omega) (by omega) (ne_gt (by omega)) (ne_gt (by omega)) (ne_gt (by omega))
      · rw [if_neg e3]
        by_cases e4 : d = a
        · subst e4; rw [if_pos rfl]; exact wr_met d b c w hcd (by omega) hab (ne_gt hcd) (ne_gt (by omega)) (ne_gt hab)
        · rw [if_neg e4]
          by_cases e5 : b < d
          · rw [if_pos e5]; exact wr_during a b c d w (by omega) (by omega) e5 (ne_gt (by omega)) (ne_gt (by omega))
          · rw [if_neg e5]
            by_cases e6 : b = d
            · subst e6; rw [if_pos rfl]; exact wr_ends a b c w (by omega) (by omega) (ne_gt (by omega)) (ne_gt (by omega))
            · rw [if_neg e6]; exact wr_lapped a b c d w (by omega) (by omega) (by omega) (by omega) (ne_gt (by omega)) (ne_gt (by omega)) (ne_gt (by omega))
theorem wayRS (a b : Sp) (k : Int) (w : World) (ha : a.1 < a.2) (hb : b.1 < b.2) (hk : W a b = k) : Calls Tryz.prog 112 #[.agg #[.int .i64 a.1, .int .i64 a.2], .agg #[.int .i64 b.1, .int .i64 b.2]] w fun e w' => e = .returned (.int .i64 k) ∧ Below w.heap.size w w' := by
  subst hk
  exact wayR_any a.1 a.2 b.1 b.2 w ha hb
end Go.Proofs.YtfhljcpicdabmaaGreatDoor
