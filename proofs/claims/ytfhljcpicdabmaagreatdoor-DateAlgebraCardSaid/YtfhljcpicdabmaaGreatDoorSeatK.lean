/- The seat: the specification's CivilOf. -/
import Derived.Test.YtfhljcpicdabmaaGreatDoorSeatJ
import Derived.Deep.LoopGhost
import Derived.StillTailTactics
import Derived.Deep.RegionLaw
import Derived.Deep.RegionHeld3
namespace Go.Proofs.YtfhljcpicdabmaaGreatDoor
open Go Go.RowKit Go.DayM
set_option maxRecDepth 100000
set_option maxHeartbeats 1000000
theorem ys_far (a : Int) : ∀ k : Nat, ys (a + k) ≤ ys a + 366 * k
  | 0 => by simp
  | k + 1 => by
    have h := ys_far a k
    have h2 := ys_succ (a + k)
    have h3 := lp_01 (a + k)
    have e : a + ((k + 1 : Nat) : Int) = a + k + 1 := by omega
    rw [e]
    omega
theorem step_bd {n z : Int} (h2 : n ≤ 2921939) (h : ys (z + 1) ≤ n) : 0 ≤ (n - ys (z + 1)) / 366 ∧ z + (n - ys (z + 1)) / 366 ≤ 9999 ∧ z + 1 ≤ 9999 := by
  have q0 : 0 ≤ (n - ys (z + 1)) / 366 := Int.ediv_nonneg (by omega) (by omega)
  have k := ys_far (z + 1) ((n - ys (z + 1)) / 366).toNat
  have e : (((n - ys (z + 1)) / 366).toNat : Int) = (n - ys (z + 1)) / 366 := by omega
  rw [e] at k
  have k2 : ys (z + 1 + (n - ys (z + 1)) / 366) ≤ n := by omega
  refine ⟨q0, ?_, ?_⟩
  · rcases Int.lt_or_le 9999 (z + (n - ys (z + 1)) / 366) with h' | h'
    · have := ys_mono 10000 (z + 1 + (n - ys (z + 1)) / 366) (by omega); have := ys_high; omega
    · exact h'
  · rcases Int.lt_or_le 9999 (z + 1) with h' | h'
    · have := ys_mono 10000 (z + 1) (by omega); have := ys_high; omega
    · exact h'
theorem bg_2000 : bg 2000 = 730485 := by decide
/-- The world of the loop over the months. -/
structure InC (w : World) (z k dd : Int) (wr : World) : Prop where
  c0 : wr.cell? ⟨w.heap.size + 1, 0, none⟩ = some (.int .i64 z)
  c1 : wr.cell? ⟨w.heap.size + 1, 1, none⟩ = some (.int .i64 k)
  c2 : wr.cell? ⟨w.heap.size + 1, 2, none⟩ = some (.int .i64 dd)
  f1 : wr.frozen? ⟨w.heap.size + 1, 1, none⟩ = false
  f2 : wr.frozen? ⟨w.heap.size + 1, 2, none⟩ = false
  hs : w.heap.size + 1 < wr.heap.size
  r0 : wr.cell? ⟨w.heap.size, 0, none⟩ = some (.int .i64 0)
  r1 : wr.cell? ⟨w.heap.size, 1, none⟩ = some (.int .i64 0)
  r2 : wr.cell? ⟨w.heap.size, 2, none⟩ = some (.int .i64 0)
  q0 : wr.frozen? ⟨w.heap.size, 0, none⟩ = false
  q1 : wr.frozen? ⟨w.heap.size, 1, none⟩ = false
  q2 : wr.frozen? ⟨w.heap.size, 2, none⟩ = false
  below : Below w.heap.size w wr
theorem InC.drewN {w : World} {z k dd : Int} {wr : World} (h : InC w z k dd wr) (q : Nat) : InC w z k dd (wr.drewN q) := ⟨h.c0, h.c1, h.c2, h.f1, h.f2, h.hs, h.r0, h.r1, h.r2, h.q0, h.q1, h.q2, below_drewN h.below q⟩
theorem InC.step {w : World} {z k dd dd' dd2 : Int} {wq : World} (h : InC w z k dd wq) (e : dd2 = dd') : InC w z (k + 1) dd' (((wq.setCell ⟨w.heap.size + 1, 2, none⟩ (.int .i64 dd2)).setCell ⟨w.heap.size + 1, 1, none⟩ (.int .i64 (k + 1))).drew) := by
  subst e
  obtain ⟨c0, c1, c2, f1, f2, hs, r0, r1, r2, q0, q1, q2, hbw⟩ := h
  have hne : w.heap.size ≠ w.heap.size + 1 := by omega
  have a2 : (wq.setCell ⟨w.heap.size + 1, 2, none⟩ (.int .i64 dd2)).cell? ⟨w.heap.size + 1, 1, none⟩ = some (.int .i64 k) := by rw [World.cell?_setCell_other]; exact c1; simp
  have d0 : ((wq.setCell ⟨w.heap.size + 1, 2, none⟩ (.int .i64 dd2)).setCell ⟨w.heap.size + 1, 1, none⟩ (.int .i64 (k + 1))).cell? ⟨w.heap.size + 1, 0, none⟩ = some (.int .i64 z) := by rw [World.cell?_setCell_other, World.cell?_setCell_other]; exact c0; simp; simp
  have d1 : ((wq.setCell ⟨w.heap.size + 1, 2, none⟩ (.int .i64 dd2)).setCell ⟨w.heap.size + 1, 1, none⟩ (.int .i64 (k + 1))).cell? ⟨w.heap.size + 1, 1, none⟩ = some (.int .i64 (k + 1)) := World.cell?_setCell_same _ _ _ a2
  have d2 : ((wq.setCell ⟨w.heap.size + 1, 2, none⟩ (.int .i64 dd2)).setCell ⟨w.heap.size + 1, 1, none⟩ (.int .i64 (k + 1))).cell? ⟨w.heap.size + 1, 2, none⟩ = some (.int .i64 dd2) := by rw [World.cell?_setCell_other]; exact World.cell?_setCell_same _ _ _ c2; simp
  refine ⟨d0, d1, d2, by go_keep, by go_keep, by go_keep, by go_keep, by go_keep, by go_keep, by go_keep, by go_keep, by go_keep, ?_⟩
  exact ((hbw.setCell (by simp) _).setCell (by simp) _).drew
theorem InC.start (w : World) (z dd : Int) : InC w z 1 dd ((w.alloc (.cells #[.int .i64 0, .int .i64 0, .int .i64 0] 23)).alloc (.cells #[.int .i64 z, .int .i64 1, .int .i64 dd] 23)) :=
  ⟨by go_simp, by go_simp, by go_simp, by go_simp, by go_simp, by simp, by go_simp, by go_simp, by go_simp, by go_simp, by go_simp, by go_simp, ((Below.refl _ _).alloc (Nat.le_refl _) _).alloc (by simp) _⟩
theorem civilOfR_any (n : Int) (w : World) (h1 : -4382544 ≤ n) (h2 : n ≤ 2921939) : Calls Tryz.prog 87 #[.int .i64 n] w (SomeDate n w) := by
  have hg2 : 2000 + n / 366 ≤ 9999 := by omega
  have hg1 : -9999 ≤ 2000 + n / 366 := by omega
  go_enter Tryz.func87, Tryz.ntmps87
  go_wp2_with (go_at_call 150; refine (floor_any _ _ _ (by omega) (by omega) (by omega) (by omega)).mono ?_; rintro e w' ⟨rfl, rfl⟩)
  go_loop [3] (fun t => ∃ y : Int, -9999 ≤ y ∧ y ≤ 9999 ∧ t = .int .i64 y) (fun t => (9999 - intOf t).toNat)
  case atStart => exact ⟨_, hg1, hg2, rfl⟩
  case round =>
    clear hg1 hg2
    obtain ⟨y, y1, y2, rfl⟩ := hrel
    obtain ⟨b1, b2⟩ := bg_bd (y + 1) (by omega) (by omega)
    obtain ⟨b3, b4⟩ := bg_bd 2000 (by omega) (by omega)
    have hbs := bg_ys (y + 1)
    have hb2 := bg_2000
    by_cases hc : y < 9999 ∧ ys (y + 1) ≤ n
    · obtain ⟨hlt, hd⟩ := hc
      have hst := step_bd h2 hd
      have hle : bg (y + 1) - bg 2000 ≤ n := by omega
      have hnn : 0 ≤ n - bg (y + 1) + bg 2000 := by omega
      have HQ : Hid (n - bg (y + 1) + bg 2000 = n - ys (y + 1)) := by show _ = _; omega
      have HS := Lib.hid hst
      clear hst hbs hb2 hd
      go_wp2_with (go_at_call 149; refine (began_any _ _ (by omega) (by omega)).mono ?_; rintro e w' ⟨rfl, rfl⟩)
      go_round
      case rel =>
        rw [HQ.out]
        obtain ⟨q0, q1, q2⟩ := HS.out
        exact ⟨y + if 1 < (n - ys (y + 1)) / 366 then (n - ys (y + 1)) / 366 else 1, by split <;> omega, by split <;> omega, rfl⟩
      case measure =>
        simp [intOf]; omega
    · have hz : n < ys (y + 1) := by
        by_cases e : y = 9999
        · subst e; have := ys_high; show n < ys 10000; omega
        · omega
      have hgt : n < bg (y + 1) - bg 2000 := by omega
      have HZ := Lib.hid hz
      clear hc hbs hb2 hz
      by_cases hlt : y < 9999
      all_goals
        go_wp2_with (go_at_call 149; refine (began_any _ _ (by omega) (by omega)).mono ?_; rintro e w' ⟨rfl, rfl⟩)
        go_loop [3] (fun t => ∃ z : Int, -9999 ≤ z ∧ z ≤ 9999 ∧ n < ys (z + 1) ∧ t = .int .i64 z) (fun t => (intOf t + 20000).toNat)
        case atStart => exact ⟨y, y1, y2, HZ.out, rfl⟩
        case round =>
          clear HZ hgt b1 b2
          obtain ⟨z, z1, z2, hz3, rfl⟩ := hrel
          obtain ⟨b1, b2⟩ := bg_bd z (by omega) (by omega)
          have hbs := bg_ys z
          have hb2 := bg_2000
          have HZ := Lib.hid hz3
          clear hz3
          by_cases hc : n < ys z
          · have hy := ys_above h1 hc
            have hlt2 : n < bg z - bg 2000 := by omega
            have HN : Hid (n < ys (z - 1 + 1)) := by rw [Int.sub_add_cancel]; exact Lib.hid hc
            clear hbs hb2 hc
            go_wp2_with (go_at_call 149; refine (began_any _ _ (by omega) (by omega)).mono ?_; rintro e w' ⟨rfl, rfl⟩)
            go_round
            case rel => exact ⟨z - 1, by omega, by omega, HN.out, rfl⟩
            case measure => simp [intOf]; omega
          · have hge : bg z - bg 2000 ≤ n := by omega
            have HC : Hid (ys z ≤ n) := by show _ ≤ _; omega
            have hbig : n - bg z + bg 2000 + 1 ≤ 400 := by have := ys_succ z; have := lp_01 z; have := HZ.out; omega
            clear hbs hb2 hc
            go_wp2_with (go_at_call 149; refine (began_any _ _ (by omega) (by omega)).mono ?_; rintro e w' ⟨rfl, rfl⟩)
            go_loopg [63] 11 (fun g _t wr => ∃ k : Int, 1 ≤ k ∧ k ≤ 12 ∧ (g : Int) = 12 - k ∧ da z k ≤ n - ys z ∧ InC w z k (n - bg z + bg 2000 + 1 - da z k) wr)
            case atStart =>
              have e1 := da_one z
              have e2 : n - bg z + bg 2000 + 1 - da z 1 = n - bg z + bg 2000 + 1 := by omega
              have e3 := HC.out
              exact ⟨1, by omega, by omega, by omega, by omega, by rw [e2]; exact InC.start w z _⟩
            case round =>
              obtain ⟨k, k1, k2, hgk, hd1, hin⟩ := hrel
              have HIN := Lib.hid hin
              obtain ⟨c0, c1, c2, f1, f2, hs, r0, r1, r2, q0, q1, q2, hbw⟩ := hin
              have HB := Lib.hid hbw
              have HD := Lib.hid hd1
              have HG := Lib.hid hgk
              obtain ⟨l1, l2⟩ := len_bd z k k1 k2
              obtain ⟨e1, e2⟩ := da_bd z k k1 k2
              clear hbw hd1 hgk
              by_cases hlen : len z k < n - bg z + bg 2000 + 1 - da z k
              · go_wp2
                go_quiet ((go_at_call 141; exact Calls.quiet_of_same (length_any' _ _ _ k1 k2)))
                go_wp2
                have c0' : (wr.drewN nq).cell? ⟨w.heap.size + 1, 0, none⟩ = some (.int .i64 z) := c0
                have c1' : (wr.drewN nq).cell? ⟨w.heap.size + 1, 1, none⟩ = some (.int .i64 k) := c1
                have c2' : (wr.drewN nq).cell? ⟨w.heap.size + 1, 2, none⟩ = some (.int .i64 (n - bg z + bg 2000 + 1 - da z k)) := c2
                have f1' : (wr.drewN nq).frozen? ⟨w.heap.size + 1, 1, none⟩ = false := f1
                have f2' : (wr.drewN nq).frozen? ⟨w.heap.size + 1, 2, none⟩ = false := f2
                have hs' : w.heap.size + 1 < (wr.drewN nq).heap.size := hs
                have HB' : Hid (Below w.heap.size w (wr.drewN nq)) := below_drewN HB.out nq
                have sw : IntKind.i64.wrap (n - bg z + bg 2000 + 1 - da z k - len z k) = n - bg z + bg 2000 + 1 - da z k - len z k := IntWalk.i64_in _ (by omega)
                have HI' : Hid (InC w z k (n - bg z + bg 2000 + 1 - da z k) (wr.drewN nq)) := HIN.out.drewN nq
                clear c0 c1 c2 f1 f2 hs HB r0 r1 r2 q0 q1 q2 HIN
                generalize wr.drewN nq = wq at *
                have hk12 : k < 12 := by
                  rcases Int.lt_or_le 11 k with h' | h'
                  · have e : k = 12 := by omega
                    subst e
                    have e1 := da_13 z
                    have e2 := ys_succ z
                    have e3 := bg_ys z
                    have e4 := bg_2000
                    have e5 := HZ.out
                    unfold len at hlen
                    omega
                  · omega
                have HR : Hid (((gk - 1 : Nat) : Int) = 12 - (k + 1) ∧ da z (k + 1) ≤ n - ys z ∧ n - bg z + bg 2000 + 1 - da z k - len z k = n - bg z + bg 2000 + 1 - da z (k + 1)) := by
                  have e0 := HG.out
                  have e3 := bg_ys z
                  have e4 := bg_2000
                  show _ ∧ _ ∧ _
                  unfold len at *
                  omega
                have hg1 : 1 ≤ gk := by have := HG.out; omega
                go_region_law ((go_simp; go_at_call 141; refine (length_any _ _ _ k1 k2).mono ?_; rintro e w' ⟨rfl, rfl⟩))
                all_goals
                  go_wp2
                  go_roundg (gk - 1)
                  case rel =>
                    obtain ⟨t1, t2, t3⟩ := HR.out
                    exact ⟨k + 1, by omega, by omega, t1, t2, HI'.out.step t3⟩
                  case measure => omega
              · go_wp2
                go_quiet ((go_at_call 141; exact Calls.quiet_of_same (length_any' _ _ _ k1 k2)))
                go_wp2
                have e3 := bg_ys z
                have e4 := bg_2000
                have hof : Of n z k := ⟨HC.out, HZ.out, k1, k2, HD.out, by unfold len at hlen; omega⟩
                have ev : n - bg z + bg 2000 + 1 - da z k = n - ys z - da z k + 1 := by omega
                have hbl : Below w.heap.size w (wr.drewN nq) := below_drewN HB.out nq
                refine bodyPost_ret (v := .agg #[.int .i64 z, .int .i64 k, .int .i64 (n - bg z + bg 2000 + 1 - da z k)]) (by simp [results, Tryz.results87, go_sem, r0, r1, r2]) rfl ?_
                exact ⟨z, k, hof, z1, by omega, by rw [ev], ((hbl.setCell (by simp) _).setCell (by simp) _).setCell (by simp) _⟩
end Go.Proofs.YtfhljcpicdabmaaGreatDoor
