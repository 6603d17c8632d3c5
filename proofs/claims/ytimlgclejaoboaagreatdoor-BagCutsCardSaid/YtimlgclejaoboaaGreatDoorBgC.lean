/- Stage 4's seat: how records are compared, the project's side. -/
import Derived.Test.YtimlgclejaoboaaGreatDoorChecked
import Derived.Test.YtimlgclejaoboaaGreatDoorBgM
import Derived.ProofKit
import Derived.WalkKit
import Derived.Outline
import Derived.Lib.Hide
import Derived.IntWalk
import Derived.Laws.Rows
import Derived.Deep.QuietTactic
import Derived.BigQuiet
import Derived.Deep.RegionHeld3
import Derived.StillTailTactics
namespace Go.Proofs.YtimlgclejaoboaaGreatDoor
open Go Go.RowKit Go.RecM
set_option maxRecDepth 100000
set_option maxHeartbeats 1000000

/-- What has come is new blocks, and draws. -/
def Grown (w w' : World) : Prop := ∃ q os, w' = Sort.grow (w.drewN q) os
theorem Grown.refl (w : World) : Grown w w := ⟨0, #[], by simp [Sort.grow, World.drewN]⟩
theorem Grown.alloc {w w' : World} (h : Grown w w') (o : Obj) : Grown w (w'.alloc o) := by
  obtain ⟨q, os, rfl⟩ := h
  exact ⟨q, _, by rw [Sort.alloc_eq_grow, Sort.grow_grow]⟩
theorem Grown.drew {w w' : World} (h : Grown w w') : Grown w w'.drew := by
  obtain ⟨q, os, rfl⟩ := h
  exact ⟨q + 1, os, by simp [Sort.grow, World.drewN, World.drew, Nat.add_assoc]⟩

theorem isNaN_any (x : Int) (w : World) : Calls Tryz.prog 160 #[.int .i64 x] w fun e w' => e = .returned (.bool false) ∧ w' = w := by
  have hx : (decide (x = x)) = true := decide_eq_true rfl
  go_enter Tryz.func160, Tryz.ntmps160
  go_wp2
  go_ret
  exact ⟨by simp, rfl⟩

theorem cmp_any (x y : Int) (w : World) : Calls Tryz.prog 144 #[.int .i64 x, .int .i64 y] w fun e w' => e = .returned (.int .i64 (cmp1 x y)) ∧ w' = w := by
  by_cases h1 : x < y
  · have h1b : decide (x < y) = true := decide_eq_true h1
    have hr : cmp1 x y = -1 := by unfold cmp1; rw [if_pos h1]
    have HR := Lib.hid hr
    clear hr
    go_enter Tryz.func144, Tryz.ntmps144
    go_wp2_with (go_at_call 160; refine (isNaN_any _ _).mono ?_; rintro e w' ⟨rfl, rfl⟩)
    go_ret
    exact ⟨by rw [HR.out]; rfl, rfl⟩
  · have h1b : decide (x < y) = false := decide_eq_false h1
    by_cases h2 : y < x
    · have h2b : decide (y < x) = true := decide_eq_true h2
      have hr : cmp1 x y = 1 := by unfold cmp1; rw [if_neg h1, if_pos h2]
      have HR := Lib.hid hr
      clear hr
      go_enter Tryz.func144, Tryz.ntmps144
      go_wp2_with (go_at_call 160; refine (isNaN_any _ _).mono ?_; rintro e w' ⟨rfl, rfl⟩)
      go_ret
      exact ⟨by rw [HR.out]; rfl, rfl⟩
    · have h2b : decide (y < x) = false := decide_eq_false h2
      have hr : cmp1 x y = 0 := by unfold cmp1; rw [if_neg h1, if_neg h2]
      have HR := Lib.hid hr
      clear hr
      go_enter Tryz.func144, Tryz.ntmps144
      go_wp2_with (go_at_call 160; refine (isNaN_any _ _).mono ?_; rintro e w' ⟨rfl, rfl⟩)
      go_ret
      exact ⟨by rw [HR.out]; rfl, rfl⟩

def or3 (a b c : Int) : Int := if a ≠ 0 then a else if b ≠ 0 then b else c

theorem or_any (a b c : Int) (g : Nat) (w : World) (ha : w.cell? ⟨g, 0, none⟩ = some (.int .i64 a)) (hb : w.cell? ⟨g, 1, none⟩ = some (.int .i64 b)) (hc : w.cell? ⟨g, 2, none⟩ = some (.int .i64 c)) :
    Calls Tryz.prog 147 #[.slice (some ⟨g, 0, none⟩) 3 3] w fun e w' => e = .returned (.int .i64 (or3 a b c)) ∧ w' = w := by
  have eq0 : ∀ (x : Int), x ≠ 0 → (!decide (x = 0)) = true := fun x h => by simp [h]
  obtain ⟨r, hr⟩ : ∃ r, Hid (or3 a b c = r) := ⟨_, Lib.hid rfl⟩
  rw [hr.out]
  go_enter Tryz.func147, Tryz.ntmps147
  go_wp2
  go_loop [8] (fun u8 => (u8 = .int .i64 0) ∨ (u8 = .int .i64 1 ∧ Hid (a = 0)) ∨ (u8 = .int .i64 2 ∧ Hid (a = 0 ∧ b = 0)) ∨ (u8 = .int .i64 3 ∧ Hid (a = 0 ∧ b = 0 ∧ c = 0))) (fun u8 => 3 - (intOf u8).toNat)
  case atStart => exact .inl rfl
  case round =>
    rcases hrel with rfl | ⟨rfl, h0⟩ | ⟨rfl, h0⟩ | ⟨rfl, h0⟩
    · by_cases hz : a = 0
      · subst hz
        go_wp2
        go_round
        case rel => exact .inr (.inl ⟨rfl, Lib.hid (by trivial)⟩)
        case measure => simp [intOf]
      · have hz1 : decide (a = 0) = false := decide_eq_false hz
        have hq : r = a := by rw [← hr.out]; unfold or3; rw [if_pos hz]
        have HQ := Lib.hid hq
        clear hq
        go_wp2
        go_ret
        exact ⟨by rw [HQ.out]; rfl, rfl⟩
    · by_cases hz : b = 0
      · subst hz
        go_wp2
        go_round
        case rel => exact .inr (.inr (.inl ⟨rfl, Lib.hid ⟨h0.out, by trivial⟩⟩))
        case measure => simp [intOf]
      · have hz1 : decide (b = 0) = false := decide_eq_false hz
        have hq : r = b := by rw [← hr.out]; unfold or3; rw [if_neg (fun h => h h0.out), if_pos hz]
        have HQ := Lib.hid hq
        clear hq
        go_wp2
        go_ret
        exact ⟨by rw [HQ.out]; rfl, rfl⟩
    · by_cases hz : c = 0
      · subst hz
        go_wp2
        go_round
        case rel => exact .inr (.inr (.inr ⟨rfl, Lib.hid ⟨h0.out.1, h0.out.2, by trivial⟩⟩))
        case measure => simp [intOf]
      · have hz1 : decide (c = 0) = false := decide_eq_false hz
        have hq : r = c := by rw [← hr.out]; unfold or3; rw [if_neg (fun h => h h0.out.1), if_neg (fun h => h h0.out.2)]
        have HQ := Lib.hid hq
        clear hq
        go_wp2
        go_ret
        exact ⟨by rw [HQ.out]; rfl, rfl⟩
    · have hq : r = 0 := by rw [← hr.out]; unfold or3; rw [if_neg (fun h => h h0.out.1), if_neg (fun h => h h0.out.2.1), h0.out.2.2]
      have HQ := Lib.hid hq
      clear hq
      go_wp2
      go_ret
      exact ⟨by rw [HQ.out]; rfl, rfl⟩

/-- Two records lie in two blocks of their own; nothing else has come but new blocks. -/
abbrev RecIn (w : World) (x y : R3) (w' : World) : Prop := w'.cell? ⟨w.heap.size, 0, none⟩ = some (.int .i64 x.1) ∧ w'.cell? ⟨w.heap.size, 1, none⟩ = some (.int .i64 x.2.1) ∧ w'.cell? ⟨w.heap.size, 2, none⟩ = some (.int .i64 x.2.2) ∧
  w'.cell? ⟨w.heap.size + 1, 0, none⟩ = some (.int .i64 y.1) ∧ w'.cell? ⟨w.heap.size + 1, 1, none⟩ = some (.int .i64 y.2.1) ∧ w'.cell? ⟨w.heap.size + 1, 2, none⟩ = some (.int .i64 y.2.2) ∧ w.heap.size + 1 < w'.heap.size ∧ Grown w w'

theorem recCmp (x y : R3) (w : World) : Calls Tryz.prog 118 #[aggR x, aggR y] w fun e w' => e = .returned (.int .i64 (cfR x y)) ∧ Grown w w' := by
  obtain ⟨x0, x1, x2⟩ := x
  obtain ⟨y0, y1, y2⟩ := y
  have hcf : Hid (cfR (x0, x1, x2) (y0, y1, y2) = or3 (cmp1 x0 y0) (cmp1 x1 y1) (cmp1 x2 y2)) := Lib.hid rfl
  rw [hcf.out]
  generalize hr0 : cmp1 x0 y0 = r0
  generalize hr1 : cmp1 x1 y1 = r1
  generalize hr2 : cmp1 x2 y2 = r2
  have c0 : ∀ w, Calls Tryz.prog 144 #[.int .i64 x0, .int .i64 y0] w fun e w' => e = .returned (.int .i64 r0) ∧ w' = w := fun w => by rw [← hr0]; exact cmp_any x0 y0 w
  have c1 : ∀ w, Calls Tryz.prog 144 #[.int .i64 x1, .int .i64 y1] w fun e w' => e = .returned (.int .i64 r1) ∧ w' = w := fun w => by rw [← hr1]; exact cmp_any x1 y1 w
  have c2 : ∀ w, Calls Tryz.prog 144 #[.int .i64 x2, .int .i64 y2] w fun e w' => e = .returned (.int .i64 r2) ∧ w' = w := fun w => by rw [← hr2]; exact cmp_any x2 y2 w
  clear hr0 hr1 hr2 hcf
  change Calls Tryz.prog 118 #[.agg #[.int .i64 x0, .int .i64 x1, .int .i64 x2], .agg #[.int .i64 y0, .int .i64 y1, .int .i64 y2]] w _
  go_enter Tryz.func118, Tryz.ntmps118
  go_wp2_with fail
  obtain ⟨w2, hw2⟩ : ∃ w2, (w.alloc (.cells #[.int .i64 x0, .int .i64 x1, .int .i64 x2] 129)).alloc (.cells #[.int .i64 y0, .int .i64 y1, .int .i64 y2] 129) = w2 := ⟨_, rfl⟩
  have g2 : Grown w w2.drew := by rw [← hw2]; exact (((Grown.refl w).alloc _).alloc _).drew
  have d0 : w2.drew.cell? ⟨w.heap.size, 0, none⟩ = some (.int .i64 x0) := by subst hw2; go_simp
  have d1 : w2.drew.cell? ⟨w.heap.size, 1, none⟩ = some (.int .i64 x1) := by subst hw2; go_simp
  have d2 : w2.drew.cell? ⟨w.heap.size, 2, none⟩ = some (.int .i64 x2) := by subst hw2; go_simp
  have e0 : w2.drew.cell? ⟨w.heap.size + 1, 0, none⟩ = some (.int .i64 y0) := by subst hw2; go_simp
  have e1 : w2.drew.cell? ⟨w.heap.size + 1, 1, none⟩ = some (.int .i64 y1) := by subst hw2; go_simp
  have e2 : w2.drew.cell? ⟨w.heap.size + 1, 2, none⟩ = some (.int .i64 y2) := by subst hw2; go_simp
  rw [hw2]
  clear hw2
  refine wp_region_still_tail 15 (by kernel_rfl) (by kernel_rfl) ?_
  change wpStill Tryz.prog _ w2.drew (fun a' => wpList Tryz.prog _ _ _ a' w2.drew) _ _
  generalize w2.drew = w3 at g2 d0 d1 d2 e0 e1 e2 ⊢
  simp only [List.take_succ_cons, List.take_zero, List.drop_succ_cons, List.drop_zero]
  repeat still_step
  still_call (c0 _)
  repeat still_step
  still_call (c1 _)
  repeat still_step
  still_call (c2 _)
  refine wpStill_nil ?_
  clear c0 c1 c2
  go_wp2_with (go_at_call 147; refine (or_any r0 r1 r2 _ _ (by go_simp) (by go_simp) (by go_simp)).mono ?_; rintro e w' ⟨rfl, rfl⟩)
  go_ret
  exact ⟨rfl, g2.alloc _⟩
end Go.Proofs.YtimlgclejaoboaaGreatDoor
