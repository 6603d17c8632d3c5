/- Stage 4's seat: whether times increase, both sides. -/
import Derived.Test.YtimlgclejaoboaaGreatDoorBgD
namespace Go.Proofs.YtimlgclejaoboaaGreatDoor
open Go Go.RowKit Go.RecM
set_option maxRecDepth 100000
set_option maxHeartbeats 1000000

/-- A slice of integers. -/
def IntsAt (w : World) (s : Value) (xs : List Int) : Prop := ∃ A c, s = .slice A xs.length c ∧ (0 < xs.length → ∃ g o, A = some ⟨g, o, none⟩ ∧ g < w.heap.size ∧ ∀ (i : Nat) (x : Int), xs[i]? = some x → w.cell? ⟨g, o + i, none⟩ = some (.int .i64 x))
theorem IntsAt.below {w w' : World} {B : Nat} {v : Value} {l : List Int} (h : IntsAt w v l) (hb : Below B w w') (hB : w.heap.size ≤ B) : IntsAt w' v l := by
  obtain ⟨A, c, rfl, hc⟩ := h
  refine ⟨A, c, rfl, fun hn => ?_⟩
  obtain ⟨g, o, rfl, hg, hx⟩ := hc hn
  exact ⟨g, o, rfl, by have := hb.size; omega, fun i x hi => by rw [hb.cell (p := ⟨g, o + i, none⟩) (by show g < B; omega)]; exact hx i x hi⟩
theorem IntsAt.get {w : World} {A : Option Addr} {n c : Nat} {l : List Int} {i : Nat} {x : Int} (h : IntsAt w (.slice A n c) l) (hi : l[i]? = some x) : ∃ g o, A = some ⟨g, o, none⟩ ∧ g < w.heap.size ∧ w.cell? ⟨g, o + i, none⟩ = some (.int .i64 x) := by
  obtain ⟨A', c', he, hc⟩ := h
  cases he
  obtain ⟨g, o, rfl, hg, hx⟩ := hc (by have := (List.getElem?_eq_some_iff.1 hi).1; omega)
  exact ⟨g, o, rfl, hg, hx i x hi⟩
/-- The number at a place is greater than the one before. -/
def upB (l : List Int) (i : Nat) : Bool := match i with | 0 => true | j + 1 => match l[j]?, l[j + 1]? with | some a, some b => decide (a < b) | _, _ => false
def upTo (l : List Int) (k : Nat) : Bool := (List.range k).all (upB l)
theorem upTo_succ (l : List Int) (k : Nat) : upTo l (k + 1) = (upTo l k && upB l k) := by
  unfold upTo; rw [List.range_succ, List.all_append]; simp
theorem upTo_no {l : List Int} {k n : Nat} (h : upB l k = false) (hk : k < n) : upTo l n = false := by
  unfold upTo
  rw [List.all_eq_false]
  exact ⟨k, List.mem_range.2 hk, by rw [h]; decide⟩
theorem upTo_le {l : List Int} {j k : Nat} (h : upTo l k = true) (hj : j ≤ k) : upTo l j = true := by
  unfold upTo at h ⊢
  rw [List.all_eq_true] at h ⊢
  exact fun i hi => h i (List.mem_range.2 (by have := List.mem_range.1 hi; omega))
theorem upB_succ {l : List Int} {j : Nat} {a b : Int} (ha : l[j]? = some a) (hb : l[j + 1]? = some b) : upB l (j + 1) = decide (a < b) := by
  show (match l[j]?, l[j + 1]? with | some a, some b => decide (a < b) | _, _ => false) = _
  rw [ha, hb]

theorem increase_any (s : Value) (l : List Int) (W0 : World) (h : IntsAt W0 s l) (hl : l.length ≤ 9223372036854775807) : Calls Tryz.prog 71 #[s] W0 fun e w' => e = .returned (.bool (upTo l l.length)) ∧ Below W0.heap.size W0 w' := by
  obtain ⟨A, c, rfl, -⟩ := id h
  obtain ⟨n, hn⟩ : ∃ n, Hid (l.length = n) := ⟨_, Lib.hid rfl⟩
  rw [hn.out] at h hl ⊢
  have HL := Lib.hid h
  clear h
  go_enter Tryz.func71, Tryz.ntmps71
  go_wp2
  go_loopw [6] (fun u6 wr => ∃ k : Nat, k ≤ n ∧ u6 = .int .i64 k ∧ Hid (upTo l k = true) ∧ Below W0.heap.size W0 wr) (fun u6 _ => n - (intOf u6).toNat)
  case atStart => exact ⟨0, by omega, rfl, Lib.hid rfl, Below.refl _ _⟩
  case round =>
    obtain ⟨k, hk, rfl, hst, hbw⟩ := hrel
    by_cases hlt : k < n
    · obtain hk0 | ⟨j, hj⟩ : k = 0 ∨ ∃ j, k = j + 1 := by cases k with | zero => exact .inl rfl | succ j => exact .inr ⟨j, rfl⟩
      · have hk0b : decide ((0 : Int) < (k : Int)) = false := decide_eq_false (by omega)
        have bk2 : (k : Int) < n := by omega
        go_wp2
        go_quiet (fail)
        go_wp2
        go_roundw
        case rel => exact ⟨k + 1, by omega, by go_num, Lib.hid (by rw [upTo_succ, hst.out]; subst hk0; rfl), drewN_below hbw _⟩
        case measure => simp [intOf]; omega
      · subst hj
        obtain ⟨x, hx⟩ : ∃ x, l[j + 1]? = some x := ⟨_, List.getElem?_eq_getElem (by have := hn.out; omega)⟩
        obtain ⟨y, hy⟩ : ∃ y, l[j]? = some y := ⟨_, List.getElem?_eq_getElem (by have := hn.out; omega)⟩
        have hb := HL.out.below hbw (Nat.le_refl _)
        obtain ⟨g, o, rfl, hg, d0⟩ := hb.get hx
        obtain ⟨g', o', he, -, e0⟩ := hb.get hy
        cases he
        have HX := Lib.hid (upB_succ hy hx)
        clear hx hy hb
        have hk0b : decide ((0 : Int) < (j : Int) + 1) = true := decide_eq_true (by omega)
        have bj1 : (0 : Int) ≤ j := by omega
        have bj2 : (j : Int) < n := by omega
        have bj3 : (j : Int) + 1 < n := by omega
        have hwj : IntKind.i64.wrap (j : Int) = (j : Int) := IntWalk.i64_in _ (by omega)
        by_cases hc : y < x
        · have hcb : decide (x ≤ y) = false := decide_eq_false (by omega)
          go_wp2
          go_quiet (fail)
          go_wp2
          go_roundw
          case rel => exact ⟨j + 2, by omega, by go_num, Lib.hid (by rw [upTo_succ, hst.out, HX.out, decide_eq_true hc]; rfl), drewN_below hbw _⟩
          case measure => simp [intOf]; omega
        · have hcb : decide (x ≤ y) = true := decide_eq_true (by omega)
          go_wp2
          go_quiet (fail)
          go_wp2
          go_ret
          exact ⟨by rw [upTo_no (by rw [HX.out]; exact decide_eq_false (by omega)) hlt]; rfl, drewN_below hbw _⟩
    · go_wp2
      go_ret
      exact ⟨by rw [show n = k by omega, hst.out]; rfl, hbw⟩

theorem times_any (s : Value) (l : List Int) (W0 : World) (h : IntsAt W0 s l) (hl : l.length ≤ 9223372036854775807) : Calls Tryz.prog 73 #[s] W0 fun e w' => e = .returned (.bool (decide (l.length ≤ 40) && upTo l l.length)) ∧ Below W0.heap.size W0 w' := by
  obtain ⟨A, c, rfl, -⟩ := id h
  obtain ⟨n, hn⟩ : ∃ n, Hid (l.length = n) := ⟨_, Lib.hid rfl⟩
  rw [hn.out] at h hl ⊢
  have HL := Lib.hid h
  clear h
  go_enter Tryz.func73, Tryz.ntmps73
  go_wp2
  go_loopw [3] (fun u3 wr => ∃ j : Nat, j ≤ n ∧ u3 = .int .i64 ((j : Int) + 1) ∧ Hid (upTo l (j + 1) = true) ∧ Below W0.heap.size W0 wr) (fun u3 _ => n + 2 - (intOf u3).toNat)
  case atStart => exact ⟨0, by omega, rfl, Lib.hid rfl, Below.refl _ _⟩
  case round =>
    obtain ⟨j, hk, rfl, hst, hbw⟩ := hrel
    by_cases hlt : j + 1 < n
    · obtain ⟨x, hx⟩ : ∃ x, l[j + 1]? = some x := ⟨_, List.getElem?_eq_getElem (by have := hn.out; omega)⟩
      obtain ⟨y, hy⟩ : ∃ y, l[j]? = some y := ⟨_, List.getElem?_eq_getElem (by have := hn.out; omega)⟩
      have hb := HL.out.below hbw (Nat.le_refl _)
      obtain ⟨g, o, rfl, hg, d0⟩ := hb.get hx
      obtain ⟨g', o', he, -, e0⟩ := hb.get hy
      cases he
      have HX := Lib.hid (upB_succ hy hx)
      clear hx hy hb
      have bj1 : (0 : Int) ≤ j := by omega
      have bj2 : (j : Int) < n := by omega
      have bj3 : (j : Int) + 1 < n := by omega
      have hwj : IntKind.i64.wrap (j : Int) = (j : Int) := IntWalk.i64_in _ (by omega)
      by_cases hc : y < x
      · have hcb : decide (x ≤ y) = false := decide_eq_false (by omega)
        go_wp2
        go_quiet (fail)
        go_wp2
        go_roundw
        case rel => exact ⟨j + 1, by omega, by go_num, Lib.hid (by rw [upTo_succ, hst.out, HX.out, decide_eq_true hc]; rfl), drewN_below hbw _⟩
        case measure => simp [intOf]; omega
      · have hcb : decide (x ≤ y) = true := decide_eq_true (by omega)
        go_wp2
        go_quiet (fail)
        go_wp2
        go_ret
        exact ⟨by rw [upTo_no (by rw [HX.out]; exact decide_eq_false (by omega)) hlt, Bool.and_false]; rfl, drewN_below hbw _⟩
    · have bj3 : ¬ (j : Int) + 1 < n := by omega
      go_wp2
      go_ret
      refine ⟨?_, hbw⟩
      rw [upTo_le hst.out (by omega), Bool.and_true, show decide (n ≤ 40) = decide ((n : Int) ≤ 40) by rw [decide_eq_decide]; omega]
      rfl
end Go.Proofs.YtimlgclejaoboaaGreatDoor
