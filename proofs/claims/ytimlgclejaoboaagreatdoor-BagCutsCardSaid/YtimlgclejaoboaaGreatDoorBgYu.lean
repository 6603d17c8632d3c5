/- Stage 4's seat: a bag some later, both sides whole; BagCuts: the law returns true. -/
import Derived.Test.YtimlgclejaoboaaGreatDoorBgYt
import Derived.Test.YtimlgclejaoboaaGreatDoorBgV
namespace Go.Proofs.YtimlgclejaoboaaGreatDoor
open Go Go.RowKit Go.RecM
set_option maxRecDepth 100000
set_option maxHeartbeats 1000000

def resShift (l : List It) (n : Int) : List It := if goodB l = true then laterL (far n) l else []
theorem shiftP_any (s : Value) (l : List It) (n : Int) (W0 : World) (h : BagAt W0 s l) (hl : l.length ≤ 9223372036854775807) :
    Calls Tryz.prog 31 #[s, .int .i64 n] W0 fun e w' => ∃ v, e = .returned (.tuple #[v, .int .i64 (errOf (goodB l))]) ∧ w'.ownsRow W0.heap.size 33 4 v (resShift l n).length ((resShift l n).flatMap encIt) ∧ Below W0.heap.size W0 w' := by
  have b0 : Below W0.heap.size W0 (W0.alloc (.cells #[s] 23)) := Below.alloc (Below.refl _ _) (Nat.le_refl _) _
  have cA := areBags_any _ [l] _ (bagsOne h) (by simp) (by simpa using hl)
  have cC : goodB l = true → ∀ w, Below W0.heap.size W0 w → Calls Tryz.prog 74 #[s, .int .i64 n] w fun e w' => ∃ v, e = .returned v ∧ w'.ownsRow w.heap.size 33 4 v (laterL (far n) l).length ((laterL (far n) l).flatMap encIt) ∧ Below w.heap.size w w' := fun h1 w hb => later_any s l n w (h.below hb (Nat.le_refl _)) (goodB_len h1) (goodB_rec h1)
  rw [show ([l] : List (List It)).all goodB = goodB l by simp] at cA
  obtain ⟨A, c, rfl, -⟩ := id h
  obtain ⟨q, hq⟩ : ∃ q, Hid (goodB l = q) := ⟨_, Lib.hid rfl⟩
  obtain ⟨rs, hrs⟩ : ∃ rs, Hid (resShift l n = rs) := ⟨_, Lib.hid rfl⟩
  rw [hq.out] at cA cC
  rw [hq.out, hrs.out]
  clear h hl
  cases q with
  | false =>
    have he : Hid (rs = []) := Lib.hid (by rw [← hrs.out]; unfold resShift; rw [hq.out]; rfl)
    go_enter Tryz.func31, Tryz.ntmps31
    go_wp2_with fail
    refine cA.mono ?_
    rintro e w1 ⟨rfl, b1⟩
    go_wp2
    go_ret2
    exact ⟨_, rfl, by rw [he.out]; exact World.ownsRow_nil _ _ _ _, b0.trans (b1.mono b0.size)⟩
  | true =>
    have he : Hid (rs = laterL (far n) l) := Lib.hid (by rw [← hrs.out]; unfold resShift; rw [hq.out]; rfl)
    go_enter Tryz.func31, Tryz.ntmps31
    go_wp2_with fail
    refine cA.mono ?_
    rintro e w1 ⟨rfl, b1⟩
    have b01 := b0.trans (b1.mono b0.size)
    go_wp2_with fail
    refine (cC trivial _ b01).mono ?_
    rintro e w2 ⟨v, rfl, ho, b2⟩
    go_wp2
    go_ret2
    exact ⟨_, rfl, by rw [he.out]; exact own_base ho b01.size, b01.trans (b2.mono b01.size)⟩

theorem shiftS_any (s : Value) (l : List It) (n : Int) (W0 : World) (h : BagAt W0 s l) (hl : l.length ≤ 9223372036854775807) :
    Calls Tryz.prog 32 #[s, .int .i64 n] W0 fun e w' => ∃ v, e = .returned (.tuple #[v, .int .i64 (errOf (goodB l))]) ∧ w'.ownsRow W0.heap.size 33 4 v (resShift l n).length ((resShift l n).flatMap encIt) ∧ Below W0.heap.size W0 w' := by
  have cA := good_any s l W0 h hl
  have cC : goodB l = true → ∀ w, Below W0.heap.size W0 w → Calls Tryz.prog 75 #[s, .int .i64 n] w fun e w' => ∃ v, e = .returned v ∧ w'.ownsRow w.heap.size 33 4 v (laterL (far n) l).length ((laterL (far n) l).flatMap encIt) ∧ Below w.heap.size w w' := fun h1 w hb => laterS_any s l n w (h.below hb (Nat.le_refl _)) (goodB_len h1) (goodB_rec h1)
  obtain ⟨A, c, rfl, -⟩ := id h
  obtain ⟨q, hq⟩ : ∃ q, Hid (goodB l = q) := ⟨_, Lib.hid rfl⟩
  obtain ⟨rs, hrs⟩ : ∃ rs, Hid (resShift l n = rs) := ⟨_, Lib.hid rfl⟩
  rw [hq.out] at cA cC
  rw [hq.out, hrs.out]
  clear h hl
  cases q with
  | false =>
    have he : Hid (rs = []) := Lib.hid (by rw [← hrs.out]; unfold resShift; rw [hq.out]; rfl)
    go_enter Tryz.func32, Tryz.ntmps32
    go_wp2_with fail
    refine cA.mono ?_
    rintro e w1 ⟨rfl, b1⟩
    go_wp2
    go_ret2
    exact ⟨_, rfl, by rw [he.out]; exact World.ownsRow_nil _ _ _ _, b1⟩
  | true =>
    have he : Hid (rs = laterL (far n) l) := Lib.hid (by rw [← hrs.out]; unfold resShift; rw [hq.out]; rfl)
    go_enter Tryz.func32, Tryz.ntmps32
    go_wp2_with fail
    refine cA.mono ?_
    rintro e w1 ⟨rfl, b1⟩
    go_wp2_with fail
    refine (cC trivial _ b1).mono ?_
    rintro e w2 ⟨v, rfl, ho, b2⟩
    go_wp2
    go_ret2
    exact ⟨_, rfl, by rw [he.out]; exact own_base ho b1.size, b1.trans (b2.mono b1.size)⟩

theorem tab_lt {w : World} {g : Nat} {xs : Array Value} (h : ∃ e fz, w.heap[g]? = some (.cells xs e fz)) : g < w.heap.size := by
  obtain ⟨e, fz, h⟩ := h
  exact (Array.getElem?_eq_some_iff.1 h).1
theorem resParts_len {l : List It} {ts : List Int} (h : ts.length ≤ 9223372036854775807) : (resParts l ts).length ≤ 9223372036854775807 := by
  unfold resParts
  split
  · rename_i h1
    unfold okParts at h1
    rw [Bool.and_eq_true, Bool.and_eq_true, decide_eq_true_eq] at h1
    unfold partsAll
    rw [List.length_append, partsTo_len, List.length_singleton]
    have := h1.2.1
    omega
  · simp
theorem resParts_in {l x : List It} {ts : List Int} (hl : l.length ≤ 9223372036854775807) (h : x ∈ resParts l ts) : x.length ≤ 9223372036854775807 := by
  unfold resParts at h
  split at h
  · exact Nat.le_trans (partsAll_in h) hl
  · cases h
theorem resShift_len {l : List It} {n : Int} (hl : l.length ≤ 9223372036854775807) : (resShift l n).length ≤ 9223372036854775807 := by
  unfold resShift laterL
  split
  · have := List.length_filter_le (fun x : It => recFB x.1) (l.map (shI (far n)))
    rw [List.length_map] at this
    omega
  · simp

theorem law_cuts (s : Value) (l : List It) (u : Value) (ts : List Int) (n : Int) (W0 : World) (h : BagAt W0 s l) (hl : l.length ≤ 9223372036854775807) (ht : IntsAt W0 u ts) (htl : ts.length ≤ 9223372036854775807) (htw : ∀ x ∈ ts, -9223372036854775808 ≤ x ∧ x ≤ 9223372036854775807) (hw : Ev.TabsIn tabs W0) :
    Calls Tryz.prog 5 #[s, u, .int .i64 n] W0 fun e w' => e = .returned (.bool true) ∧ Below W0.heap.size W0 w' := by
  have c1 := partsP_any s l u ts W0 h hl ht htl
  have c2 : ∀ w, Below W0.heap.size W0 w → _ := fun w hb => partsS_any s l u ts w (h.below hb (Nat.le_refl _)) hl (ht.below hb (Nat.le_refl _)) htl htw
  have c3 : ∀ w, Below W0.heap.size W0 w → _ := fun w hb => shiftP_any s l n w (h.below hb (Nat.le_refl _)) hl
  have c4 : ∀ w, Below W0.heap.size W0 w → _ := fun w hb => shiftS_any s l n w (h.below hb (Nat.le_refl _)) hl
  have cB : ∀ w v v', BagsAt w v (resParts l ts) → BagsAt w v' (resParts l ts) → Calls Tryz.prog 33 #[v, v'] w fun e w' => e = .returned (.bool true) ∧ Below w.heap.size w w' := fun w v v' h1 h2 => by
    refine (sameBags_any v v' _ _ w h1 h2 (resParts_len htl) (resParts_len htl) (fun x hx => resParts_in hl hx) (fun x hx => resParts_in hl hx)).mono ?_
    rintro e w' ⟨rfl, m, rfl⟩
    exact ⟨by rw [decide_eq_true rfl], drewN_below (Below.refl _ _) m⟩
  have cS : ∀ w v v', BagAt w v (resShift l n) → BagAt w v' (resShift l n) → Calls Tryz.prog 20 #[v, v'] w fun e w' => e = .returned (.bool true) ∧ Below w.heap.size w w' := fun w v v' h1 h2 => by
    refine (sameBag_any v v' _ _ w h1 h2 (resShift_len hl) (resShift_len hl)).mono ?_
    rintro e w' ⟨rfl, m, rfl⟩
    exact ⟨by rw [decide_eq_true rfl], drewN_below (Below.refl _ _) m⟩
  have cK : ∀ w, Below W0.heap.size W0 w → Calls Tryz.prog 22 #[] w fun e w' => e = .returned (.bool true) ∧ Below w.heap.size w w' := fun w hb => known_any w (Ev.TabsIn.below hw hb (fun t ht => tab_lt (hw t ht)))
  generalize errOf (okParts l ts) = e1 at c1 c2
  generalize errOf (goodB l) = e2 at c3 c4
  go_enter Tryz.func5, Tryz.ntmps5
  go_wp2_with fail
  refine c1.mono ?_
  rintro e w1 ⟨v1, rfl, o1, b1⟩
  go_wp2_with fail
  refine (c2 _ b1).mono ?_
  rintro e w2 ⟨v2, rfl, o2, b2⟩
  have k2 := b1.trans (b2.mono b1.size)
  go_wp2_with fail
  refine (c3 _ k2).mono ?_
  rintro e w3 ⟨v3, rfl, o3, b3⟩
  have k3 := k2.trans (b3.mono k2.size)
  go_wp2_with fail
  refine (c4 _ k3).mono ?_
  rintro e w4 ⟨v4, rfl, o4, b4⟩
  have k4 := k3.trans (b4.mono k3.size)
  have p1 := (((o1.below b2).below b3).below b4).bags
  have p2 := ((o2.below b3).below b4).bags
  have p3 := BagAt.of_row (own_belowG o3 b4)
  have p4 := BagAt.of_row o4
  clear o1 o2 o3 o4 c1 c2 c3 c4
  go_wp2_with fail
  refine (cB _ _ _ p1 p2).mono ?_
  rintro e w5 ⟨rfl, b5⟩
  have k5 := k4.trans (b5.mono k4.size)
  go_wp2_with fail
  refine (cS _ _ _ (p3.below b5 (Nat.le_refl _)) (p4.below b5 (Nat.le_refl _))).mono ?_
  rintro e w6 ⟨rfl, b6⟩
  have k6 := k5.trans (b6.mono k5.size)
  go_wp2_with fail
  refine (cK _ k6).mono ?_
  rintro e w7 ⟨rfl, b7⟩
  go_wp2
  go_ret
  exact ⟨rfl, k6.trans (b7.mono k6.size)⟩
end Go.Proofs.YtimlgclejaoboaaGreatDoor
