/- Stage 4's seat: whether bags are equal, the specification's side. -/
import Derived.Test.YtimlgclejaoboaaGreatDoorBgA
namespace Go.Proofs.YtimlgclejaoboaaGreatDoor
open Go Go.RowKit Go.RecM
set_option maxRecDepth 100000
set_option maxHeartbeats 1000000

/-- Nothing but draws has come. -/
def Drewn (w w' : World) : Prop := ∃ m, w' = w.drewN m
theorem Drewn.out {w w' : World} (h : Drewn w w') : ∃ m, w' = w.drewN m := h
theorem Drewn.refl (w : World) : Drewn w w := ⟨0, rfl⟩
theorem Drewn.drewN {w w' : World} (h : Drewn w w') (n : Nat) : Drewn w (w'.drewN n) := by
  obtain ⟨m, rfl⟩ := h
  exact ⟨m + n, by rw [World.drewN_drewN]⟩
theorem Drewn.below {w w' : World} (h : Drewn w w') : Below w.heap.size w w' := by
  obtain ⟨m, rfl⟩ := h
  exact drewN_below (Below.refl _ _) m
theorem take_eq_succ {α : Type} {l l' : List α} {k : Nat} {x y : α} (h : l[k]? = some x) (h' : l'[k]? = some y) (ht : l.take k = l'.take k) (hxy : x = y) : l.take (k + 1) = l'.take (k + 1) := by
  rw [List.take_add_one, List.take_add_one, h, h', ht, hxy]
theorem sameBag_any (s s' : Value) (l l' : List It) (W0 : World) (h : BagAt W0 s l) (h' : BagAt W0 s' l') (hl : l.length ≤ 9223372036854775807) (hl' : l'.length ≤ 9223372036854775807) : Calls Tryz.prog 20 #[s, s'] W0 fun e w' => e = .returned (.bool (decide (l = l'))) ∧ ∃ m, w' = W0.drewN m := by
  obtain ⟨A, c, rfl, -⟩ := id h
  obtain ⟨A', c', rfl, -⟩ := id h'
  obtain ⟨n, hn⟩ : ∃ n, Hid (l.length = n) := ⟨_, Lib.hid rfl⟩
  obtain ⟨n', hn'⟩ : ∃ n, Hid (l'.length = n) := ⟨_, Lib.hid rfl⟩
  rw [hn.out] at h hl ⊢
  rw [hn'.out] at h' hl' ⊢
  have HL := Lib.hid h
  have HL' := Lib.hid h'
  clear h h'
  by_cases hne : n = n'
  · subst hne
    go_enter Tryz.func20, Tryz.ntmps20
    go_wp2
    go_loopw [13] (fun u13 wr => ∃ k : Nat, k ≤ n ∧ u13 = .int .i64 k ∧ Hid (l.take k = l'.take k) ∧ Drewn W0 wr) (fun u13 _ => n - (intOf u13).toNat)
    case atStart => exact ⟨0, by omega, rfl, Lib.hid rfl, Drewn.refl _⟩
    case round =>
      obtain ⟨k, hk, rfl, hst, hdw⟩ := hrel
      have hbw := hdw.below
      by_cases hlt : k < n
      · obtain ⟨x, hx⟩ : ∃ x, l[k]? = some x := ⟨_, List.getElem?_eq_getElem (by have := hn.out; omega)⟩
        obtain ⟨y, hy⟩ : ∃ x, l'[k]? = some x := ⟨_, List.getElem?_eq_getElem (by have := hn'.out; omega)⟩
        obtain ⟨g, o, rfl, hg, d0, d1, d2, d3⟩ := (HL.out.below hbw (Nat.le_refl _)).get hx
        obtain ⟨g', o', rfl, hg', e0, e1, e2, e3⟩ := (HL'.out.below hbw (Nat.le_refl _)).get hy
        have HX := Lib.hid hx
        have HY := Lib.hid hy
        clear hx hy
        obtain ⟨⟨x0, x1, x2⟩, x3⟩ := x
        obtain ⟨⟨y0, y1, y2⟩, y3⟩ := y
        dsimp only at d0 d1 d2 d3 e0 e1 e2 e3
        have bk1 : (0 : Int) ≤ k := by omega
        have bk2 : (k : Int) < n := by omega
        have no0 : Hid (x0 ≠ y0 → ¬ l = l') := Lib.hid fun hf e => hf (by have h1 := HX.out; rw [e, HY.out] at h1; have h2 := Option.some.inj h1; cases h2; rfl)
        have no1 : Hid (x1 ≠ y1 → ¬ l = l') := Lib.hid fun hf e => hf (by have h1 := HX.out; rw [e, HY.out] at h1; have h2 := Option.some.inj h1; cases h2; rfl)
        have no2 : Hid (x2 ≠ y2 → ¬ l = l') := Lib.hid fun hf e => hf (by have h1 := HX.out; rw [e, HY.out] at h1; have h2 := Option.some.inj h1; cases h2; rfl)
        have no3 : Hid (x3 ≠ y3 → ¬ l = l') := Lib.hid fun hf e => hf (by have h1 := HX.out; rw [e, HY.out] at h1; have h2 := Option.some.inj h1; cases h2; rfl)
        by_cases q0 : x0 = y0
        · subst q0
          by_cases q1 : x1 = y1
          · subst q1
            by_cases q2 : x2 = y2
            · subst q2
              by_cases q3 : x3 = y3
              · subst q3
                go_wp2
                go_quiet (fail)
                go_wp2
                go_roundw
                case rel => exact ⟨k + 1, by omega, by go_num, Lib.hid (take_eq_succ HX.out HY.out hst.out rfl), hdw.drewN _⟩
                case measure => simp [intOf]; omega
              · have nf := Lib.hid (no3.out q3)
                go_wp2
                go_quiet (fail)
                go_wp2
                go_ret
                exact ⟨by rw [decide_eq_false nf.out]; rfl, (hdw.drewN _).out⟩
            · have nf := Lib.hid (no2.out q2)
              go_wp2
              go_quiet (fail)
              go_wp2
              go_ret
              exact ⟨by rw [decide_eq_false nf.out]; rfl, (hdw.drewN _).out⟩
          · have nf := Lib.hid (no1.out q1)
            go_wp2
            go_quiet (fail)
            go_wp2
            go_ret
            exact ⟨by rw [decide_eq_false nf.out]; rfl, (hdw.drewN _).out⟩
        · have nf := Lib.hid (no0.out q0)
          go_wp2
          go_quiet (fail)
          go_wp2
          go_ret
          exact ⟨by rw [decide_eq_false nf.out]; rfl, (hdw.drewN _).out⟩
      · go_wp2
        go_ret
        have h1 := hst.out
        rw [List.take_of_length_le (by have := hn.out; omega), List.take_of_length_le (by have := hn'.out; omega)] at h1
        exact ⟨by rw [decide_eq_true h1]; rfl, hdw.out⟩
  · have hnb : decide ((n : Int) = n') = false := decide_eq_false (by omega)
    go_enter Tryz.func20, Tryz.ntmps20
    go_wp2
    go_ret
    exact ⟨by rw [decide_eq_false (fun h => hne (by rw [← hn.out, ← hn'.out, h]))]; rfl, (Drewn.refl _).out⟩

theorem sameBags_any (s s' : Value) (l l' : List (List It)) (W0 : World) (h : BagsAt W0 s l) (h' : BagsAt W0 s' l') (hl : l.length ≤ 9223372036854775807) (hl' : l'.length ≤ 9223372036854775807)
    (hs : ∀ x ∈ l, x.length ≤ 9223372036854775807) (hs' : ∀ x ∈ l', x.length ≤ 9223372036854775807) : Calls Tryz.prog 33 #[s, s'] W0 fun e w' => e = .returned (.bool (decide (l = l'))) ∧ ∃ m, w' = W0.drewN m := by
  obtain ⟨A, c, rfl, -⟩ := id h
  obtain ⟨A', c', rfl, -⟩ := id h'
  obtain ⟨n, hn⟩ : ∃ n, Hid (l.length = n) := ⟨_, Lib.hid rfl⟩
  obtain ⟨n', hn'⟩ : ∃ n, Hid (l'.length = n) := ⟨_, Lib.hid rfl⟩
  rw [hn.out] at h hl ⊢
  rw [hn'.out] at h' hl' ⊢
  have HL := Lib.hid h
  have HL' := Lib.hid h'
  have HS := Lib.hid hs
  have HS' := Lib.hid hs'
  clear h h' hs hs'
  by_cases hne : n = n'
  · subst hne
    go_enter Tryz.func33, Tryz.ntmps33
    go_wp2
    go_loopw [13] (fun u13 wr => ∃ k : Nat, k ≤ n ∧ u13 = .int .i64 k ∧ Hid (l.take k = l'.take k) ∧ Drewn W0 wr) (fun u13 _ => n - (intOf u13).toNat)
    case atStart => exact ⟨0, by omega, rfl, Lib.hid rfl, Drewn.refl _⟩
    case round =>
      obtain ⟨k, hk, rfl, hst, hdw⟩ := hrel
      have hbw := hdw.below
      by_cases hlt : k < n
      · obtain ⟨x, hx⟩ : ∃ x, l[k]? = some x := ⟨_, List.getElem?_eq_getElem (by have := hn.out; omega)⟩
        obtain ⟨y, hy⟩ : ∃ x, l'[k]? = some x := ⟨_, List.getElem?_eq_getElem (by have := hn'.out; omega)⟩
        obtain ⟨g, o, s, rfl, hg, d0, bx⟩ := (HL.out.below hbw (Nat.le_refl _)).get hx
        obtain ⟨g', o', s', rfl, hg', e0, by_⟩ := (HL'.out.below hbw (Nat.le_refl _)).get hy
        have HX := Lib.hid hx
        have HY := Lib.hid hy
        clear hx hy
        obtain ⟨q, hq⟩ : ∃ q, Hid (decide (x = y) = q) := ⟨_, Lib.hid rfl⟩
        have cS : ∀ m, Calls Tryz.prog 20 #[s, s'] (wr.drewN m) fun e w' => e = .returned (.bool q) ∧ ∃ m', w' = (wr.drewN m).drewN m' := fun m => by
          have hb := drewN_below (Below.refl wr.heap.size wr) m
          rw [← hq.out]
          exact sameBag_any s s' x y _ (bx.below hb (Nat.le_refl _)) (by_.below hb (Nat.le_refl _)) (HS.out x (List.mem_of_getElem? HX.out)) (HS'.out y (List.mem_of_getElem? HY.out))
        obtain ⟨sA, sn, sc, rfl⟩ : ∃ A sn sc, s = .slice A sn sc := by obtain ⟨A, c, rfl, -⟩ := bx; exact ⟨A, _, c, rfl⟩
        obtain ⟨sA', sn', sc', rfl⟩ : ∃ A sn sc, s' = .slice A sn sc := by obtain ⟨A, c, rfl, -⟩ := by_; exact ⟨A, _, c, rfl⟩
        clear bx by_
        have bk1 : (0 : Int) ≤ k := by omega
        have bk2 : (k : Int) < n := by omega
        cases q with
        | true =>
          go_wp2
          go_quiet (exact Calls.quiet_of (cS _))
          go_wp2
          go_roundw
          case rel => exact ⟨k + 1, by omega, by go_num, Lib.hid (take_eq_succ HX.out HY.out hst.out (of_decide_eq_true hq.out)), hdw.drewN _⟩
          case measure => simp [intOf]; omega
        | false =>
          have nf : Hid (¬ l = l') := Lib.hid fun e => of_decide_eq_false hq.out (by have h1 := HX.out; rw [e, HY.out] at h1; exact (Option.some.inj h1).symm)
          go_wp2
          go_quiet (exact Calls.quiet_of (cS _))
          go_wp2
          go_ret
          exact ⟨by rw [decide_eq_false nf.out]; rfl, (hdw.drewN _).out⟩
      · go_wp2
        go_ret
        have h1 := hst.out
        rw [List.take_of_length_le (by have := hn.out; omega), List.take_of_length_le (by have := hn'.out; omega)] at h1
        exact ⟨by rw [decide_eq_true h1]; rfl, hdw.out⟩
  · have hnb : decide ((n : Int) = n') = false := decide_eq_false (by omega)
    go_enter Tryz.func33, Tryz.ntmps33
    go_wp2
    go_ret
    exact ⟨by rw [decide_eq_false (fun h => hne (by rw [← hn.out, ← hn'.out, h]))]; rfl, (Drewn.refl _).out⟩
end Go.Proofs.YtimlgclejaoboaaGreatDoor
