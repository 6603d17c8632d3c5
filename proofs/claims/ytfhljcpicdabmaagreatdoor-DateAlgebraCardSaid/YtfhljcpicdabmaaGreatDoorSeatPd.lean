/- The seat: spans placed by a net, the project's side: fits. -/
import Derived.Test.YtfhljcpicdabmaaGreatDoorSeatPc
namespace Go.Proofs.YtfhljcpicdabmaaGreatDoor
open Go Go.RowKit Go.Ev Go.WayM
set_option maxRecDepth 100000
set_option maxHeartbeats 1000000
theorem nextTo_next (net : Net) (l : List Sp) (s : Sp) (k : Nat) : nextTo net l s (k + 1) = (nextTo net l s k && (okP net k l.length (nth l k) s && okP net l.length k s (nth l k))) := all_succ _ k
theorem fitsNext_self {net : Net} {l : List Sp} {s : Sp} (h : okP net l.length l.length s s = false) : fitsNext net l s = false := by
  unfold fitsNext; rw [h, Bool.false_and]
theorem fitsNext_no {net : Net} {l : List Sp} {s : Sp} {k : Nat} (hk : k < l.length) (h : (okP net k l.length (nth l k) s && okP net l.length k s (nth l k)) = false) : fitsNext net l s = false := by
  rw [Bool.eq_false_iff]
  intro hf
  have := ((fitsNext_iff net l s).1 hf).2 k hk
  rw [this.1, this.2] at h
  cases h
theorem W_self {s : Sp} : W s s = 7 := by
  unfold W wl
  rw [if_pos rfl, if_pos rfl]
abbrev NextAt (W1 : World) (g gi gj g1 i1 g2 i2 B5 B9 : Nat) (va vb : Value) (x y : Int) (a p : Sp) (w : World) : Prop := w.cell? ⟨g, gi, none⟩ = some va ∧ w.cell? ⟨g1, i1, none⟩ = some (.int .i64 x) ∧ w.cell? ⟨g, gj, none⟩ = some vb ∧ w.cell? ⟨g2, i2, none⟩ = some (.int .i64 y) ∧ w.cell? ⟨B9, 0, none⟩ = some (.int .i64 a.1) ∧ w.cell? ⟨B9, 1, none⟩ = some (.int .i64 a.2) ∧ w.cell? ⟨B5, 0, none⟩ = some (.int .i64 p.1) ∧ w.cell? ⟨B5, 1, none⟩ = some (.int .i64 p.2) ∧ W1.heap.size ≤ w.heap.size ∧ Below W1.heap.size W1 w
theorem nextAt_below {W1 : World} {g gi gj g1 i1 g2 i2 B5 B9 : Nat} {va vb : Value} {x y : Int} {a p : Sp} {w : World} (h : NextAt W1 g gi gj g1 i1 g2 i2 B5 B9 va vb x y a p w) : Below W1.heap.size W1 w := h.2.2.2.2.2.2.2.2.2
theorem fitsP_any (s sl : Value) (net : Net) (l : List Sp) (p : Sp) (W0 : World) (h : NetAt W0 s net) (hl : SpAt W0 sl l) (hN : Hid (netB net = true)) (hlen : l.length < net.length) (hg : Hid (∀ p ∈ l, p.1 < p.2)) (gp : p.1 < p.2) :
    Calls Tryz.prog 163 #[s, sl, .agg #[.int .i64 p.1, .int .i64 p.2]] W0 fun e w' => e = .returned (.bool (fitsNext net l p)) ∧ Below W0.heap.size W0 w' := by
  obtain ⟨A, c, rfl, _⟩ := id h
  obtain ⟨B, cl, rfl, _⟩ := id hl
  obtain ⟨n, hn⟩ : ∃ n, Hid (net.length = n) := ⟨_, Lib.hid rfl⟩
  obtain ⟨m, hm⟩ : ∃ m, Hid (l.length = m) := ⟨_, Lib.hid rfl⟩
  have h4 := netB_four hN.out
  rw [hn.out] at h h4 hlen ⊢
  rw [hm.out] at hl hlen ⊢
  have hm4 : m ≤ 4 := by omega
  obtain ⟨row, hrow, hrl, hx, x1, x2⟩ := netB_get hN.out (i := m) (j := m) (by have := hn.out; omega) (by have := hn.out; omega)
  obtain ⟨g, o, g', o', c', hA, hgs, hgs', c1, c2⟩ := h.get hrow hx
  rw [hrl, hn.out] at c1
  clear hrow hx hrl
  have bm1 : (0 : Int) ≤ m := by omega
  have bm2 : (m : Int) < n := by omega
  obtain ⟨x, hxx⟩ : ∃ x, Hid (at2 net m m = x) := ⟨_, Lib.hid rfl⟩
  rw [hxx.out] at c2 x1 x2
  obtain ⟨q0, hq0⟩ : ∃ q0, Hid (bitI x 7 = q0) := ⟨_, Lib.hid rfl⟩
  have hself : Hid (okP net l.length l.length p p = q0) := Lib.hid (by unfold okP; rw [W_self, hm.out, hxx.out, hq0.out])
  have hbox := Box.new W0 p 48
  have hnet0 := h.below (below_new W0 (.cells #[.int .i64 p.1, .int .i64 p.2] 48)) (Nat.le_refl _)
  have hsp0 := hl.below (below_new W0 (.cells #[.int .i64 p.1, .int .i64 p.2] 48)) (Nat.le_refl _)
  have hbw0 := below_new W0 (.cells #[.int .i64 p.1, .int .i64 p.2] 48)
  clear h hl
  subst hA
  cases q0 with
  | false =>
    go_enter Tryz.func163, Tryz.ntmps163
    go_wp2_with (go_at_call 115; refine (hasWay_I x 7 false _ x1 x2 (by decide) (by decide) hq0.out).mono ?_; rintro e w' ⟨rfl, rfl⟩)
    go_ret
    exact ⟨ret_b (fitsNext_self hself.out).symm, hbw0⟩
  | true =>
    go_enter Tryz.func163, Tryz.ntmps163
    go_wp2_with (go_at_call 115; refine (hasWay_I x 7 true _ x1 x2 (by decide) (by decide) hq0.out).mono ?_; rintro e w' ⟨rfl, rfl⟩)
    clear hgs hgs' c1 c2 x1 x2 hxx hq0
    obtain ⟨B5, hB5⟩ : ∃ B5, W0.heap.size = B5 := ⟨_, rfl⟩
    have HB5 := Lib.hid hB5
    rw [hB5] at hbox ⊢
    clear hB5
    generalize W0.alloc (.cells #[.int .i64 p.1, .int .i64 p.2] 48) = wb at hbox hnet0 hsp0 hbw0 ⊢
    go_loopw [23] (fun u23 wr => ∃ k : Nat, k ≤ m ∧ u23 = .int .i64 k ∧ Hid (nextTo net l p k = true) ∧ NetAt wr (.slice (some ⟨g, o, none⟩) n c) net ∧ SpAt wr (.slice B m cl) l ∧ Box wr B5 p ∧ Below W0.heap.size W0 wr) (fun u23 _ => m - (intOf u23).toNat)
    case atStart => exact ⟨0, by omega, rfl, Lib.hid rfl, hnet0, hsp0, hbox, hbw0⟩
    case round =>
      obtain ⟨k, hk, rfl, hnx, hnet, hsp, hbx, hbw⟩ := hrel
      clear hnet0 hsp0 hbox hbw0
      by_cases hlt : k < m
      · have hpk := nth_get (l := l) (i := k) (by have := hm.out; omega)
        obtain ⟨gl, ol, rfl, hgl, d0, d1⟩ := hsp.get hpk
        have ga := hg.out _ (List.mem_of_getElem? hpk)
        obtain ⟨a, ha⟩ : ∃ a, Hid (nth l k = a) := ⟨_, Lib.hid rfl⟩
        rw [ha.out] at d0 d1 ga
        clear hpk
        have bk1 : (0 : Int) ≤ k := by omega
        have bk2 : (k : Int) < n := by omega
        have bk3 : (k : Int) < m := by omega
        go_wp2
        have hbox9 := Box.new wr a 48
        have bnew := below_new wr (.cells #[.int .i64 a.1, .int .i64 a.2] 48)
        have hnet1 := hnet.below bnew (Nat.le_refl _)
        have hsp1 := hsp.below bnew (Nat.le_refl _)
        have hbx1 := hbx.below bnew hbx.2.2
        have hbw1 := hbw.trans (bnew.mono hbw.size)
        clear hnet hsp hbx hbw bnew d0 d1 hgl
        obtain ⟨B9, hB9⟩ : ∃ B9, wr.heap.size = B9 := ⟨_, rfl⟩
        rw [hB9] at hbox9 ⊢
        clear hB9
        generalize wr.alloc (.cells #[.int .i64 a.1, .int .i64 a.2] 48) = wa at hbox9 hnet1 hsp1 hbx1 hbw1 ⊢
        obtain ⟨row, hrow, hrl, hx, x1, x2⟩ := netB_get hN.out (i := k) (j := m) (by have := hn.out; omega) (by have := hn.out; omega)
        obtain ⟨row', hrow', hrl', hx', x1', x2'⟩ := netB_get hN.out (i := m) (j := k) (by have := hn.out; omega) (by have := hn.out; omega)
        obtain ⟨g0, o0, g1, o1, c1, he, hgs, hg1, e0, e1⟩ := hnet1.get hrow hx
        cases he
        obtain ⟨g0, o0, g2, o2, c2, he, _, hg2, e2, e3⟩ := hnet1.get hrow' hx'
        cases he
        rw [hrl, hn.out] at e0
        rw [hrl', hn.out] at e2
        clear hrow hx hrow' hx' hrl hrl'
        obtain ⟨x, hxx⟩ : ∃ x, Hid (at2 net k m = x) := ⟨_, Lib.hid rfl⟩
        obtain ⟨y, hyy⟩ : ∃ y, Hid (at2 net m k = y) := ⟨_, Lib.hid rfl⟩
        rw [hxx.out] at e1 x1 x2
        rw [hyy.out] at e3 x1' x2'
        obtain ⟨m1, hm1⟩ : ∃ m1, Hid (W a p = m1) := ⟨_, Lib.hid rfl⟩
        obtain ⟨m2, hm2⟩ : ∃ m2, Hid (W p a = m2) := ⟨_, Lib.hid rfl⟩
        have hmb := W_bd a p
        rw [hm1.out] at hmb
        obtain ⟨g1', g2'⟩ := hmb
        have hmb := W_bd p a
        rw [hm2.out] at hmb
        obtain ⟨g4', g5'⟩ := hmb
        have g3 : 0 ≤ m1 := by omega
        have g6 : 0 ≤ m2 := by omega
        obtain ⟨q, hq⟩ : ∃ q, Hid (bitI x m1 = q) := ⟨_, Lib.hid rfl⟩
        obtain ⟨q', hq'⟩ : ∃ q', Hid (bitI y m2 = q') := ⟨_, Lib.hid rfl⟩
        have hok : Hid ((okP net k l.length (nth l k) p && okP net l.length k p (nth l k)) = (q && q')) := Lib.hid (by unfold okP; rw [ha.out, hm.out, hm1.out, hm2.out, hxx.out, hyy.out, hq.out, hq'.out])
        obtain ⟨y0, y1, z9⟩ := id hbox9
        obtain ⟨y2, y3, z5⟩ := id hbx1
        have kb : Below wa.heap.size wa wa := Below.refl _ _
        cases q with
        | true =>
          go_region_held3 (NextAt wa g (o + k) (o + m) g1 (o1 + m) g2 (o2 + k) B5 B9 (.slice (some ⟨g1, o1, none⟩) n c1) (.slice (some ⟨g2, o2, none⟩) n c2) x y a p)
            ((refine ⟨?_, ?_, ?_, ?_, ?_, ?_, ?_, ?_, ?_, ?_⟩ <;> (first | go_keep | omega | assumption | exact Below.drew (by assumption) | (rw [hcc _ _ (by first | exact hgs | exact hg1 | exact hg2 | exact z9 | exact z5 | omega)]; first | exact e0 | exact e1 | exact e2 | exact e3 | exact y0 | exact y1 | exact y2 | exact y3 | go_keep) | (have := hb.size; omega))))
            (first | (go_at_call 110; with_reducible refine (wayS a p m1 _ ga gp hm1.out).mono ?_; rintro e w' ⟨rfl, hb⟩; have hbW : Below wa.heap.size wa w' := Below.trans (by first | assumption | exact nextAt_below (by assumption) | exact Below.drew (by assumption)) (hb.mono (by first | omega | (simp; done) | (simp; omega))); have hsz := hbW.size; obtain ⟨hcc, hff⟩ := bcell' hb) | (go_at_call 110; with_reducible refine (wayS p a m2 _ gp ga hm2.out).mono ?_; rintro e w' ⟨rfl, hb⟩; have hbW : Below wa.heap.size wa w' := Below.trans (by first | assumption | exact nextAt_below (by assumption) | exact Below.drew (by assumption)) (hb.mono (by first | omega | (simp; done) | (simp; omega))); have hsz := hbW.size; obtain ⟨hcc, hff⟩ := bcell' hb) | (go_at_call 115; with_reducible refine (hasWay_I x m1 true _ x1 x2 g3 g2' hq.out).mono ?_; rintro e w' ⟨rfl, rfl⟩) | (go_at_call 115; with_reducible refine (hasWay_I y m2 q' _ x1' x2' g6 g5' hq'.out).mono ?_; rintro e w' ⟨rfl, rfl⟩))
          have bw : Below wa.heap.size wa w' := nextAt_below (by assumption)
          have hnet2 := hnet1.below bw (Nat.le_refl _)
          have hsp2 := hsp1.below bw (Nat.le_refl _)
          have hbx2 := hbx1.below bw z5
          have hbw2 : Below W0.heap.size W0 w' := hbw1.trans (bw.mono hbw1.size)
          clear bw hnet1 hsp1 hbx1 hbw1 e0 e1 e2 e3 y0 y1 y2 y3
          cases q' with
          | true =>
            go_wp2
            go_roundw
            case rel =>
              refine ⟨k + 1, by omega, by go_num, Lib.hid ?_, hnet2, hsp2, hbx2, hbw2⟩
              rw [nextTo_next, hnx.out, hok.out]; rfl
            case measure => simp [intOf]; omega
          | false =>
            go_wp2
            go_ret
            exact ⟨ret_b (fitsNext_no (by have := hm.out; omega) hok.out).symm, hbw2⟩
        | false =>
          · have hS0 : NextAt wa g (o + k) (o + m) g1 (o1 + m) g2 (o2 + k) B5 B9 (.slice (some ⟨g1, o1, none⟩) n c1) (.slice (some ⟨g2, o2, none⟩) n c2) x y a p wa.drew := ⟨e0, e1, e2, e3, y0, y1, y2, y3, Nat.le_refl _, Below.drew kb⟩
            refine wp_region_noPanic ?_
            refine wp_region_held (S := NextAt wa g (o + k) (o + m) g1 (o1 + m) g2 (o2 + k) B5 B9 (.slice (some ⟨g1, o1, none⟩) n c1) (.slice (some ⟨g2, o2, none⟩) n c2) x y a p) (by kernel_rfl) ?_
            refine wpAnyH_take_at 0 (some 28) (.slice (some ⟨g, o, none⟩) n c) rfl rfl (by kernel_rfl) (by kernel_rfl) (by kernel_rfl) (fun _ _ _ h => h) (.inl ⟨by rfl, fun wz hSw => ?_⟩) hS0 ?_
            · (try dsimp only at hSw); go_simp
            try simp only [Act.put, List.setIfInBounds_toArray, List.set_cons_zero, List.set_cons_succ]
            refine wpAnyH_take_at 1 (some 29) (.int .i64 k) rfl rfl (by kernel_rfl) (by kernel_rfl) (by kernel_rfl) (fun _ _ _ h => h) (.inl ⟨by rfl, fun wz hSw => ?_⟩) hS0 ?_
            · (try dsimp only at hSw); go_simp
            try simp only [Act.put, List.setIfInBounds_toArray, List.set_cons_zero, List.set_cons_succ]
            refine wpAnyH_take_at 2 (some 30) (.pointer (some ⟨g, o + k, none⟩)) rfl rfl (by kernel_rfl) (by kernel_rfl) (by kernel_rfl) (fun _ _ _ h => h) (.inl ⟨by rfl, fun wz hSw => ?_⟩) hS0 ?_
            · (try dsimp only at hSw); go_simp
            try simp only [Act.put, List.setIfInBounds_toArray, List.set_cons_zero, List.set_cons_succ]
            refine wpAnyH_take_at 3 (some 31) (.slice (some ⟨g1, o1, none⟩) n c1) rfl rfl (by kernel_rfl) (by kernel_rfl) (by kernel_rfl) (fun _ _ _ h => h) (.inl ⟨by rfl, fun wz hSw => ?_⟩) hS0 ?_
            · (try dsimp only at hSw); go_simp
            try simp only [Act.put, List.setIfInBounds_toArray, List.set_cons_zero, List.set_cons_succ]
            refine wpAnyH_take_at 4 (some 32) (.int .i64 m) rfl rfl (by kernel_rfl) (by kernel_rfl) (by kernel_rfl) (fun _ _ _ h => h) (.inl ⟨by rfl, fun wz hSw => ?_⟩) hS0 ?_
            · (try dsimp only at hSw); go_simp
            try simp only [Act.put, List.setIfInBounds_toArray, List.set_cons_zero, List.set_cons_succ]
            refine wpAnyH_take_at 5 (some 33) (.pointer (some ⟨g1, o1 + m, none⟩)) rfl rfl (by kernel_rfl) (by kernel_rfl) (by kernel_rfl) (fun _ _ _ h => h) (.inl ⟨by rfl, fun wz hSw => ?_⟩) hS0 ?_
            · (try dsimp only at hSw); go_simp
            try simp only [Act.put, List.setIfInBounds_toArray, List.set_cons_zero, List.set_cons_succ]
            refine wpAnyH_take_at 6 (some 34) (.int .i64 x) rfl rfl (by kernel_rfl) (by kernel_rfl) (by kernel_rfl) (fun _ _ _ h => h) (.inl ⟨by rfl, fun wz hSw => ?_⟩) hS0 ?_
            · (try dsimp only at hSw); go_simp
            try simp only [Act.put, List.setIfInBounds_toArray, List.set_cons_zero, List.set_cons_succ]
            refine wpAnyH_take_at 7 (some 35) (.agg #[.int .i64 a.1, .int .i64 a.2]) rfl rfl (by kernel_rfl) (by kernel_rfl) (by kernel_rfl) (fun _ _ _ h => h) (.inl ⟨by rfl, fun wz hSw => ?_⟩) hS0 ?_
            · (try dsimp only at hSw); go_simp
            try simp only [Act.put, List.setIfInBounds_toArray, List.set_cons_zero, List.set_cons_succ]
            refine wpAnyH_take_at 8 (some 36) (.agg #[.int .i64 p.1, .int .i64 p.2]) rfl rfl (by kernel_rfl) (by kernel_rfl) (by kernel_rfl) (fun _ _ _ h => h) (.inl ⟨by rfl, fun wz hSw => ?_⟩) hS0 ?_
            · (try dsimp only at hSw); go_simp
            try simp only [Act.put, List.setIfInBounds_toArray, List.set_cons_zero, List.set_cons_succ]
            refine wpAnyH_one (j := 9) (by kernel_rfl) ?_
            refine wpOp_yes' rfl rfl ?_
            go_simp
            go_at_call 110
            with_reducible refine (wayS a p m1 _ ga gp hm1.out).mono ?_
            rintro e w5 ⟨rfl, hb5⟩
            have bw5 : Below wa.heap.size wa w5 := (Below.drew (Below.refl _ _)).trans (hb5.mono (Nat.le_refl _))
            obtain ⟨hcc5, hff5⟩ := bcell' bw5
            have hS5 : NextAt wa g (o + k) (o + m) g1 (o1 + m) g2 (o2 + k) B5 B9 (.slice (some ⟨g1, o1, none⟩) n c1) (.slice (some ⟨g2, o2, none⟩) n c2) x y a p w5 := ⟨(hcc5 _ _ hgs).trans e0, (hcc5 _ _ hg1).trans e1, (hcc5 _ _ hgs).trans e2, (hcc5 _ _ hg2).trans e3, (hcc5 _ _ z9).trans y0, (hcc5 _ _ z9).trans y1, (hcc5 _ _ z5).trans y2, (hcc5 _ _ z5).trans y3, bw5.size, bw5⟩
            clear hcc5 hff5
            refine ⟨hS5, ?_⟩
            try simp only [Act.put, List.setIfInBounds_toArray, List.set_cons_zero, List.set_cons_succ]
            refine wpAnyH_one (j := 10) (by kernel_rfl) ?_
            refine wpOp_yes' rfl rfl ?_
            go_simp
            go_at_call 115
            with_reducible refine (hasWay_I x m1 false _ x1 x2 g3 g2' hq.out).mono ?_
            rintro e w6 ⟨rfl, rfl⟩
            refine ⟨hS5, ?_⟩
            try simp only [Act.put, List.setIfInBounds_toArray, List.set_cons_zero, List.set_cons_succ]
            refine wpAnyH_take_at 11 (some 39) (.bool true) rfl rfl (by kernel_rfl) (by kernel_rfl) (by kernel_rfl) (fun _ _ _ h => h) (.inl ⟨by rfl, fun wz hSw => ?_⟩) hS5 ?_
            · (try dsimp only at hSw); go_simp
            try simp only [Act.put, List.setIfInBounds_toArray, List.set_cons_zero, List.set_cons_succ]
            refine wpAnyH_take_at 12 (some 40) (.bool true) rfl rfl (by kernel_rfl) (by kernel_rfl) (by kernel_rfl) (fun _ _ _ h => h) (.inl ⟨by rfl, fun wz hSw => ?_⟩) hS5 ?_
            · (try dsimp only at hSw); go_simp
            try simp only [Act.put, List.setIfInBounds_toArray, List.set_cons_zero, List.set_cons_succ]
            refine wpAnyH_take_at 13 (some 41) (undef) rfl rfl (by kernel_rfl) (by kernel_rfl) (by kernel_rfl) (fun _ _ _ h => h) (.inr ⟨by rfl, rfl⟩) hS5 ?_
            try simp only [Act.put, List.setIfInBounds_toArray, List.set_cons_zero, List.set_cons_succ]
            refine wpAnyH_take_at 14 (some 42) (undef) rfl rfl (by kernel_rfl) (by kernel_rfl) (by kernel_rfl) (fun _ _ _ h => h) (.inr ⟨by rfl, rfl⟩) hS5 ?_
            try simp only [Act.put, List.setIfInBounds_toArray, List.set_cons_zero, List.set_cons_succ]
            refine wpAnyH_take_at 15 (some 43) (undef) rfl rfl (by kernel_rfl) (by kernel_rfl) (by kernel_rfl) (fun _ _ _ h => h) (.inr ⟨by rfl, rfl⟩) hS5 ?_
            try simp only [Act.put, List.setIfInBounds_toArray, List.set_cons_zero, List.set_cons_succ]
            refine wpAnyH_take_at 16 (some 44) (undef) rfl rfl (by kernel_rfl) (by kernel_rfl) (by kernel_rfl) (fun _ _ _ h => h) (.inr ⟨by rfl, rfl⟩) hS5 ?_
            try simp only [Act.put, List.setIfInBounds_toArray, List.set_cons_zero, List.set_cons_succ]
            refine wpAnyH_take_at 17 (some 45) (undef) rfl rfl (by kernel_rfl) (by kernel_rfl) (by kernel_rfl) (fun _ _ _ h => h) (.inr ⟨by rfl, rfl⟩) hS5 ?_
            try simp only [Act.put, List.setIfInBounds_toArray, List.set_cons_zero, List.set_cons_succ]
            refine wpAnyH_take_at 18 (some 46) (undef) rfl rfl (by kernel_rfl) (by kernel_rfl) (by kernel_rfl) (fun _ _ _ h => h) (.inr ⟨by rfl, rfl⟩) hS5 ?_
            try simp only [Act.put, List.setIfInBounds_toArray, List.set_cons_zero, List.set_cons_succ]
            refine wpAnyH_take_at 19 (some 47) (undef) rfl rfl (by kernel_rfl) (by kernel_rfl) (by kernel_rfl) (fun _ _ _ h => h) (.inr ⟨by rfl, rfl⟩) hS5 ?_
            try simp only [Act.put, List.setIfInBounds_toArray, List.set_cons_zero, List.set_cons_succ]
            refine wpAnyH_take_at 20 (some 48) (undef) rfl rfl (by kernel_rfl) (by kernel_rfl) (by kernel_rfl) (fun _ _ _ h => h) (.inr ⟨by rfl, rfl⟩) hS5 ?_
            try simp only [Act.put, List.setIfInBounds_toArray, List.set_cons_zero, List.set_cons_succ]
            refine wpAnyH_take_at 21 (some 49) (undef) rfl rfl (by kernel_rfl) (by kernel_rfl) (by kernel_rfl) (fun _ _ _ h => h) (.inr ⟨by rfl, rfl⟩) hS5 ?_
            try simp only [Act.put, List.setIfInBounds_toArray, List.set_cons_zero, List.set_cons_succ]
            refine wpAnyH_take_at 22 (some 50) (undef) rfl rfl (by kernel_rfl) (by kernel_rfl) (by kernel_rfl) (fun _ _ _ h => h) (.inr ⟨by rfl, rfl⟩) hS5 ?_
            try simp only [Act.put, List.setIfInBounds_toArray, List.set_cons_zero, List.set_cons_succ]
            refine wpAnyH_take_at 23 (some 51) (undef) rfl rfl (by kernel_rfl) (by kernel_rfl) (by kernel_rfl) (fun _ _ _ h => h) (.inr ⟨by rfl, rfl⟩) hS5 ?_
            try simp only [Act.put, List.setIfInBounds_toArray, List.set_cons_zero, List.set_cons_succ]
            refine wpAnyH_take_at 24 (some 52) (undef) rfl rfl (by kernel_rfl) (by kernel_rfl) (by kernel_rfl) (fun _ _ _ h => h) (.inr ⟨by rfl, rfl⟩) hS5 ?_
            try simp only [Act.put, List.setIfInBounds_toArray, List.set_cons_zero, List.set_cons_succ]
            refine wpAnyH_take_at 25 (some 53) (.bool true) rfl rfl (by kernel_rfl) (by kernel_rfl) (by kernel_rfl) (fun _ _ _ h => h) (.inl ⟨by rfl, fun wz hSw => ?_⟩) hS5 ?_
            · (try dsimp only at hSw); go_simp
            try simp only [Act.put, List.setIfInBounds_toArray, List.set_cons_zero, List.set_cons_succ]
            refine wpAnyH_done (by kernel_rfl) ?_ _
            simp only [NoPanic]
            go_wp2
            go_ret
            exact ⟨ret_b (fitsNext_no (by have := hm.out; omega) hok.out).symm, hbw1.trans (bw5.mono hbw1.size)⟩
      · have hkm : k = m := by omega
        have HK := Lib.hid hkm
        clear hkm
        go_wp2
        go_ret
        have := hnx.out
        rw [HK.out, ← hm.out] at this
        exact ⟨ret_b (by unfold fitsNext; rw [hself.out, this]; rfl), hbw⟩
end Go.Proofs.YtfhljcpicdabmaaGreatDoor
