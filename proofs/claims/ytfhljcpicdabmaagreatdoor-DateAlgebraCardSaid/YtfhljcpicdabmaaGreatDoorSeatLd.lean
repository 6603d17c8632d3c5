/- The seat: the specification's chains of ways. -/
import Derived.Test.YtfhljcpicdabmaaGreatDoorSeatLc
import Derived.Test.YtfhljcpicdabmaaGreatDoorSeatLw
import Derived.StillTailTactics
import Derived.Deep.QuietTactic
import Derived.BigQuiet
import Derived.Deep.RegionHeld3
import Derived.Maps.AppendAt
namespace Go.Proofs.YtfhljcpicdabmaaGreatDoor
open Go Go.RowKit Go.Ev Go.WayM
set_option maxRecDepth 100000
set_option maxHeartbeats 0
def inner (v u x : Int) (a b : Sp) (l : List Sp) : Bool := decide (W a b = v) && l.any fun c => decide (W b c = u) && decide (W a c = x)
def mid (v u x : Int) (a : Sp) (l : List Sp) : Bool := l.any fun b => inner v u x a b S6
def outer (v u x : Int) (l : List Sp) : Bool := l.any fun a => mid v u x a S6
theorem outer_all (v u x : Int) : outer v u x S6 = follows v u x := rfl
theorem mid_next {v u x : Int} {a b : Sp} {l : List Sp} {j : Nat} (h : l[j]? = some b) : mid v u x a (l.take (j + 1)) = (mid v u x a (l.take j) || inner v u x a b S6) := by
  unfold mid; rw [take_next h, List.any_append]; simp
theorem outer_next {v u x : Int} {a : Sp} {l : List Sp} {i : Nat} (h : l[i]? = some a) : outer v u x (l.take (i + 1)) = (outer v u x (l.take i) || mid v u x a S6) := by
  unfold outer; rw [take_next h, List.any_append]; simp
theorem inner_next {v u x : Int} {a b c : Sp} {l : List Sp} {k : Nat} (h : l[k]? = some c) (hv : W a b = v) : inner v u x a b (l.take (k + 1)) = (inner v u x a b (l.take k) || (decide (W b c = u) && decide (W a c = x))) := by
  unfold inner; rw [take_next h, List.any_append]; simp [hv]
theorem inner_off {v u x : Int} {a b : Sp} {l : List Sp} (hv : ¬ W a b = v) : inner v u x a b l = false := by
  unfold inner; simp [hv]
/-- Two spans lie in a row; the world is an elder one, but for new blocks. -/
abbrev SpTwo (W1 : World) (r i j : Nat) (a b : Sp) (w : World) : Prop := w.cell? ⟨r, i * 2, none⟩ = some (.int .i64 a.1) ∧ w.cell? ⟨r, i * 2 + 1, none⟩ = some (.int .i64 a.2) ∧ w.cell? ⟨r, j * 2, none⟩ = some (.int .i64 b.1) ∧ w.cell? ⟨r, j * 2 + 1, none⟩ = some (.int .i64 b.2) ∧ r < w.heap.size ∧ Below W1.heap.size W1 w
theorem spTwo_below {W1 w : World} {r i j : Nat} {a b : Sp} (h : SpTwo W1 r i j a b w) : Below W1.heap.size W1 w := h.2.2.2.2.2
abbrev SpThree (W1 : World) (r i j k : Nat) (a b c : Sp) (w : World) : Prop := w.cell? ⟨r, i * 2, none⟩ = some (.int .i64 a.1) ∧ w.cell? ⟨r, i * 2 + 1, none⟩ = some (.int .i64 a.2) ∧ w.cell? ⟨r, j * 2, none⟩ = some (.int .i64 b.1) ∧ w.cell? ⟨r, j * 2 + 1, none⟩ = some (.int .i64 b.2) ∧ w.cell? ⟨r, k * 2, none⟩ = some (.int .i64 c.1) ∧ w.cell? ⟨r, k * 2 + 1, none⟩ = some (.int .i64 c.2) ∧ r < w.heap.size ∧ Below W1.heap.size W1 w
theorem spThree_below {W1 w : World} {r i j k : Nat} {a b c : Sp} (h : SpThree W1 r i j k a b c w) : Below W1.heap.size W1 w := h.2.2.2.2.2.2.2
theorem own_below {w w' : World} {B n : Nat} {s : Value} {xs : List Value} (h : w.ownsRow B 49 1 s n xs) (hb : Below w.heap.size w w') : w'.ownsRow B 49 1 s n xs := by
  have hg : w.grownBy w' none := ⟨hb.os, hb.tape, hb.output, hb.size, fun i hi _ => hb.block i hi⟩
  refine h.kept hg ?_
  by_cases e : s.ownBlock = none
  · exact .inl e
  · exact .inr e
theorem drewN_below {B : Nat} {a w : World} (h : Below B a w) (n : Nat) : Below B a (w.drewN n) := ⟨h.os, h.tape, h.output, h.size, h.block⟩
theorem k_end {W0 wr wz : World} {r n : Nat} {s : Value} {xs : List Value} (hown : wr.ownsRow W0.heap.size 49 1 s n xs) (hsp : SpansAt wr r S6) (hbw : Below W0.heap.size W0 wr) (bwz : Below wr.heap.size wr wz) : wz.ownsRow W0.heap.size 49 1 s n xs ∧ SpansAt wz r S6 ∧ Below W0.heap.size W0 wz :=
  ⟨own_below hown bwz, hsp.below bwz (spans_lt hsp), hbw.trans (bwz.mono hbw.size)⟩
theorem wpAnyH_take_at {P : Program} {md : Region.Mode} {ops : Array Oper} {Q : Exit → Act → World → Prop} {S : World → Prop} (i : Nat) (d : Option Tmp) (v : Value) {oi : Oper} {fuel : Nat} {listed : Array Bool} {a : Act} {w : World} (hi : ops[i]? = some oi) (hd : oi.dst = d)
    (hs : Region.noSelect ops = true) (hf : Region.free md ops listed i = true) (hr : (Region.ready md ops listed).contains i = true)
    (hQ : ∀ c a w, Q (.panic c) (a.put oi.dst v) w → Q (.panic c) a w) (hy : YieldsIf P ops S oi v a) (hS : S w)
    (h : wpAnyH P md ops Q S fuel (listed.setIfInBounds i true) (a.put d v) w) : wpAnyH P md ops Q S (fuel + 1) listed a w := by
  subst hd
  exact wpAnyH_take hi hs hf hr hQ hy hS h
theorem wpAnyH_one {P : Program} {md : Region.Mode} {ops : Array Oper} {Q : Exit → Act → World → Prop} {S : World → Prop} {fuel : Nat} {listed : Array Bool} {a : Act} {w : World} {j : Nat} (hr : Region.ready md ops listed = [j])
    (h : wpOp P ops Q j (fun a' w' => S w' ∧ wpAnyH P md ops Q S fuel (listed.setIfInBounds j true) a' w') a w) : wpAnyH P md ops Q S (fuel + 1) listed a w :=
  wpAnyH_all hr (by simp) fun i hi => by
    rw [List.mem_singleton] at hi
    subst hi
    exact h
theorem wpOp_yes' {P : Program} {ops : Array Oper} {Q : Exit → Act → World → Prop} {i : Nat} {o : Oper} {K : Act → World → Prop} {a : Act} {w : World} (h1 : ops[i]? = some o) (h2 : Region.wanted o (yielded ops a.tmps) = true) (h : o.wp P a w K Q) : wpOp P ops Q i K a w := by
  unfold wpOp
  simp only [h1, h2, if_true]
  exact .inl h
theorem chainOf_any (v u : Int) (W0 : World) : Calls Tryz.prog 117 #[.int .i64 v, .int .i64 u] W0 fun e w' => ∃ s, e = .returned s ∧ w'.ownsRow W0.heap.size 49 1 s (chainL v u).length ((chainL v u).map (Value.int .i64)) ∧ Below W0.heap.size W0 w' := by
  obtain ⟨i0, hi0, hz0, hz1, hz2⟩ := info_parts info49
  go_enter Tryz.func117, Tryz.ntmps117
  go_wp2_with fail
  refine (six162 _).mono ?_
  rintro e w1 ⟨r, kk, rfl, hr, hs, hb⟩
  go_wp2
  go_loopw [6, 7] (fun u6 u7 wr => ∃ n : Nat, n ≤ 13 ∧ u7 = .int .i64 ((n : Int) + 1) ∧ wr.ownsRow W0.heap.size 49 1 u6 (chainTo v u n).length ((chainTo v u n).map (Value.int .i64)) ∧ u6.ownBlock ≠ some r ∧ SpansAt wr r S6 ∧ Below W0.heap.size W0 wr) (fun _ u7 _ => (14 - intOf u7).toNat)
  case atStart => exact ⟨0, by omega, rfl, World.ownsRow_nil _ _ _ _, by simp [Value.ownBlock], hs, hb⟩
  case round =>
    obtain ⟨n, hn, rfl, hown, hrow, hsp, hbw⟩ := hrel
    clear hs hb
    by_cases hlt : n < 13
    · have hd : decide ((n : Int) + 1 ≤ 13) = true := decide_eq_true (by omega)
      go_wp2
      obtain ⟨x, hx⟩ : ∃ x : Int, Hid ((n : Int) + 1 = x) := ⟨_, Lib.hid rfl⟩
      rw [hx.out]
      clear hd
      go_loopw [8, 9] (fun u8 u9 wi => ∃ (i : Nat) (q : Bool), i ≤ 15 ∧ u9 = .int .i64 i ∧ u8 = .bool q ∧ Hid (q = outer v u x (S6.take i)) ∧ wi.ownsRow W0.heap.size 49 1 u6 (chainTo v u n).length ((chainTo v u n).map (Value.int .i64)) ∧ SpansAt wi r S6 ∧ Below W0.heap.size W0 wi) (fun _ u9 _ => 15 - (intOf u9).toNat)
      case atStart => exact ⟨0, false, by omega, rfl, rfl, Lib.hid rfl, hown, hsp, hbw⟩
      case round =>
        obtain ⟨i, q, hi, rfl, rfl, hq, hown1, hsp1, hbw1⟩ := hrel
        clear hown hsp hbw
        by_cases hli : i < 15
        · have hd1 : decide ((i : Int) < 15) = true := decide_eq_true (by omega)
          go_wp2
          clear hd1
          obtain ⟨a, ha, hal⟩ := S6_in hli
          have HA := Lib.hid ha
          clear ha
          go_loopw [8, 10] (fun u8 u10 wj => ∃ (j : Nat) (q1 : Bool), j ≤ 15 ∧ u10 = .int .i64 j ∧ u8 = .bool q1 ∧ Hid (q1 = (q || mid v u x a (S6.take j))) ∧ wj.ownsRow W0.heap.size 49 1 u6 (chainTo v u n).length ((chainTo v u n).map (Value.int .i64)) ∧ SpansAt wj r S6 ∧ Below W0.heap.size W0 wj) (fun _ u10 _ => 15 - (intOf u10).toNat)
          case atStart => exact ⟨0, q, by omega, rfl, rfl, Lib.hid (by simp [mid]), hown1, hsp1, hbw1⟩
          case round =>
            obtain ⟨j, q1, hj, rfl, rfl, hq1, hown2, hsp2, hbw2⟩ := hrel
            clear hown1 hsp1 hbw1
            by_cases hlj : j < 15
            · have hd2 : decide ((j : Int) < 15) = true := decide_eq_true (by omega)
              go_wp2
              clear hd2
              obtain ⟨b, hb, hbl⟩ := S6_in hlj
              have HB := Lib.hid hb
              clear hb
              go_loopw [8, 11] (fun u8 u11 wk => ∃ (k : Nat) (q2 : Bool), k ≤ 15 ∧ (k = 0 ∨ W a b = v) ∧ u11 = .int .i64 k ∧ u8 = .bool q2 ∧ Hid (q2 = (q1 || inner v u x a b (S6.take k))) ∧ wk.ownsRow W0.heap.size 49 1 u6 (chainTo v u n).length ((chainTo v u n).map (Value.int .i64)) ∧ SpansAt wk r S6 ∧ Below W0.heap.size W0 wk) (fun _ u11 _ => 15 - (intOf u11).toNat)
              case atStart => exact ⟨0, q1, by omega, .inl rfl, rfl, rfl, Lib.hid (by simp [inner]), hown2, hsp2, hbw2⟩
              case round =>
                obtain ⟨k, q2, hk, hkv, rfl, rfl, hq2, hown3, hsp3, hbw3⟩ := hrel
                clear hown2 hsp2 hbw2
                have HKV := Lib.hid hkv
                clear hkv
                have hrr := spans_lt hsp3
                obtain ⟨m, hm⟩ : ∃ m, Hid (W a b = m) := ⟨_, Lib.hid rfl⟩
                by_cases hlk : k < 15
                · obtain ⟨c0, c1⟩ := hsp3 i a HA.out
                  obtain ⟨d0, d1⟩ := hsp3 j b HB.out
                  have hd3 : decide ((k : Int) < 15) = true := decide_eq_true (by omega)
                  have bi1 : (0 : Int) ≤ i := by omega
                  have bi2 : (i : Int) < 15 := by omega
                  have bj1 : (0 : Int) ≤ j := by omega
                  have bj2 : (j : Int) < 15 := by omega
                  have HV : Hid (m = v ∨ k = 0) := Lib.hid (HKV.out.elim .inr fun h => .inl (by rw [← hm.out]; exact h))
                  by_cases hv : m = v
                  · obtain ⟨c, hc, hcl⟩ := S6_in hlk
                    obtain ⟨e0, e1⟩ := hsp3 k c hc
                    have HC := Lib.hid hc
                    clear hc
                    have bk1 : (0 : Int) ≤ k := by omega
                    have bk2 : (k : Int) < 15 := by omega
                    obtain ⟨m1, hm1⟩ : ∃ m, Hid (W b c = m) := ⟨_, Lib.hid rfl⟩
                    obtain ⟨m2, hm2⟩ : ∃ m, Hid (W a c = m) := ⟨_, Lib.hid rfl⟩
                    have HN := Lib.hid (inner_next (v := v) (u := u) (x := x) HC.out (by rw [hm.out]; exact hv))
                    have kb : Below wr.heap.size wr wr := Below.refl _ _
                    go_wp2
                    go_region_held3 (SpTwo wr r i j a b)
                      ((refine ⟨?_, ?_, ?_, ?_, ?_, ?_⟩ <;> (first | go_keep | omega | assumption | exact Below.drew (by assumption) | (rw [hcc _ _ (by first | exact hrr | omega)]; first | exact c0 | exact c1 | exact d0 | exact d1 | go_keep) | (have := hb.size; omega))))
                      (first | (go_at_call 112; with_reducible refine (wayRS a b m _ hal hbl hm.out).mono ?_; rintro e w' ⟨rfl, hb⟩; have hbW : Below wr.heap.size wr w' := Below.trans (by first | assumption | exact spTwo_below (by assumption) | exact Below.drew (by assumption)) (hb.mono (by first | omega | (simp; done) | (simp; omega))); have hsz := hbW.size; obtain ⟨hcc, hff⟩ := bcell' hb))
                    have hS : SpTwo wr r i j a b w' := by assumption
                    have bw := spTwo_below hS
                    obtain ⟨hcc4, hff4⟩ := bcell' bw
                    have c0' := (hcc4 _ _ hrr).trans c0
                    have c1' := (hcc4 _ _ hrr).trans c1
                    have d0' := (hcc4 _ _ hrr).trans d0
                    have d1' := (hcc4 _ _ hrr).trans d1
                    have e0' := (hcc4 _ _ hrr).trans e0
                    have e1' := (hcc4 _ _ hrr).trans e1
                    have hrw4 : r < w'.heap.size := by have := bw.size; omega
                    have hz4 : wr.heap.size ≤ w'.heap.size := bw.size
                    obtain ⟨w4, hw4⟩ : ∃ w4, w' = w4 := ⟨_, rfl⟩
                    clear hS hcc4 hff4
                    subst hw4
                    go_wp2
                    cases q2 with
                    | true =>
                      go_quiet (fail)
                      go_wp2
                      go_roundw
                      case rel =>
                        refine ⟨k + 1, true, by omega, .inr (by rw [hm.out]; exact hv), by go_num, rfl, ?_, ?_⟩
                        · exact Lib.hid (by rw [HN.out]; have := hq2.out; revert this; generalize inner v u x a b (S6.take k) = X; cases q1 <;> cases X <;> simp)
                        · exact k_end hown3 hsp3 hbw3 (by first | assumption | exact Below.drew bw | exact drewN_below bw _ | exact spThree_below (by assumption))
                      case measure => simp [intOf]; omega
                    | false =>
                      by_cases hv1 : m1 = u
                      · go_region_held3 (SpThree wr r i j k a b c)
                          ((refine ⟨?_, ?_, ?_, ?_, ?_, ?_, ?_, ?_⟩ <;> (first | go_keep | omega | assumption | exact Below.drew (by assumption) | (rw [hcc _ _ (by first | exact hrw4 | exact hrr | omega)]; first | exact c0' | exact c1' | exact d0' | exact d1' | exact e0' | exact e1' | go_keep) | (have := hb.size; omega))))
                          (first | (go_at_call 112; with_reducible refine (wayRS b c m1 _ hbl hcl hm1.out).mono ?_; rintro e w' ⟨rfl, hb⟩; have hbW : Below wr.heap.size wr w' := Below.trans (by first | assumption | exact spThree_below (by assumption) | exact Below.drew (by assumption)) (hb.mono (by first | omega | (simp; done) | (simp; omega))); have hsz := hbW.size; obtain ⟨hcc, hff⟩ := bcell' hb) | (go_at_call 112; with_reducible refine (wayRS a c m2 _ hal hcl hm2.out).mono ?_; rintro e w' ⟨rfl, hb⟩; have hbW : Below wr.heap.size wr w' := Below.trans (by first | assumption | exact spThree_below (by assumption) | exact Below.drew (by assumption)) (hb.mono (by first | omega | (simp; done) | (simp; omega))); have hsz := hbW.size; obtain ⟨hcc, hff⟩ := bcell' hb))
                        go_wp2
                        go_roundw
                        case rel =>
                          refine ⟨k + 1, (m2 == x), by omega, .inr (by rw [hm.out]; exact hv), by go_num, ?_, ?_, ?_⟩
                          · rfl
                          · exact Lib.hid (by rw [HN.out, hm1.out, hm2.out]; have := hq2.out; revert this; generalize inner v u x a b (S6.take k) = X; cases q1 <;> cases X <;> simp [hv1] <;> rfl)
                          · exact k_end hown3 hsp3 hbw3 (by first | assumption | exact Below.drew bw | exact drewN_below bw _ | exact spThree_below (by assumption))
                        case measure => simp [intOf]; omega
                      · have hS0 : SpThree wr r i j k a b c w'.drew := ⟨c0', c1', d0', d1', e0', e1', hrw4, Below.drew bw⟩
                        refine wp_region_noPanic ?_
                        refine wp_region_held (S := SpThree wr r i j k a b c) (by kernel_rfl) ?_
                        refine wpAnyH_take_at 0 (some 48) (.bool false) rfl rfl (by kernel_rfl) (by kernel_rfl) (by kernel_rfl) (fun _ _ _ h => h) (.inl ⟨by rfl, fun wz hSw => ?_⟩) hS0 ?_
                        · (try dsimp only at hSw); go_simp
                        try simp only [Act.put, List.setIfInBounds_toArray, List.set_cons_zero, List.set_cons_succ]
                        refine wpAnyH_take_at 1 (some 49) (.bool false) rfl rfl (by kernel_rfl) (by kernel_rfl) (by kernel_rfl) (fun _ _ _ h => h) (.inl ⟨by rfl, fun wz hSw => ?_⟩) hS0 ?_
                        · (try dsimp only at hSw); go_simp
                        try simp only [Act.put, List.setIfInBounds_toArray, List.set_cons_zero, List.set_cons_succ]
                        refine wpAnyH_take_at 2 (some 50) (.slice (some ⟨r, 0, none⟩) 15 kk) rfl rfl (by kernel_rfl) (by kernel_rfl) (by kernel_rfl) (fun _ _ _ h => h) (.inl ⟨by rfl, fun wz hSw => ?_⟩) hS0 ?_
                        · (try dsimp only at hSw); go_simp
                        try simp only [Act.put, List.setIfInBounds_toArray, List.set_cons_zero, List.set_cons_succ]
                        refine wpAnyH_take_at 3 (some 51) (.int .i64 j) rfl rfl (by kernel_rfl) (by kernel_rfl) (by kernel_rfl) (fun _ _ _ h => h) (.inl ⟨by rfl, fun wz hSw => ?_⟩) hS0 ?_
                        · (try dsimp only at hSw); go_simp
                        try simp only [Act.put, List.setIfInBounds_toArray, List.set_cons_zero, List.set_cons_succ]
                        refine wpAnyH_take_at 4 (some 52) (.pointer (some ⟨r, j * 2, none⟩)) rfl rfl (by kernel_rfl) (by kernel_rfl) (by kernel_rfl) (fun _ _ _ h => h) (.inl ⟨by rfl, fun wz hSw => ?_⟩) hS0 ?_
                        · (try dsimp only at hSw); go_simp
                        try simp only [Act.put, List.setIfInBounds_toArray, List.set_cons_zero, List.set_cons_succ]
                        refine wpAnyH_take_at 5 (some 53) (.agg #[.int .i64 b.1, .int .i64 b.2]) rfl rfl (by kernel_rfl) (by kernel_rfl) (by kernel_rfl) (fun _ _ _ h => h) (.inl ⟨by rfl, fun wz hSw => ?_⟩) hS0 ?_
                        · (try dsimp only at hSw); go_simp
                        try simp only [Act.put, List.setIfInBounds_toArray, List.set_cons_zero, List.set_cons_succ]
                        refine wpAnyH_take_at 6 (some 54) (.slice (some ⟨r, 0, none⟩) 15 kk) rfl rfl (by kernel_rfl) (by kernel_rfl) (by kernel_rfl) (fun _ _ _ h => h) (.inl ⟨by rfl, fun wz hSw => ?_⟩) hS0 ?_
                        · (try dsimp only at hSw); go_simp
                        try simp only [Act.put, List.setIfInBounds_toArray, List.set_cons_zero, List.set_cons_succ]
                        refine wpAnyH_take_at 7 (some 55) (.int .i64 k) rfl rfl (by kernel_rfl) (by kernel_rfl) (by kernel_rfl) (fun _ _ _ h => h) (.inl ⟨by rfl, fun wz hSw => ?_⟩) hS0 ?_
                        · (try dsimp only at hSw); go_simp
                        try simp only [Act.put, List.setIfInBounds_toArray, List.set_cons_zero, List.set_cons_succ]
                        refine wpAnyH_take_at 8 (some 56) (.pointer (some ⟨r, k * 2, none⟩)) rfl rfl (by kernel_rfl) (by kernel_rfl) (by kernel_rfl) (fun _ _ _ h => h) (.inl ⟨by rfl, fun wz hSw => ?_⟩) hS0 ?_
                        · (try dsimp only at hSw); go_simp
                        try simp only [Act.put, List.setIfInBounds_toArray, List.set_cons_zero, List.set_cons_succ]
                        refine wpAnyH_take_at 9 (some 57) (.agg #[.int .i64 c.1, .int .i64 c.2]) rfl rfl (by kernel_rfl) (by kernel_rfl) (by kernel_rfl) (fun _ _ _ h => h) (.inl ⟨by rfl, fun wz hSw => ?_⟩) hS0 ?_
                        · (try dsimp only at hSw); go_simp
                        try simp only [Act.put, List.setIfInBounds_toArray, List.set_cons_zero, List.set_cons_succ]
                        refine wpAnyH_take_at 11 (some 59) (.int .i64 u) rfl rfl (by kernel_rfl) (by kernel_rfl) (by kernel_rfl) (fun _ _ _ h => h) (.inl ⟨by rfl, fun wz hSw => ?_⟩) hS0 ?_
                        · (try dsimp only at hSw); go_simp
                        try simp only [Act.put, List.setIfInBounds_toArray, List.set_cons_zero, List.set_cons_succ]
                        refine wpAnyH_one (j := 10) (by kernel_rfl) ?_
                        refine wpOp_yes' rfl rfl ?_
                        go_simp
                        go_at_call 112
                        with_reducible refine (wayRS b c m1 _ hbl hcl hm1.out).mono ?_
                        rintro e w5 ⟨rfl, hb5⟩
                        have bw5 : Below wr.heap.size wr w5 := (Below.drew bw).trans (hb5.mono hz4)
                        obtain ⟨hcc5, hff5⟩ := bcell' bw5
                        have hS5 : SpThree wr r i j k a b c w5 := ⟨(hcc5 _ _ hrr).trans c0, (hcc5 _ _ hrr).trans c1, (hcc5 _ _ hrr).trans d0, (hcc5 _ _ hrr).trans d1, (hcc5 _ _ hrr).trans e0, (hcc5 _ _ hrr).trans e1, (by have := bw5.size; omega), bw5⟩
                        clear hcc5 hff5
                        refine ⟨hS5, ?_⟩
                        try simp only [Act.put, List.setIfInBounds_toArray, List.set_cons_zero, List.set_cons_succ]
                        refine wpAnyH_take_at 12 (some 60) (.bool false) rfl rfl (by kernel_rfl) (by kernel_rfl) (by kernel_rfl) (fun _ _ _ h => h) (.inl ⟨by rfl, fun wz hSw => ?_⟩) hS5 ?_
                        · (try dsimp only at hSw); go_simp
                        try simp only [Act.put, List.setIfInBounds_toArray, List.set_cons_zero, List.set_cons_succ]
                        refine wpAnyH_take_at 13 (some 61) (.bool false) rfl rfl (by kernel_rfl) (by kernel_rfl) (by kernel_rfl) (fun _ _ _ h => h) (.inl ⟨by rfl, fun wz hSw => ?_⟩) hS5 ?_
                        · (try dsimp only at hSw); go_simp
                        try simp only [Act.put, List.setIfInBounds_toArray, List.set_cons_zero, List.set_cons_succ]
                        refine wpAnyH_take_at 14 (some 62) (undef) rfl rfl (by kernel_rfl) (by kernel_rfl) (by kernel_rfl) (fun _ _ _ h => h) (.inr ⟨by rfl, rfl⟩) hS5 ?_
                        try simp only [Act.put, List.setIfInBounds_toArray, List.set_cons_zero, List.set_cons_succ]
                        refine wpAnyH_take_at 15 (some 63) (undef) rfl rfl (by kernel_rfl) (by kernel_rfl) (by kernel_rfl) (fun _ _ _ h => h) (.inr ⟨by rfl, rfl⟩) hS5 ?_
                        try simp only [Act.put, List.setIfInBounds_toArray, List.set_cons_zero, List.set_cons_succ]
                        refine wpAnyH_take_at 16 (some 64) (undef) rfl rfl (by kernel_rfl) (by kernel_rfl) (by kernel_rfl) (fun _ _ _ h => h) (.inr ⟨by rfl, rfl⟩) hS5 ?_
                        try simp only [Act.put, List.setIfInBounds_toArray, List.set_cons_zero, List.set_cons_succ]
                        refine wpAnyH_take_at 17 (some 65) (undef) rfl rfl (by kernel_rfl) (by kernel_rfl) (by kernel_rfl) (fun _ _ _ h => h) (.inr ⟨by rfl, rfl⟩) hS5 ?_
                        try simp only [Act.put, List.setIfInBounds_toArray, List.set_cons_zero, List.set_cons_succ]
                        refine wpAnyH_take_at 18 (some 66) (undef) rfl rfl (by kernel_rfl) (by kernel_rfl) (by kernel_rfl) (fun _ _ _ h => h) (.inr ⟨by rfl, rfl⟩) hS5 ?_
                        try simp only [Act.put, List.setIfInBounds_toArray, List.set_cons_zero, List.set_cons_succ]
                        refine wpAnyH_take_at 19 (some 67) (undef) rfl rfl (by kernel_rfl) (by kernel_rfl) (by kernel_rfl) (fun _ _ _ h => h) (.inr ⟨by rfl, rfl⟩) hS5 ?_
                        try simp only [Act.put, List.setIfInBounds_toArray, List.set_cons_zero, List.set_cons_succ]
                        refine wpAnyH_take_at 20 (some 68) (undef) rfl rfl (by kernel_rfl) (by kernel_rfl) (by kernel_rfl) (fun _ _ _ h => h) (.inr ⟨by rfl, rfl⟩) hS5 ?_
                        try simp only [Act.put, List.setIfInBounds_toArray, List.set_cons_zero, List.set_cons_succ]
                        refine wpAnyH_take_at 21 (some 69) (undef) rfl rfl (by kernel_rfl) (by kernel_rfl) (by kernel_rfl) (fun _ _ _ h => h) (.inr ⟨by rfl, rfl⟩) hS5 ?_
                        try simp only [Act.put, List.setIfInBounds_toArray, List.set_cons_zero, List.set_cons_succ]
                        refine wpAnyH_take_at 22 (some 70) (undef) rfl rfl (by kernel_rfl) (by kernel_rfl) (by kernel_rfl) (fun _ _ _ h => h) (.inr ⟨by rfl, rfl⟩) hS5 ?_
                        try simp only [Act.put, List.setIfInBounds_toArray, List.set_cons_zero, List.set_cons_succ]
                        refine wpAnyH_take_at 23 (some 71) (undef) rfl rfl (by kernel_rfl) (by kernel_rfl) (by kernel_rfl) (fun _ _ _ h => h) (.inr ⟨by rfl, rfl⟩) hS5 ?_
                        try simp only [Act.put, List.setIfInBounds_toArray, List.set_cons_zero, List.set_cons_succ]
                        refine wpAnyH_take_at 24 (some 72) (undef) rfl rfl (by kernel_rfl) (by kernel_rfl) (by kernel_rfl) (fun _ _ _ h => h) (.inr ⟨by rfl, rfl⟩) hS5 ?_
                        try simp only [Act.put, List.setIfInBounds_toArray, List.set_cons_zero, List.set_cons_succ]
                        refine wpAnyH_take_at 25 (some 73) (.bool false) rfl rfl (by kernel_rfl) (by kernel_rfl) (by kernel_rfl) (fun _ _ _ h => h) (.inl ⟨by rfl, fun wz hSw => ?_⟩) hS5 ?_
                        · (try dsimp only at hSw); go_simp
                        try simp only [Act.put, List.setIfInBounds_toArray, List.set_cons_zero, List.set_cons_succ]
                        refine wpAnyH_take_at 26 (some 74) (.bool false) rfl rfl (by kernel_rfl) (by kernel_rfl) (by kernel_rfl) (fun _ _ _ h => h) (.inl ⟨by rfl, fun wz hSw => ?_⟩) hS5 ?_
                        · (try dsimp only at hSw); go_simp
                        try simp only [Act.put, List.setIfInBounds_toArray, List.set_cons_zero, List.set_cons_succ]
                        refine wpAnyH_take_at 27 (some 8) (.bool false) rfl rfl (by kernel_rfl) (by kernel_rfl) (by kernel_rfl) (fun _ _ _ h => h) (.inl ⟨by rfl, fun wz hSw => ?_⟩) hS5 ?_
                        · (try dsimp only at hSw); go_simp
                        try simp only [Act.put, List.setIfInBounds_toArray, List.set_cons_zero, List.set_cons_succ]
                        refine wpAnyH_done (by kernel_rfl) ?_ _
                        simp only [NoPanic]
                        go_wp2
                        go_roundw
                        case rel =>
                          refine ⟨k + 1, false, by omega, .inr (by rw [hm.out]; exact hv), by go_num, rfl, ?_, ?_⟩
                          · exact Lib.hid (by rw [HN.out, hm1.out]; have := hq2.out; revert this; generalize inner v u x a b (S6.take k) = X; simp [hv1])
                          · exact k_end hown3 hsp3 hbw3 bw5
                        case measure => simp [intOf]; omega
                  · have hk0 : Hid (k = 0) := Lib.hid (HV.out.resolve_left hv)
                    have kb : Below wr.heap.size wr wr := Below.refl _ _
                    go_wp2
                    go_region_held3 (SpTwo wr r i j a b)
                      ((refine ⟨?_, ?_, ?_, ?_, ?_, ?_⟩ <;> (first | go_keep | omega | assumption | exact Below.drew (by assumption) | (rw [hcc _ _ (by first | exact hrr | omega)]; first | exact c0 | exact c1 | exact d0 | exact d1 | go_keep) | (have := hb.size; omega))))
                      (first | (go_at_call 112; with_reducible refine (wayRS a b m _ hal hbl hm.out).mono ?_; rintro e w' ⟨rfl, hb⟩; have hbW : Below wr.heap.size wr w' := Below.trans (by first | assumption | exact spTwo_below (by assumption) | exact Below.drew (by assumption)) (hb.mono (by first | omega | (simp; done) | (simp; omega))); have hsz := hbW.size; obtain ⟨hcc, hff⟩ := bcell' hb))
                    have bwz : Below wr.heap.size wr w' := spTwo_below (by assumption)
                    go_wp2
                    go_roundw
                    case rel =>
                      refine ⟨j + 1, q2, by omega, by go_num, rfl, ?_, k_end hown3 hsp3 hbw3 bwz⟩
                      exact Lib.hid (by rw [mid_next HB.out, inner_off (by rw [hm.out]; exact hv), Bool.or_false, hq2.out, hq1.out, hk0.out]; simp [inner])
                    case measure => simp [intOf]; omega
                · have hd3 : decide ((k : Int) < 15) = false := decide_eq_false (by omega)
                  have hk15 : Hid (k = 15) := Lib.hid (by omega)
                  go_wp2
                  go_quiet (fail)
                  go_wp2
                  go_roundw
                  case rel =>
                    refine ⟨j + 1, q2, by omega, by go_num, rfl, ?_, k_end hown3 hsp3 hbw3 (drewN_below (Below.refl _ _) _)⟩
                    exact Lib.hid (by rw [mid_next HB.out, hq2.out, hq1.out, hk15.out, Bool.or_assoc]; rfl)
                  case measure => simp [intOf]; omega
            · have hj15 : j = 15 := by omega
              have HJ := Lib.hid hj15
              clear hj15
              go_wp2
              go_roundw
              case rel =>
                refine ⟨i + 1, q1, by omega, by go_num, rfl, ?_, hown2, hsp2, hbw2⟩
                have h1 := hq1.out
                have h2 := hq.out
                rw [HJ.out] at h1
                exact Lib.hid (by rw [outer_next HA.out, h1, h2]; rfl)
              case measure => simp [intOf]; omega
        · have hi15 : i = 15 := by omega
          have HI := Lib.hid hi15
          clear hi15
          have x1 : 1 ≤ x := by rw [← hx.out]; omega
          have x2 : x ≤ 13 := by rw [← hx.out]; omega
          have hfo : Hid (follows v u x = q) := Lib.hid (by rw [← outer_all, hq.out, HI.out]; rfl)
          cases q with
          | true =>
            have hle := chainTo_len v u n
            go_wp2_with (at_builtin; refine wpList_append_own_at _ rfl (.tmp 76) (.tmp 78) 52 rfl W0.heap.size 49 i0 (.int .i64 0) 1 8 Tryz.underlying52 hi0 hz0 hz1 hz2 rfl (by decide) _ _ _ rfl (hown1.alloc _) ⟨_, 0, none⟩ 1 1 [.int .i64 x] rfl rfl ?c1 ?c2 ?c3 ?c4 ?c5 ?_)
            case c1 => exact one_cell _ _ _
            case c2 => exact one_one _
            case c3 => unfold maxLen; omega
            case c4 => omega
            case c5 => simp; have := hbw1.size; omega
            intro v' w3 hown3 hg3 _ hat3
            have hsp3 : SpansAt w3 r S6 := by
              have hrr := spans_lt hsp1
              have h0 := hsp1.below (below_new wr (.cells #[.int .i64 x] 49)) hrr
              intro i' p' hp'
              have hne : ∀ o : Nat, some ((⟨r, o, none⟩ : Addr).block) ≠ (u6.ownBlock) := fun o he => hrow he.symm
              exact ⟨hg3.cell (h0 i' p' hp').1 (hne _), hg3.cell (h0 i' p' hp').2 (hne _)⟩
            have hbw3 : Below W0.heap.size W0 w3 := (hbw1.alloc hbw1.size _).grown hg3 (by simp; have := hbw1.size; omega) (fun k hk => (hown1.lt k hk).1)
            have hrow3 : v'.ownBlock ≠ some r := by
              intro he
              have hrr := spans_lt hsp1
              rcases hat3 with h | h
              · exact hrow (h.symm.trans he)
              · rw [h] at he; simp at he; omega
            clear hown1 hbw1 hg3 hsp1 hat3
            go_wp2
            go_roundw
            case rel =>
              refine ⟨n + 1, by omega, by rw [← hx.out]; go_num, ?_, hrow3, hsp3, hbw3⟩
              have hfo' : follows v u ((n + 1 : Nat) : Int) = true := by have := hfo.out; rw [← hx.out] at this; exact this
              rw [chainTo_succ, if_pos hfo', List.map_append, List.length_append]
              have := hx.out
              rw [← hx.out] at hown3
              exact hown3
            case measure => have := hx.out; simp [intOf]; omega
          | false =>
            go_wp2
            go_roundw
            case rel =>
              refine ⟨n + 1, by omega, by rw [← hx.out]; go_num, ?_, hrow, hsp1, hbw1⟩
              have hfo' : ¬ follows v u ((n + 1 : Nat) : Int) = true := by have := hfo.out; rw [← hx.out] at this; intro h; rw [show ((n + 1 : Nat) : Int) = (n : Int) + 1 by omega] at h; rw [h] at this; cases this
              rw [chainTo_succ, if_neg hfo', List.append_nil]
              exact hown1
            case measure => have := hx.out; simp [intOf]; omega
    · have hn13 : n = 13 := by omega
      have HN := Lib.hid hn13
      clear hn13
      go_wp2
      go_ret
      rw [HN.out] at hown
      exact ⟨u6, rfl, hown, hbw⟩
end Go.Proofs.YtfhljcpicdabmaaGreatDoor
