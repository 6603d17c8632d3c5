/- Stage 4's seat: the parts of a bag, the specification's side. -/
import Derived.Test.YtimlgclejaoboaaGreatDoorBgYs
namespace Go.Proofs.YtimlgclejaoboaaGreatDoor
open Go Go.RowKit Go.RecM
set_option maxRecDepth 100000
set_option maxHeartbeats 1000000

theorem partsS_any (s : Value) (l : List It) (u : Value) (ts : List Int) (W0 : World) (h : BagAt W0 s l) (hl : l.length ≤ 9223372036854775807) (ht : IntsAt W0 u ts) (htl : ts.length ≤ 9223372036854775807) (htw : ∀ x ∈ ts, -9223372036854775808 ≤ x ∧ x ≤ 9223372036854775807) :
    Calls Tryz.prog 30 #[s, u] W0 fun e w' => ∃ v, e = .returned (.tuple #[v, .int .i64 (errOf (okParts l ts))]) ∧ Outs W0.heap.size w' v (resParts l ts) ∧ Below W0.heap.size W0 w' := by
  obtain ⟨i0, hi0, hz0, hz1, hz2⟩ := info_parts info23
  have cG := good_any s l W0 h hl
  have cT : ∀ w, Below W0.heap.size W0 w → Calls Tryz.prog 73 #[u] w fun e w' => e = .returned (.bool (decide (ts.length ≤ 40) && upTo ts ts.length)) ∧ Below w.heap.size w w' := fun w hb => times_any u ts w (ht.below hb (Nat.le_refl _)) htl
  have cC : l.length ≤ 300 → ∀ (lo hi : Int) w, Below W0.heap.size W0 w → Calls Tryz.prog 52 #[s, .int .i64 lo, .int .i64 hi] w fun e w' => ∃ v, e = .returned v ∧ w'.ownsRow w.heap.size 33 4 v (l.filter fun x => inB x.1.1 lo hi).length ((l.filter fun x => inB x.1.1 lo hi).flatMap encIt) ∧ Below w.heap.size w w' := fun h1 lo hi w hb => cut_any s l lo hi w (h.below hb (Nat.le_refl _)) h1
  have HT := Lib.hid ht
  have HW := Lib.hid htw
  clear htw
  obtain ⟨A, c, rfl, -⟩ := id h
  obtain ⟨A', c', rfl, -⟩ := id ht
  obtain ⟨n, hn⟩ : ∃ n, Hid (l.length = n) := ⟨_, Lib.hid rfl⟩
  obtain ⟨m, hm⟩ : ∃ n, Hid (ts.length = n) := ⟨_, Lib.hid rfl⟩
  obtain ⟨q, hq⟩ : ∃ q, Hid (goodB l = q) := ⟨_, Lib.hid rfl⟩
  obtain ⟨r, hr⟩ : ∃ r, Hid ((decide (ts.length ≤ 40) && upTo ts ts.length) = r) := ⟨_, Lib.hid rfl⟩
  have hok : Hid (okParts l ts = (q && r)) := Lib.hid (by unfold okParts; rw [hq.out, hr.out])
  simp only [hr.out, hq.out] at cG cT
  simp only [hn.out, hm.out] at cG cT cC HT htl ⊢
  clear h ht hl
  have bad : okParts l ts = false → ∀ w, Outs W0.heap.size w (.slice none 0 0) (resParts l ts) := fun e w => by unfold resParts; rw [e, if_neg (by decide)]; exact Outs.nil _ _
  have Hbad := Lib.hid bad
  clear bad
  cases q with
  | false =>
    have hno : Hid (okParts l ts = false) := Lib.hid (by rw [hok.out]; rfl)
    go_enter Tryz.func30, Tryz.ntmps30
    go_wp2_with fail
    refine cG.mono ?_
    rintro e w1 ⟨rfl, b1⟩
    go_wp2
    go_ret2
    exact ⟨_, by rw [hno.out]; rfl, Hbad.out hno.out _, b1⟩
  | true =>
    cases r with
    | false =>
      have hno : Hid (okParts l ts = false) := Lib.hid (by rw [hok.out]; rfl)
      go_enter Tryz.func30, Tryz.ntmps30
      go_wp2_with fail
      refine cG.mono ?_
      rintro e w1 ⟨rfl, b1⟩
      go_wp2_with fail
      refine (cT _ b1).mono ?_
      rintro e w2 ⟨rfl, b2⟩
      go_wp2
      go_ret2
      exact ⟨_, by rw [hno.out]; rfl, Hbad.out hno.out _, b1.trans (b2.mono b1.size)⟩
    | true =>
      have hyes : Hid (okParts l ts = true) := Lib.hid (by rw [hok.out]; rfl)
      have h300 : l.length ≤ 300 := goodB_len hq.out
      have cD := cC (by rw [← hn.out]; exact h300)
      have hrr := hr.out
      rw [Bool.and_eq_true, decide_eq_true_eq, hm.out] at hrr
      have h40 : m ≤ 40 := hrr.1
      have hup : Hid (upTo ts ts.length = true) := Lib.hid (by rw [hm.out]; exact hrr.2)
      clear hrr cC
      go_enter Tryz.func30, Tryz.ntmps30
      go_wp2_with fail
      refine cG.mono ?_
      rintro e w0 ⟨rfl, b0⟩
      go_wp2_with fail
      refine (cT _ b0).mono ?_
      rintro e w2 ⟨rfl, b2⟩
      have b02 := b0.trans (b2.mono b0.size)
      clear b0 b2 cG cT
      go_wp2
      go_loopw [6, 7, 21] (fun u6 u7 u21 wr => ∃ k : Nat, k ≤ m ∧ u21 = .int .i64 k ∧ u7 = .int .i64 (max 0 (prevAt ts k)) ∧ Outs W0.heap.size wr u6 (partsTo ts l k) ∧ Below W0.heap.size W0 wr) (fun _ _ u21 _ => m - (intOf u21).toNat)
      case atStart => exact ⟨0, by omega, rfl, rfl, Outs.nil _ _, b02⟩
      case round =>
        clear b02
        obtain ⟨k, hk, rfl, rfl, hout, hbw⟩ := hrel
        by_cases hlt : k < m
        · obtain ⟨x, hx⟩ : ∃ x, ts[k]? = some x := ⟨_, List.getElem?_eq_getElem (by have := hm.out; omega)⟩
          obtain ⟨g, o, rfl, hg, d0⟩ := (HT.out.below hbw (Nat.le_refl _)).get hx
          have hgx : Hid (ts.getD k 0 = x) := Lib.hid (by rw [List.getD_eq_getElem?_getD, hx]; rfl)
          have hxw : -9223372036854775808 ≤ x ∧ x ≤ 9223372036854775807 := HW.out x (List.mem_of_getElem? hx)
          have hpn := prev_next hup.out (by rw [hm.out]; exact hlt) (by rw [hgx.out]; exact hxw.1)
          rw [hgx.out] at hpn
          have HPN := Lib.hid hpn
          clear hx hpn
          obtain ⟨fr, hfr⟩ : ∃ z, Hid (max 0 (prevAt ts k) = z) := ⟨_, Lib.hid rfl⟩
          rw [hfr.out]
          have hf0 : 0 ≤ fr := by rw [← hfr.out]; omega
          have bk1 : (0 : Int) ≤ k := by omega
          have bk2 : (k : Int) < m := by omega
          by_cases hc : fr < x
          · have hcb : decide (fr < x) = true := decide_eq_true hc
            have hwx : IntKind.i64.wrap (x - 1) = x - 1 := IntWalk.i64_in _ (by omega)
            have hnext : Hid (max 0 (prevAt ts (k + 1)) = x) := Lib.hid (HPN.out.1 (by rw [hfr.out]; exact hc))
            have hpart : Hid ((l.filter fun y => inB y.1.1 fr (x - 1)) = betL (prevAt ts k) (ts.getD k 0) l) := Lib.hid (by rw [← hfr.out, hgx.out]; exact bet_cut hq.out _ _)
            go_wp2_with fail
            refine (cD fr (x - 1) wr hbw).mono ?_
            rintro e w1 ⟨v, rfl, hrow, b1⟩
            rw [hpart.out] at hrow
            have hbw1 : Below W0.heap.size W0 w1 := hbw.trans (b1.mono hbw.size)
            have hrow1 := own_base hrow hbw.size
            obtain ⟨vs, h1, h2, h3⟩ := hout.below b1
            have hlen := partsTo_len ts l k
            obtain ⟨vA, vn, vc, rfl⟩ : ∃ A n c, v = .slice A n c := by
              rcases hrow1.2 with ⟨rfl, _⟩ | ⟨g, cap, cur, rfl, _⟩
              · exact ⟨_, _, _, rfl⟩
              · exact ⟨_, _, _, rfl⟩
            go_wp2_with (at_builtin; refine wpList_append_own _ rfl (.tmp 34) (.tmp 36) 41 rfl W0.heap.size 23 i0 (.slice none 0 0) 1 24 Tryz.underlying41 hi0 hz0 hz1 hz2 rfl (by decide) _ _ _ rfl (h2.alloc _) ⟨_, 0, none⟩ 1 1 [.slice vA vn vc] rfl rfl ?c1a ?c2a ?c3a ?c4a ?c5a ?_)
            case c1a => exact one_new _ _ _
            case c2a => first | rfl | (intro z hz; simp at hz; subst hz; rfl)
            case c3a => unfold maxLen; omega
            case c4a => omega
            case c5a => (try simp); have := hbw1.size; omega
            intro v' w3 hown3 hg3 _
            have hbw3 : Below W0.heap.size W0 w3 := (hbw1.alloc hbw1.size _).grown hg3 (by simp; have := hbw1.size; omega) (fun k hk => (h2.lt k hk).1)
            have hout3 : Outs W0.heap.size w3 v' (partsTo ts l (k + 1)) := by
              rw [partsTo_succ]
              exact Outs.append h1 (h2.alloc _) (fun i s l hs hl => (h3 i s l hs hl).alloc _) (hrow1.alloc _) hg3 (by rw [hlen]; exact hown3)
            clear hout hbw h2 h3 hrow hrow1 hg3 hown3 b1
            go_wp2
            go_roundw
            case rel => exact ⟨k + 1, by omega, by go_num, by rw [hnext.out], hout3, hbw3⟩
            case measure => simp [intOf]; omega
          · have hcb : decide (fr < x) = false := decide_eq_false hc
            have hnext : Hid (max 0 (prevAt ts (k + 1)) = fr) := Lib.hid (by rw [← hfr.out]; exact HPN.out.2 (by rw [hfr.out]; exact hc))
            have hpart : Hid (betL (prevAt ts k) (ts.getD k 0) l = []) := Lib.hid (bet_none hq.out (by rw [hgx.out, hfr.out]; omega))
            obtain ⟨vs, h1, h2, h3⟩ := hout
            have hlen := partsTo_len ts l k
            have hbw1 := hbw
            go_wp2_with (at_builtin; refine wpList_append_own _ rfl (.tmp 34) (.tmp 36) 41 rfl W0.heap.size 23 i0 (.slice none 0 0) 1 24 Tryz.underlying41 hi0 hz0 hz1 hz2 rfl (by decide) _ _ _ rfl (h2.alloc _) ⟨_, 0, none⟩ 1 1 [.slice none 0 0] rfl rfl ?c1b ?c2b ?c3b ?c4b ?c5b ?_)
            case c2b => first | rfl | (intro z hz; simp at hz; subst hz; rfl)
            case c3b => unfold maxLen; omega
            case c4b => omega
            case c5b => (try simp); have := hbw1.size; omega
            intro v' w3 hown3 hg3 _
            have hbw3 : Below W0.heap.size W0 w3 := (hbw1.alloc hbw1.size _).grown hg3 (by simp; have := hbw1.size; omega) (fun k hk => (h2.lt k hk).1)
            have hout3 : Outs W0.heap.size w3 v' (partsTo ts l (k + 1)) := by
              rw [partsTo_succ, hpart.out]
              exact Outs.append h1 (h2.alloc _) (fun i s l hs hl => (h3 i s l hs hl).alloc _) (World.ownsRow_nil _ _ _ _) hg3 (by rw [hlen]; exact hown3)
            clear hbw h2 h3 hg3 hown3
            go_wp2
            go_roundw
            case rel => exact ⟨k + 1, by omega, by go_num, by rw [hnext.out], hout3, hbw3⟩
            case measure => simp [intOf]; omega
        · have hkm : k = m := by omega
          subst hkm
          obtain ⟨fr, hfr⟩ : ∃ z, Hid (max 0 (prevAt ts k) = z) := ⟨_, Lib.hid rfl⟩
          rw [hfr.out]
          have hpart : Hid ((l.filter fun y => inB y.1.1 fr 200) = betL (prevAt ts k) 9223372036854775807 l) := Lib.hid (by rw [← hfr.out]; exact bet_last hq.out _)
          go_wp2_with fail
          refine (cD fr 200 wr hbw).mono ?_
          rintro e w1 ⟨v, rfl, hrow, b1⟩
          rw [hpart.out] at hrow
          have hbw1 : Below W0.heap.size W0 w1 := hbw.trans (b1.mono hbw.size)
          have hrow1 := own_base hrow hbw.size
          obtain ⟨vs, h1, h2, h3⟩ := hout.below b1
          have hlen := partsTo_len ts l k
          obtain ⟨vA, vn, vc, rfl⟩ : ∃ A n c, v = .slice A n c := by
            rcases hrow1.2 with ⟨rfl, _⟩ | ⟨g, cap, cur, rfl, _⟩
            · exact ⟨_, _, _, rfl⟩
            · exact ⟨_, _, _, rfl⟩
          go_wp2_with (at_builtin; refine wpList_append_own _ rfl (.tmp 39) (.tmp 43) 41 rfl W0.heap.size 23 i0 (.slice none 0 0) 1 24 Tryz.underlying41 hi0 hz0 hz1 hz2 rfl (by decide) _ _ _ rfl (h2.alloc _) ⟨_, 0, none⟩ 1 1 [.slice vA vn vc] rfl rfl ?c1d ?c2d ?c3d ?c4d ?c5d ?_)
          case c1d => exact one_new _ _ _
          case c2d => first | rfl | (intro z hz; simp at hz; subst hz; rfl)
          case c3d => unfold maxLen; omega
          case c4d => omega
          case c5d => (try simp); have := hbw1.size; omega
          intro v' w3 hown3 hg3 _
          have hbw3 : Below W0.heap.size W0 w3 := (hbw1.alloc hbw1.size _).grown hg3 (by simp; have := hbw1.size; omega) (fun k hk => (h2.lt k hk).1)
          have hout3 : Outs W0.heap.size w3 v' (resParts l ts) := by
            unfold resParts
            rw [hyes.out, if_pos rfl]
            unfold partsAll
            rw [hm.out]
            exact Outs.append h1 (h2.alloc _) (fun i s l hs hl => (h3 i s l hs hl).alloc _) (hrow1.alloc _) hg3 (by rw [hlen]; exact hown3)
          clear hout hbw h2 h3 hrow hrow1 hg3 hown3 b1
          go_wp2
          go_ret2
          exact ⟨v', by rw [hyes.out]; rfl, hout3, hbw3⟩
end Go.Proofs.YtimlgclejaoboaaGreatDoor
