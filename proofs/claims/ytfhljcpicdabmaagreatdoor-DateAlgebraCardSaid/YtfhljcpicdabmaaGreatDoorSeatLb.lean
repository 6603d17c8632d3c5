/- The seat: the project's chains of ways. -/
import Derived.Test.YtfhljcpicdabmaaGreatDoorSeatLa
import Derived.LoopTactic
namespace Go.Proofs.YtfhljcpicdabmaaGreatDoor
open Go Go.RowKit Go.Ev Go.WayM
set_option maxRecDepth 100000
set_option maxHeartbeats 1000000
theorem bcell' {W w1 : World} (hb : Below W.heap.size W w1) : (∀ b o, b < W.heap.size → w1.cell? ⟨b, o, none⟩ = W.cell? ⟨b, o, none⟩) ∧ (∀ b o, b < W.heap.size → w1.frozen? ⟨b, o, none⟩ = W.frozen? ⟨b, o, none⟩) :=
  ⟨fun b o h => hb.cell (p := ⟨b, o, none⟩) h, fun b o h => hb.frozen (p := ⟨b, o, none⟩) h⟩
theorem S6_len {i : Nat} (h : i < 15) : i < S6.length := h
theorem S6_in {i : Nat} (h : i < 15) : ∃ p : Sp, S6[i]? = some p ∧ p.1 < p.2 := by
  have hall : S6.all (fun p => decide (p.1 < p.2)) = true := by decide
  exact ⟨_, List.getElem?_eq_getElem (S6_len h), of_decide_eq_true (List.all_eq_true.1 hall _ (List.getElem_mem (S6_len h)))⟩
theorem take_next {α : Type} {l : List α} {i : Nat} {p : α} (h : l[i]? = some p) : l.take (i + 1) = l.take i ++ [p] := by
  rw [List.take_add_one, h]; rfl
theorem inC_skip {w : Int} {b a c : Sp} {k s : Nat} {l : List Sp} (h : l[k]? = some c) (hn : ¬ W b c = w) : inC w b a (l.take (k + 1)) s = inC w b a (l.take k) s := by
  rw [take_next h]; unfold inC
  rw [List.foldl_append, List.foldl_cons, List.foldl_nil, if_neg hn]
theorem inC_more {w : Int} {b a c : Sp} {k s : Nat} {l : List Sp} (h : l[k]? = some c) (hn : W b c = w) : inC w b a (l.take (k + 1)) s = inC w b a (l.take k) s ||| 2 ^ (W a c).toNat := by
  rw [take_next h]; unfold inC
  rw [List.foldl_append, List.foldl_cons, List.foldl_nil, if_pos hn]
theorem inA_skip {S : List Sp} {v w : Int} {b a : Sp} {k s : Nat} {l : List Sp} (h : l[k]? = some a) (hn : ¬ W a b = v) : inA S v w b (l.take (k + 1)) s = inA S v w b (l.take k) s := by
  rw [take_next h]; unfold inA
  rw [List.foldl_append, List.foldl_cons, List.foldl_nil, if_neg hn]
theorem inB_next {S : List Sp} {v w : Int} {b : Sp} {k s : Nat} {l : List Sp} (h : l[k]? = some b) : WayM.inB S v w (l.take (k + 1)) s = inA S v w b S (WayM.inB S v w (l.take k) s) := by
  rw [take_next h]; unfold WayM.inB
  rw [List.foldl_append, List.foldl_cons, List.foldl_nil]
theorem bits_or_nat {a b : Nat} (ha : a < 16384) (hb : b < 16384) : bits BinOp.or IntKind.i64 (a : Int) (b : Int) = ((a ||| b : Nat) : Int) := by
  have hor : a ||| b < 16384 := Nat.or_lt_two_pow (n := 14) ha hb
  show IntKind.wrap .i64 (((BitVec.ofInt 64 (a : Int) ||| BitVec.ofInt 64 (b : Int)).toNat : Nat) : Int) = _
  rw [BitVec.ofInt_natCast, BitVec.ofInt_natCast, BitVec.toNat_or, BitVec.toNat_ofNat, BitVec.toNat_ofNat, Nat.mod_eq_of_lt (by omega), Nat.mod_eq_of_lt (by omega)]
  exact IntWalk.i64_in _ ⟨by omega, by omega⟩
theorem or_val {s : Nat} {m : Int} (h1 : 1 ≤ m) (h2 : m ≤ 13) (hs : s < 16384) : Value.int IntKind.i64 (bits BinOp.or IntKind.i64 (s : Int) (wrap64 (2 ^ m.toNat))) = Value.int IntKind.i64 ((s ||| 2 ^ m.toNat : Nat) : Int) := by
  have k2 : 2 ^ m.toNat < 16384 := Nat.lt_of_le_of_lt (Nat.pow_le_pow_right (by omega) (show m.toNat ≤ 13 by omega)) (by decide)
  have k1 : wrap64 ((2 : Int) ^ m.toNat) = ((2 ^ m.toNat : Nat) : Int) := by
    have e : (2 : Int) ^ m.toNat = ((2 ^ m.toNat : Nat) : Int) := by simp
    rw [e]
    generalize (2 : Nat) ^ m.toNat = c at k2 ⊢
    unfold wrap64
    omega
  rw [k1, bits_or_nat hs k2]
/-- A span lies in a block of its own. -/
def Box (w : World) (b : Nat) (p : Sp) : Prop := w.cell? ⟨b, 0, none⟩ = some (.int .i64 p.1) ∧ w.cell? ⟨b, 1, none⟩ = some (.int .i64 p.2) ∧ b < w.heap.size
theorem Box.below {w w' : World} {B b : Nat} {p : Sp} (h : Box w b p) (hb : Below B w w') (hB : b < B) : Box w' b p :=
  ⟨(hb.cell (p := ⟨b, 0, none⟩) hB).trans h.1, (hb.cell (p := ⟨b, 1, none⟩) hB).trans h.2.1, by have := hb.size; have := h.2.2; omega⟩
theorem Box.new (w : World) (p : Sp) (t : TypeId) : Box (w.alloc (.cells #[.int .i64 p.1, .int .i64 p.2] t)) w.heap.size p := by
  exact ⟨by go_simp, by go_simp, by simp⟩
theorem below_new (w : World) (o : Obj) : Below w.heap.size w (w.alloc o) := (Below.refl _ _).alloc (Nat.le_refl _) _
theorem wayS (a b : Sp) (k : Int) (w : World) (ha : a.1 < a.2) (hb : b.1 < b.2) (hk : W a b = k) : Calls Tryz.prog 110 #[.agg #[.int .i64 a.1, .int .i64 a.2], .agg #[.int .i64 b.1, .int .i64 b.2]] w fun e w' => e = .returned (.int .i64 k) ∧ Below w.heap.size w w' := by
  subst hk
  exact way_any a.1 a.2 b.1 b.2 w ha hb
theorem spans_lt {w : World} {r : Nat} (h : SpansAt w r S6) : r < w.heap.size := by
  rcases Nat.lt_or_ge r w.heap.size with h' | h'
  · exact h'
  · have := (h 0 (0, 1) rfl).1
    unfold World.cell? at this
    simp [Array.getElem?_eq_none h'] at this
theorem chainSet_any (v w : Int) (W0 : World) : Calls Tryz.prog 114 #[.int .i64 v, .int .i64 w] W0 fun e w' => e = .returned (.int .i64 (chainN v w)) ∧ Below W0.heap.size W0 w' := by
  go_enter Tryz.func114, Tryz.ntmps114
  go_wp2_with ((go_at_call 161; refine (six161 _).mono ?_); rintro e w1 ⟨r, k, rfl, hr, hs, hb⟩)
  have hrs := spans_lt hs
  go_loopw [5, 16] (fun u5 u16 wr => ∃ i : Nat, i ≤ 15 ∧ u16 = .int .i64 i ∧ u5 = .int .i64 (WayM.inB S6 v w (S6.take i) 0) ∧ SpansAt wr r S6 ∧ r < wr.heap.size ∧ Below W0.heap.size W0 wr) (fun _ u16 _ => 15 - (intOf u16).toNat)
  case atStart => exact ⟨0, by omega, rfl, rfl, hs, hrs, hb⟩
  case round =>
    obtain ⟨i, hi, rfl, rfl, hsp, hrw, hbw⟩ := hrel
    clear hs hrs hb
    by_cases hlt : i < 15
    · obtain ⟨p, hp, hpl⟩ := S6_in hlt
      obtain ⟨c0, c1⟩ := hsp i p hp
      have HP := Lib.hid hp
      clear hp
      have hd1 : decide ((i : Int) < 15) = true := decide_eq_true (by omega)
      go_wp2
      clear hd1
      have hsp2 := hsp.below (below_new wr (.cells #[.int .i64 p.1, .int .i64 p.2] 48)) hrw
      have hbw2 : Below W0.heap.size W0 (wr.alloc (.cells #[.int .i64 p.1, .int .i64 p.2] 48)) := hbw.alloc hbw.size _
      have hbox := Box.new wr p 48
      generalize hS : WayM.inB S6 v w (S6.take i) 0 = S0
      obtain ⟨B8, hB8⟩ : ∃ B8, wr.heap.size = B8 := ⟨_, rfl⟩
      rw [hB8] at hbox hrw ⊢
      generalize wr.alloc (.cells #[.int .i64 p.1, .int .i64 p.2] 48) = wa at hsp2 hbw2 hbox ⊢
      have HS := Lib.hid hS
      clear hS hsp hbw c0 c1 hB8
      go_loopw [5, 22] (fun u5 u22 wb => ∃ j : Nat, j ≤ 15 ∧ u22 = .int .i64 j ∧ u5 = .int .i64 (inA S6 v w p (S6.take j) S0) ∧ SpansAt wb r S6 ∧ Box wb B8 p ∧ Below W0.heap.size W0 wb) (fun _ u22 _ => 15 - (intOf u22).toNat)
      case atStart => exact ⟨0, by omega, rfl, rfl, hsp2, hbox, hbw2⟩
      case round =>
        obtain ⟨j, hj, rfl, rfl, hsq, hbq, hbb⟩ := hrel
        clear hsp2 hbox hbw2
        have hrq := spans_lt hsq
        by_cases hlj : j < 15
        · obtain ⟨a, ha, hal⟩ := S6_in hlj
          obtain ⟨c0, c1⟩ := hsq j a ha
          obtain ⟨d0, d1, d2⟩ := hbq
          have HA := Lib.hid ha
          clear ha
          obtain ⟨m, hm⟩ : ∃ m, Hid (W a p = m) := ⟨_, Lib.hid rfl⟩
          have ht := take_next HA.out
          have hd2 : decide ((j : Int) < 15) = true := decide_eq_true (by omega)
          by_cases hv : m = v
          · have HT : Hid (inA S6 v w p (S6.take (j + 1)) S0 = inC w p a S6 (inA S6 v w p (S6.take j) S0)) := by
              refine Lib.hid ?_
              rw [ht]
              unfold inA
              rw [List.foldl_append, List.foldl_cons, List.foldl_nil, if_pos (by rw [hm.out]; exact hv)]
            clear ht
            go_wp2_with fail
            refine (wayS a p m _ hal hpl hm.out).mono ?_
            rintro e w2 ⟨rfl, hb2⟩
            go_wp2
            have bw : Below wr.heap.size wr w2 := (below_new wr _).trans (hb2.mono (by simp))
            have hs2 := hsq.below bw hrq
            have hx8 : Box w2 B8 p := Box.below ⟨d0, d1, d2⟩ bw d2
            have hx10 : Box w2 wr.heap.size a := (Box.new wr a 48).below hb2 (by simp)
            have hbz := hbb.trans (bw.mono hbb.size)
            generalize hT : inA S6 v w p (S6.take j) S0 = T0
            rw [hT] at HT
            obtain ⟨B10, hB10⟩ : ∃ B10, wr.heap.size = B10 := ⟨_, rfl⟩
            rw [hB10] at hx10 ⊢
            have HTT := Lib.hid hT
            clear hT hsq hbb c0 c1 d0 d1 d2 hb2 bw hrq hB10
            go_loopw [5, 33] (fun u5 u33 wc => ∃ k : Nat, k ≤ 15 ∧ u33 = .int .i64 k ∧ u5 = .int .i64 (inC w p a (S6.take k) T0) ∧ SpansAt wc r S6 ∧ Box wc B8 p ∧ Box wc B10 a ∧ Below W0.heap.size W0 wc) (fun _ u33 _ => 15 - (intOf u33).toNat)
            case atStart => exact ⟨0, by omega, rfl, rfl, hs2, hx8, hx10, hbz⟩
            case round =>
              obtain ⟨k, hk, rfl, rfl, hsr, hbx, hby, hbc⟩ := hrel
              clear hs2 hx8 hx10 hbz
              have hrr := spans_lt hsr
              by_cases hlk : k < 15
              · obtain ⟨c, hc, hcl⟩ := S6_in hlk
                obtain ⟨c0, c1⟩ := hsr k c hc
                obtain ⟨d0, d1, d2⟩ := hbx
                obtain ⟨e0, e1, e2⟩ := hby
                have HC := Lib.hid hc
                clear hc
                obtain ⟨m1, hm1⟩ : ∃ m, Hid (W p c = m) := ⟨_, Lib.hid rfl⟩
                by_cases hv1 : m1 = w
                · go_wp2_with fail
                  refine (wayS p c m1 _ hpl hcl hm1.out).mono ?_
                  rintro e w3 ⟨rfl, hb3⟩
                  have bw : Below wr.heap.size wr w3 := (below_new wr _).trans (hb3.mono (by simp))
                  obtain ⟨hc3, hf3⟩ := bcell' bw
                  have z3 := bw.size
                  have x0 : w3.cell? ⟨wr.heap.size, 0, none⟩ = some (.int .i64 c.1) := ((Box.new wr c 48).below hb3 (by simp)).1
                  have x1 : w3.cell? ⟨wr.heap.size, 1, none⟩ = some (.int .i64 c.2) := ((Box.new wr c 48).below hb3 (by simp)).2.1
                  have y0 : w3.cell? ⟨B10, 0, none⟩ = some (.int .i64 a.1) := (hc3 _ _ e2).trans e0
                  have y1 : w3.cell? ⟨B10, 1, none⟩ = some (.int .i64 a.2) := (hc3 _ _ e2).trans e1
                  have hsr3 := hsr.below bw hrr
                  have hb83 : Box w3 B8 p := Box.below ⟨d0, d1, d2⟩ bw d2
                  have hb103 : Box w3 B10 a := Box.below ⟨e0, e1, e2⟩ bw e2
                  have hbc3 := hbc.trans (bw.mono hbc.size)
                  clear hc3 hf3 hb3 bw c0 c1 d0 d1 e0 e1
                  obtain ⟨m2, hm2⟩ : ∃ m, Hid (W a c = m) := ⟨_, Lib.hid rfl⟩
                  have hmb := W_bd a c
                  have hsb := inC_bd w p a (S6.take k) T0 (by rw [← HTT.out]; exact inA_bd S6 v w p _ _ (by rw [← HS.out]; exact inB_bd S6 v w _ _ (by decide)))
                  rw [hm2.out] at hmb
                  obtain ⟨g1, g2⟩ := hmb
                  go_wp2_with fail
                  refine (wayS a c m2 _ hal hcl hm2.out).mono ?_
                  rintro e w4 ⟨rfl, hb4⟩
                  have hs4 := hsr3.below hb4 (spans_lt hsr3)
                  have hx4 := hb83.below hb4 hb83.2.2
                  have hy4 := hb103.below hb4 hb103.2.2
                  have hz4 := hbc3.trans (hb4.mono hbc3.size)
                  clear hsr3 hb83 hb103 hbc3 hb4 x0 x1 y0 y1
                  go_wp2
                  go_roundw
                  case rel =>
                    refine ⟨k + 1, by omega, by go_num, ?_, hs4, hx4, hy4, hz4⟩
                    rw [inC_more HC.out (by rw [hm1.out]; exact hv1), hm2.out]
                    exact or_val (by omega) (by omega) hsb
                  case measure => simp [intOf]; omega
                · go_wp2_with fail
                  refine (wayS p c m1 _ hpl hcl hm1.out).mono ?_
                  rintro e w3 ⟨rfl, hb3⟩
                  have bw : Below wr.heap.size wr w3 := (below_new wr _).trans (hb3.mono (by simp))
                  have hs4 := hsr.below bw hrr
                  have hx4 : Box w3 B8 p := Box.below ⟨d0, d1, d2⟩ bw d2
                  have hy4 : Box w3 B10 a := Box.below ⟨e0, e1, e2⟩ bw e2
                  have hz4 := hbc.trans (bw.mono hbc.size)
                  clear hb3 bw c0 c1 d0 d1 e0 e1 hsr hbc
                  go_wp2
                  go_roundw
                  case rel =>
                    refine ⟨k + 1, by omega, by go_num, ?_, hs4, hx4, hy4, hz4⟩
                    rw [inC_skip HC.out (by rw [hm1.out]; exact hv1)]
                  case measure => simp [intOf]; omega
              · have hk15 : k = 15 := by omega
                have HK := Lib.hid hk15
                clear hk15
                go_wp2
                go_roundw
                case rel =>
                  refine ⟨j + 1, by omega, by go_num, ?_, hsr, hbx, hbc⟩
                  rw [HT.out, HK.out]
                  rfl
                case measure => simp [intOf]; omega
          · clear ht
            go_wp2_with fail
            refine (wayS a p m _ hal hpl hm.out).mono ?_
            rintro e w2 ⟨rfl, hb2⟩
            have bw : Below wr.heap.size wr w2 := (below_new wr _).trans (hb2.mono (by simp))
            have hs4 := hsq.below bw hrq
            have hx4 : Box w2 B8 p := Box.below ⟨d0, d1, d2⟩ bw d2
            have hz4 := hbb.trans (bw.mono hbb.size)
            clear hb2 bw c0 c1 d0 d1 hsq hbb
            go_wp2
            go_roundw
            case rel =>
              refine ⟨j + 1, by omega, by go_num, ?_, hs4, hx4, hz4⟩
              rw [inA_skip HA.out (by rw [hm.out]; exact hv)]
            case measure => simp [intOf]; omega
        · have hj15 : j = 15 := by omega
          have HJ := Lib.hid hj15
          clear hj15
          go_wp2
          go_roundw
          case rel =>
            refine ⟨i + 1, by omega, by go_num, ?_, hsq, spans_lt hsq, hbb⟩
            rw [HJ.out, inB_next HP.out, HS.out]
            rfl
          case measure => simp [intOf]; omega
    · go_wp2
      go_ret
      have : i = 15 := by omega
      subst this
      exact ⟨rfl, hbw⟩
end Go.Proofs.YtfhljcpicdabmaaGreatDoor
