/- The seat: spans placed by a net, the specification's side: Fits. -/
import Derived.Test.YtfhljcpicdabmaaGreatDoorSeatPb
namespace Go.Proofs.YtfhljcpicdabmaaGreatDoor
open Go Go.RowKit Go.Ev Go.WayM
set_option maxRecDepth 100000
set_option maxHeartbeats 1000000
/-- A row of spans reads as a list. -/
def SpAt (w : World) (s : Value) (l : List Sp) : Prop := ∃ A c, s = .slice A l.length c ∧ (0 < l.length → ∃ g o, A = some ⟨g, o, none⟩ ∧ g < w.heap.size ∧ ∀ (i : Nat) (p : Sp), l[i]? = some p → w.cell? ⟨g, o + i * 2, none⟩ = some (.int .i64 p.1) ∧ w.cell? ⟨g, o + i * 2 + 1, none⟩ = some (.int .i64 p.2))
theorem SpAt.below {w w' : World} {B : Nat} {s : Value} {l : List Sp} (h : SpAt w s l) (hb : Below B w w') (hB : w.heap.size ≤ B) : SpAt w' s l := by
  obtain ⟨A, c, rfl, hc⟩ := h
  refine ⟨A, c, rfl, fun hn => ?_⟩
  obtain ⟨g, o, rfl, hg, hx⟩ := hc hn
  exact ⟨g, o, rfl, by have := hb.size; omega, fun i p hi => ⟨(hb.cell (p := ⟨g, o + i * 2, none⟩) (by show g < B; omega)).trans (hx i p hi).1, (hb.cell (p := ⟨g, o + i * 2 + 1, none⟩) (by show g < B; omega)).trans (hx i p hi).2⟩⟩
theorem SpAt.get {w : World} {A : Option Addr} {n c : Nat} {l : List Sp} {i : Nat} {p : Sp} (h : SpAt w (.slice A n c) l) (hi : l[i]? = some p) : ∃ g o, A = some ⟨g, o, none⟩ ∧ g < w.heap.size ∧ w.cell? ⟨g, o + i * 2, none⟩ = some (.int .i64 p.1) ∧ w.cell? ⟨g, o + i * 2 + 1, none⟩ = some (.int .i64 p.2) := by
  obtain ⟨A', c', he, hc⟩ := h
  cases he
  obtain ⟨g, o, rfl, hg, hx⟩ := hc (by have := (List.getElem?_eq_some_iff.1 hi).1; omega)
  exact ⟨g, o, rfl, hg, hx i p hi⟩
theorem SpAt.len {w : World} {A : Option Addr} {n c : Nat} {l : List Sp} (h : SpAt w (.slice A n c) l) : l.length = n := by
  obtain ⟨A', c', he, hc⟩ := h
  cases he
  rfl
theorem NetAt.get {w : World} {A : Option Addr} {n c : Nat} {net : Net} {i j : Nat} {row : List Int} {x : Int} (h : NetAt w (.slice A n c) net) (hi : net[i]? = some row) (hj : row[j]? = some x) :
    ∃ g o g' o' c', A = some ⟨g, o, none⟩ ∧ g < w.heap.size ∧ g' < w.heap.size ∧ w.cell? ⟨g, o + i, none⟩ = some (.slice (some ⟨g', o', none⟩) row.length c') ∧ w.cell? ⟨g', o' + j, none⟩ = some (.int .i64 x) := by
  obtain ⟨A0, c0, he, hc⟩ := h
  cases he
  obtain ⟨g, o, rfl, hg, hx⟩ := hc (by have := (List.getElem?_eq_some_iff.1 hi).1; omega)
  obtain ⟨v, hv, A1, c1, rfl, h1⟩ := hx i row hi
  obtain ⟨g', o', rfl, hg', hy⟩ := h1 (by have := (List.getElem?_eq_some_iff.1 hj).1; omega)
  exact ⟨g, o, g', o', c1, rfl, hg, hg', hv, hy j x hj⟩
theorem NetAt.len {w : World} {A : Option Addr} {n c : Nat} {net : Net} (h : NetAt w (.slice A n c) net) : net.length = n := by
  obtain ⟨A', c', he, hc⟩ := h
  cases he
  rfl
/-- Of a formed net, each set. -/
theorem netB_get {net : Net} (h : netB net = true) {i j : Nat} (hi : i < net.length) (hj : j < net.length) : ∃ row, net[i]? = some row ∧ row.length = net.length ∧ row[j]? = some (at2 net i j) ∧ 0 ≤ at2 net i j ∧ at2 net i j < 16384 := by
  unfold netB at h
  rw [Bool.and_eq_true, List.all_eq_true] at h
  have hr : net[i]? = some net[i] := List.getElem?_eq_getElem hi
  have h2 := h.2 net[i] (List.getElem_mem hi)
  unfold rowB at h2
  rw [Bool.and_eq_true, decide_eq_true_eq, List.all_eq_true] at h2
  have hx : net[i][j]? = some (net[i][j]'(by omega)) := List.getElem?_eq_getElem (by omega)
  have e : at2 net i j = net[i][j]'(by omega) := by
    unfold at2
    rw [List.getD_eq_getElem?_getD, List.getD_eq_getElem?_getD, hr, Option.getD_some, hx, Option.getD_some]
  have hs := h2.2 _ (List.getElem_mem (l := net[i]) (n := j) (by omega))
  unfold setB at hs
  rw [decide_eq_true_eq] at hs
  refine ⟨net[i], hr, h2.1, by rw [e]; exact hx, by rw [e]; exact hs.1, by rw [e]; exact hs.2.1⟩
theorem netB_four {net : Net} (h : netB net = true) : net.length ≤ 4 := by
  unfold netB at h
  rw [Bool.and_eq_true, decide_eq_true_eq] at h
  exact h.1
theorem bitI_nat {x m : Int} {s k : Nat} (hx : x = s) (hm : m = k) : bitI x m = s.testBit k := by
  subst hx; subst hm; rfl
theorem allowed_at (x m : Int) (b : Bool) (w : World) (h1 : 0 ≤ x) (h2 : x < 16384) (h3 : 0 ≤ m) (h4 : m ≤ 13) (hb : bitI x m = b) : Calls Tryz.prog 144 #[.int .i64 x, .int .i64 m] w fun e w' => e = .returned (.bool b) ∧ w = w' := by
  obtain ⟨s, rfl⟩ : ∃ s : Nat, x = s := ⟨x.toNat, by omega⟩
  obtain ⟨k, rfl⟩ : ∃ k : Nat, m = k := ⟨m.toNat, by omega⟩
  have hs : s < 16384 := by omega
  rw [bitI_nat rfl rfl] at hb
  subst hb
  go_enter Tryz.func144, Tryz.ntmps144
  go_wp2
  go_ret
  exact ⟨ret_b (bit_val hs), rfl⟩
theorem hasWay_I (x m : Int) (b : Bool) (w : World) (h1 : 0 ≤ x) (h2 : x < 16384) (h3 : 0 ≤ m) (h4 : m ≤ 13) (hb : bitI x m = b) : Calls Tryz.prog 115 #[.int .i64 x, .int .i64 m] w fun e w' => e = .returned (.bool b) ∧ w = w' := by
  obtain ⟨s, rfl⟩ : ∃ s : Nat, x = s := ⟨x.toNat, by omega⟩
  obtain ⟨k, rfl⟩ : ∃ k : Nat, m = k := ⟨m.toNat, by omega⟩
  have hs : s < 16384 := by omega
  rw [bitI_nat rfl rfl] at hb
  subst hb
  exact hasWay_at s k w hs (by omega)
theorem nth_get {l : List Sp} {i : Nat} (h : i < l.length) : l[i]? = some (nth l i) := by
  unfold WayM.nth
  rw [List.getD_eq_getElem?_getD, List.getElem?_eq_getElem h]; rfl
theorem fitsRow_next (net : Net) (l : List Sp) (i k : Nat) : fitsRow net l i (k + 1) = (fitsRow net l i k && okP net i k (nth l i) (nth l k)) := all_succ _ k
theorem fitsTo_next (net : Net) (l : List Sp) (i : Nat) : fitsTo net l (i + 1) = (fitsTo net l i && fitsRow net l i l.length) := all_succ _ i
theorem fitsAll_no {net : Net} {l : List Sp} {i k : Nat} (hi : i < l.length) (hk : k < l.length) (h : okP net i k (nth l i) (nth l k) = false) : fitsAll net l = false := by
  rw [Bool.eq_false_iff]
  intro hf
  rw [(fitsAll_iff net l).1 hf i k hi hk] at h
  cases h
abbrev FitAt (W1 : World) (g gi g' gj gl gp gq : Nat) (v : Value) (x : Int) (a b : Sp) (w : World) : Prop := w.cell? ⟨g, gi, none⟩ = some v ∧ w.cell? ⟨g', gj, none⟩ = some (.int .i64 x) ∧ w.cell? ⟨gl, gp, none⟩ = some (.int .i64 a.1) ∧ w.cell? ⟨gl, gp + 1, none⟩ = some (.int .i64 a.2) ∧ w.cell? ⟨gl, gq, none⟩ = some (.int .i64 b.1) ∧ w.cell? ⟨gl, gq + 1, none⟩ = some (.int .i64 b.2) ∧ W1.heap.size ≤ w.heap.size ∧ Below W1.heap.size W1 w
theorem fitAt_below {W1 : World} {g gi g' gj gl gp gq : Nat} {v : Value} {x : Int} {a b : Sp} {w : World} (h : FitAt W1 g gi g' gj gl gp gq v x a b w) : Below W1.heap.size W1 w := h.2.2.2.2.2.2.2
theorem fitsR_any (s sl : Value) (net : Net) (l : List Sp) (W0 : World) (h : NetAt W0 s net) (hl : SpAt W0 sl l) (hN : Hid (netB net = true)) (hlen : l.length ≤ net.length) (hg : Hid (∀ p ∈ l, p.1 < p.2)) :
    Calls Tryz.prog 75 #[s, sl] W0 fun e w' => e = .returned (.bool (fitsAll net l)) ∧ Below W0.heap.size W0 w' := by
  obtain ⟨A, c, rfl, _⟩ := id h
  obtain ⟨B, cl, rfl, _⟩ := id hl
  obtain ⟨n, hn⟩ : ∃ n, Hid (net.length = n) := ⟨_, Lib.hid rfl⟩
  obtain ⟨m, hm⟩ : ∃ m, Hid (l.length = m) := ⟨_, Lib.hid rfl⟩
  have h4 := netB_four hN.out
  rw [hn.out] at h h4 hlen ⊢
  rw [hm.out] at hl hlen ⊢
  have hm4 : m ≤ 4 := by omega
  go_enter Tryz.func75, Tryz.ntmps75
  go_wp2
  go_loopw [5] (fun u5 wr => ∃ i : Nat, i ≤ m ∧ u5 = .int .i64 i ∧ Hid (fitsTo net l i = true) ∧ NetAt wr (.slice A n c) net ∧ SpAt wr (.slice B m cl) l ∧ Below W0.heap.size W0 wr) (fun u5 _ => m - (intOf u5).toNat)
  case atStart => exact ⟨0, by omega, rfl, Lib.hid rfl, h, hl, Below.refl _ _⟩
  case round =>
    obtain ⟨i, hi, rfl, hf, hnet, hsp, hbw⟩ := hrel
    clear h hl
    by_cases hlt : i < m
    · go_wp2
      go_loopw [6] (fun u6 wi => ∃ k : Nat, k ≤ m ∧ u6 = .int .i64 k ∧ Hid (fitsRow net l i k = true) ∧ NetAt wi (.slice A n c) net ∧ SpAt wi (.slice B m cl) l ∧ Below W0.heap.size W0 wi) (fun u6 _ => m - (intOf u6).toNat)
      case atStart => exact ⟨0, by omega, rfl, Lib.hid rfl, hnet, hsp, hbw⟩
      case round =>
        obtain ⟨k, hk, rfl, hfr, hnet2, hsp2, hbw2⟩ := hrel
        clear hnet hsp hbw
        by_cases hltk : k < m
        · obtain ⟨row, hrow, hrl, hx, x1, x2⟩ := netB_get hN.out (i := i) (j := k) (by have := hn.out; omega) (by have := hn.out; omega)
          have hpi := nth_get (l := l) (i := i) (by have := hm.out; omega)
          have hpk := nth_get (l := l) (i := k) (by have := hm.out; omega)
          obtain ⟨g, o, g', o', c', rfl, hgs, hgs', c1, c2⟩ := hnet2.get hrow hx
          obtain ⟨gl, ol, rfl, hgl, d0, d1⟩ := hsp2.get hpi
          obtain ⟨gl2, ol2, he, _, e0, e1⟩ := hsp2.get hpk
          cases he
          have ga := hg.out _ (List.mem_of_getElem? hpi)
          have gb := hg.out _ (List.mem_of_getElem? hpk)
          rw [hrl, hn.out] at c1
          obtain ⟨a, ha⟩ : ∃ a, Hid (nth l i = a) := ⟨_, Lib.hid rfl⟩
          obtain ⟨b, hb⟩ : ∃ b, Hid (nth l k = b) := ⟨_, Lib.hid rfl⟩
          obtain ⟨x, hxx⟩ : ∃ x, Hid (at2 net i k = x) := ⟨_, Lib.hid rfl⟩
          rw [ha.out] at d0 d1 ga
          rw [hb.out] at e0 e1 gb
          rw [hxx.out] at c2 x1 x2
          obtain ⟨m1, hm1⟩ : ∃ m1, Hid (W a b = m1) := ⟨_, Lib.hid rfl⟩
          have hmb := W_bd a b
          rw [hm1.out] at hmb
          obtain ⟨g1, g2⟩ := hmb
          have g3 : 0 ≤ m1 := by omega
          obtain ⟨q, hq⟩ : ∃ q, Hid (bitI x m1 = q) := ⟨_, Lib.hid rfl⟩
          have hok : Hid (okP net i k (nth l i) (nth l k) = q) := Lib.hid (by unfold okP; rw [ha.out, hb.out, hm1.out, hxx.out, hq.out])
          clear hrow hx hpi hpk hrl
          have bi1 : (0 : Int) ≤ i := by omega
          have bi2 : (i : Int) < n := by omega
          have bi3 : (i : Int) < m := by omega
          have bk1 : (0 : Int) ≤ k := by omega
          have bk2 : (k : Int) < n := by omega
          have bk3 : (k : Int) < m := by omega
          have kb : Below wr.heap.size wr wr := Below.refl _ _
          go_wp2
          go_region_held3 (FitAt wr g (o + i) g' (o' + k) gl (ol + i * 2) (ol + k * 2) (.slice (some ⟨g', o', none⟩) n c') x a b)
            ((refine ⟨?_, ?_, ?_, ?_, ?_, ?_, ?_, ?_⟩ <;> (first | go_keep | omega | assumption | exact Below.drew (by assumption) | (rw [hcc _ _ (by first | exact hgs | exact hgs' | exact hgl | omega)]; first | exact c1 | exact c2 | exact d0 | exact d1 | exact e0 | exact e1 | go_keep) | (have := hb.size; omega))))
            (first | (go_at_call 112; with_reducible refine (wayRS a b m1 _ ga gb hm1.out).mono ?_; rintro e w' ⟨rfl, hb⟩; have hbW : Below wr.heap.size wr w' := Below.trans (by first | assumption | exact fitAt_below (by assumption) | exact Below.drew (by assumption)) (hb.mono (by first | omega | (simp; done) | (simp; omega))); have hsz := hbW.size; obtain ⟨hcc, hff⟩ := bcell' hb) | (go_at_call 144; with_reducible refine (allowed_at x m1 q _ x1 x2 g3 g2 hq.out).mono ?_; rintro e w' ⟨rfl, rfl⟩))
          have bw : Below wr.heap.size wr w' := fitAt_below (by assumption)
          have hnet3 := hnet2.below bw (Nat.le_refl _)
          have hsp3 := hsp2.below bw (Nat.le_refl _)
          have hbw3 : Below W0.heap.size W0 w' := hbw2.trans (bw.mono hbw2.size)
          clear bw hnet2 hsp2 hbw2 c1 c2 d0 d1 e0 e1
          cases q with
          | true =>
            go_wp2
            go_roundw
            case rel =>
              refine ⟨k + 1, by omega, by go_num, Lib.hid ?_, hnet3, hsp3, hbw3⟩
              rw [fitsRow_next, hfr.out, hok.out]; rfl
            case measure => simp [intOf]; omega
          | false =>
            go_wp2
            go_ret
            exact ⟨ret_b (fitsAll_no (by have := hm.out; omega) (by have := hm.out; omega) hok.out).symm, hbw3⟩
        · have hkm : k = m := by omega
          have HK := Lib.hid hkm
          clear hkm
          go_wp2
          go_roundw
          case rel =>
            refine ⟨i + 1, by omega, by go_num, Lib.hid ?_, hnet2, hsp2, hbw2⟩
            have := hfr.out
            rw [HK.out] at this
            rw [fitsTo_next, hf.out, hm.out, this]; rfl
          case measure => simp [intOf]; omega
    · have him : i = m := by omega
      have HM := Lib.hid him
      clear him
      go_wp2
      go_ret
      have := hf.out
      rw [HM.out, ← hm.out] at this
      exact ⟨ret_b this.symm, hbw⟩
end Go.Proofs.YtfhljcpicdabmaaGreatDoor
