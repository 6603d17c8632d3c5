/- The seat: DateWays: the specification's Chain, both sides' Way, lists of ways compared. -/
import Derived.Test.YtfhljcpicdabmaaGreatDoorSeatLd
namespace Go.Proofs.YtfhljcpicdabmaaGreatDoor
open Go Go.RowKit Go.Ev Go.WayM
set_option maxRecDepth 100000
set_option maxHeartbeats 1000000
theorem isWayR_no (v : Int) (w : World) (h : v < 1 ∨ 13 < v) : Calls Tryz.prog 116 #[.int .i64 v] w fun e w' => e = .returned (.bool false) ∧ w = w' := by
  rcases Classical.em (1 ≤ v) with h1 | h1
  · have h2 : 13 < v := by omega
    go_enter Tryz.func116, Tryz.ntmps116
    go_wp2
    go_ret
    exact ⟨ret_b (decide_eq_false (by omega)), rfl⟩
  · have h2 : v < 1 := by omega
    go_enter Tryz.func116, Tryz.ntmps116
    go_wp2
    go_ret
    exact ⟨rfl, rfl⟩
theorem isWayR_yes (v : Int) (w : World) (h1 : 1 ≤ v) (h2 : v ≤ 13) : Calls Tryz.prog 116 #[.int .i64 v] w fun e w' => e = .returned (.bool true) ∧ w = w' := by
  go_enter Tryz.func116, Tryz.ntmps116
  go_wp2
  go_ret
  exact ⟨rfl, rfl⟩
/-- A row of ways and an error are returned. -/
def ChainIs (xs : List Int) (E : Int) (w : World) (e : Ending) (w' : World) : Prop := ∃ s, e = .returned (.tuple #[s, .int .i64 E]) ∧ w'.ownsRow w.heap.size 49 1 s xs.length (xs.map (Value.int .i64)) ∧ Below w.heap.size w w'
theorem chainR_no (v u : Int) (w : World) (h : ¬ (1 ≤ v ∧ v ≤ 13) ∨ ¬ (1 ≤ u ∧ u ≤ 13)) : Calls Tryz.prog 46 #[.int .i64 v, .int .i64 u] w (ChainIs [] 2 w) := by
  by_cases hv : 1 ≤ v ∧ v ≤ 13
  · have hu : u < 1 ∨ 13 < u := by omega
    obtain ⟨v1, v2⟩ := hv
    go_enter Tryz.func46, Tryz.ntmps46
    go_wp2_with fail
    refine (isWayR_yes v _ v1 v2).mono ?_
    rintro e w1 ⟨rfl, rfl⟩
    go_wp2_with fail
    refine (isWayR_no u _ hu).mono ?_
    rintro e w1 ⟨rfl, rfl⟩
    go_wp2
    go_ret2
    exact ⟨_, rfl, World.ownsRow_nil _ _ _ _, Below.refl _ _⟩
  · have hv' : v < 1 ∨ 13 < v := by omega
    go_enter Tryz.func46, Tryz.ntmps46
    go_wp2_with fail
    refine (isWayR_no v _ hv').mono ?_
    rintro e w1 ⟨rfl, rfl⟩
    go_wp2
    go_ret2
    exact ⟨_, rfl, World.ownsRow_nil _ _ _ _, Below.refl _ _⟩
theorem chainR_yes (v u : Int) (w : World) (v1 : 1 ≤ v) (v2 : v ≤ 13) (u1 : 1 ≤ u) (u2 : u ≤ 13) : Calls Tryz.prog 46 #[.int .i64 v, .int .i64 u] w (ChainIs (chainL v u) 0 w) := by
  go_enter Tryz.func46, Tryz.ntmps46
  go_wp2_with fail
  refine (isWayR_yes v _ v1 v2).mono ?_
  rintro e w1 ⟨rfl, rfl⟩
  go_wp2_with fail
  refine (isWayR_yes u _ u1 u2).mono ?_
  rintro e w1 ⟨rfl, rfl⟩
  go_wp2_with fail
  refine (chainOf_any v u _).mono ?_
  rintro e w1 ⟨s, rfl, hown, hb⟩
  go_wp2
  go_ret2
  exact ⟨s, rfl, hown, hb⟩
theorem chain_both (v u : Int) : ∃ (xs : List Int) (E : Int), xs.length ≤ 13 ∧ (∀ w, Calls Tryz.prog 45 #[.int .i64 v, .int .i64 u] w (ChainIs xs E w)) ∧ (∀ w, Calls Tryz.prog 46 #[.int .i64 v, .int .i64 u] w (ChainIs xs E w)) := by
  by_cases h : (1 ≤ v ∧ v ≤ 13) ∧ (1 ≤ u ∧ u ≤ 13)
  · exact ⟨chainL v u, 0, chainTo_len v u 13, fun w => chain_yes v u w h.1.1 h.1.2 h.2.1 h.2.2, fun w => chainR_yes v u w h.1.1 h.1.2 h.2.1 h.2.2⟩
  · have h' : ¬ (1 ≤ v ∧ v ≤ 13) ∨ ¬ (1 ≤ u ∧ u ≤ 13) := by
      by_cases h1 : 1 ≤ v ∧ v ≤ 13
      · exact .inr fun h2 => h ⟨h1, h2⟩
      · exact .inl h1
    refine ⟨[], 2, by simp, fun w => (chain_no v u w h').mono ?_, fun w => chainR_no v u w h'⟩
    rintro e w' ⟨rfl, rfl⟩
    exact ⟨_, rfl, World.ownsRow_nil _ _ _ _, Below.refl _ _⟩
/-- A row of ways reads as a list. -/
def WaysAt (w : World) (s : Value) (xs : List Int) : Prop := ∃ A c, s = .slice A xs.length c ∧ (0 < xs.length → ∃ g, A = some ⟨g, 0, none⟩ ∧ g < w.heap.size ∧ ∀ (i : Nat) (x : Int), xs[i]? = some x → w.cell? ⟨g, i, none⟩ = some (.int .i64 x))
theorem waysAt_of {w : World} {B : Nat} {s : Value} {xs : List Int} (h : w.ownsRow B 49 1 s xs.length (xs.map (Value.int .i64))) : WaysAt w s xs := by
  rcases h.2 with ⟨rfl, h0⟩ | ⟨g, cap, cur, rfl, _⟩
  · have : xs = [] := by simpa using h0
    subst this
    exact ⟨none, 0, rfl, fun h => by simp at h⟩
  · refine ⟨_, _, rfl, fun hn => ⟨g, rfl, (h.lt g (by simp [Value.ownBlock])).2, fun i x hx => ?_⟩⟩
    have hi : i < xs.length := (List.getElem?_eq_some_iff.1 hx).1
    rw [h.cellAt i (by omega)]
    simp [hx]
theorem WaysAt.below {w w' : World} {B : Nat} {s : Value} {xs : List Int} (h : WaysAt w s xs) (hb : Below B w w') (hB : w.heap.size ≤ B) : WaysAt w' s xs := by
  obtain ⟨A, c, rfl, hc⟩ := h
  refine ⟨A, c, rfl, fun hn => ?_⟩
  obtain ⟨g, rfl, hg, hx⟩ := hc hn
  exact ⟨g, rfl, by have := hb.size; omega, fun i x hi => (hb.cell (p := ⟨g, i, none⟩) (by show g < B; omega)).trans (hx i x hi)⟩
def DrewOnly (v : Value) (w : World) (e : Ending) (w' : World) : Prop := e = .returned v ∧ ∃ m, w' = w.drewN m
def SameAt (w : World) (n : Nat) (u : Value) (wr : World) : Prop := ∃ k : Nat, k ≤ n ∧ u = .int .i64 k ∧ ∃ m, wr = w.drewN m
theorem sameWays_any (s1 s2 : Value) (xs : List Int) (w : World) (h1 : WaysAt w s1 xs) (h2 : WaysAt w s2 xs) (hl : xs.length ≤ 13) : Calls Tryz.prog 47 #[s1, s2] w (DrewOnly (.bool true) w) := by
  obtain ⟨A1, c1, rfl, r1⟩ := h1
  obtain ⟨A2, c2, rfl, r2⟩ := h2
  obtain ⟨n, hn⟩ : ∃ n, Hid (xs.length = n) := ⟨_, Lib.hid rfl⟩
  rw [hn.out] at r1 r2 hl ⊢
  go_enter Tryz.func47, Tryz.ntmps47
  go_wp2
  go_loopw [5] (fun u5 wr => SameAt w n u5 wr) (fun u5 _ => n - (intOf u5).toNat)
  case atStart => exact ⟨0, by omega, rfl, 0, rfl⟩
  case round =>
    obtain ⟨k, hk, rfl, m, rfl⟩ := hrel
    by_cases hlt : k < n
    · obtain ⟨g1, rfl, _, d1⟩ := r1 (by omega)
      obtain ⟨g2, rfl, _, d2⟩ := r2 (by omega)
      have hx : xs[k]? = some (xs[k]'(by have := hn.out; omega)) := List.getElem?_eq_getElem _
      obtain ⟨x, hxx⟩ : ∃ x, xs[k]? = some x := ⟨_, hx⟩
      have e1 := d1 k x hxx
      have e2 := d2 k x hxx
      clear hx hxx d1 d2
      go_wp2
      go_quiet (fail)
      go_wp2
      go_roundw
      case rel => exact ⟨k + 1, by omega, by go_num, _, rfl⟩
      case measure => simp [intOf]; omega
    · go_wp2
      go_ret
      exact ⟨rfl, _, rfl⟩
/-! Spans that are formed. -/
def spanB (a b : Int) : Bool := decide (-5000000 ≤ a ∧ a < b ∧ b ≤ 5000000)
theorem spanP (a b : Int) (k : Bool) (w : World) (hk : spanB a b = k) : Calls Tryz.prog 109 #[.agg #[.int .i64 a, .int .i64 b]] w fun e w' => e = .returned (.bool k) ∧ Below w.heap.size w w' := by
  subst hk
  by_cases h1 : -5000000 ≤ a
  · by_cases h2 : a < b
    · by_cases h3 : b ≤ 5000000
      · have e : spanB a b = true := decide_eq_true ⟨h1, h2, h3⟩
        rw [e]; clear e
        go_enter Tryz.func109, Tryz.ntmps109
        go_wp2
        go_ret
        exact ⟨rfl, below_new _ _⟩
      · have e : spanB a b = false := decide_eq_false (by omega)
        have d : decide (b ≤ 5000000) = false := decide_eq_false h3
        rw [e]; clear e
        go_enter Tryz.func109, Tryz.ntmps109
        go_wp2
        go_ret
        exact ⟨rfl, below_new _ _⟩
    · have e : spanB a b = false := decide_eq_false (by omega)
      have d : decide (a < b) = false := decide_eq_false h2
      rw [e]; clear e
      go_enter Tryz.func109, Tryz.ntmps109
      go_wp2
      go_ret
      exact ⟨rfl, below_new _ _⟩
  · have e : spanB a b = false := decide_eq_false (by omega)
    have d : decide (-5000000 ≤ a) = false := decide_eq_false h1
    rw [e]; clear e
    go_enter Tryz.func109, Tryz.ntmps109
    go_wp2
    go_ret
    exact ⟨rfl, below_new _ _⟩
theorem spanR (a b : Int) (k : Bool) (w : World) (hk : spanB a b = k) : Calls Tryz.prog 111 #[.agg #[.int .i64 a, .int .i64 b]] w fun e w' => e = .returned (.bool k) ∧ Below w.heap.size w w' := by
  subst hk
  by_cases h2 : a < b
  · by_cases h1 : -5000000 ≤ a
    · by_cases h3 : b ≤ 5000000
      · have e : spanB a b = true := decide_eq_true ⟨h1, h2, h3⟩
        rw [e]; clear e
        go_enter Tryz.func111, Tryz.ntmps111
        go_wp2
        go_ret
        exact ⟨rfl, below_new _ _⟩
      · have e : spanB a b = false := decide_eq_false (by omega)
        have d : decide (b ≤ 5000000) = false := decide_eq_false h3
        rw [e]; clear e
        go_enter Tryz.func111, Tryz.ntmps111
        go_wp2
        go_ret
        exact ⟨rfl, below_new _ _⟩
    · have e : spanB a b = false := decide_eq_false (by omega)
      have d : decide (-5000000 ≤ a) = false := decide_eq_false h1
      rw [e]; clear e
      go_enter Tryz.func111, Tryz.ntmps111
      go_wp2
      go_ret
      exact ⟨rfl, below_new _ _⟩
  · have e : spanB a b = false := decide_eq_false (by omega)
    have d : decide (a < b) = false := decide_eq_false h2
    rw [e]; clear e
    go_enter Tryz.func111, Tryz.ntmps111
    go_wp2
    go_ret
    exact ⟨rfl, below_new _ _⟩
def WayBe (k E : Int) (w : World) (e : Ending) (w' : World) : Prop := e = .returned (.tuple #[.int .i64 k, .int .i64 E]) ∧ Below w.heap.size w w'
theorem way_no1 (a b c d : Int) (w : World) (h1 : spanB a b = false) : Calls Tryz.prog 43 #[.agg #[.int .i64 a, .int .i64 b], .agg #[.int .i64 c, .int .i64 d]] w (WayBe 0 2 w) := by
  go_enter Tryz.func43, Tryz.ntmps43
  go_wp2_with fail
  refine (spanP a b false _ h1).mono ?_
  rintro e w1 ⟨rfl, b1⟩
  obtain ⟨hc1, hf1⟩ := bcell' b1
  go_wp2
  go_ret2
  exact ⟨rfl, (below2 _ _ _).trans (b1.mono (by simp; omega))⟩
theorem way_no2 (a b c d : Int) (w : World) (h1 : spanB a b = true) (h2 : spanB c d = false) : Calls Tryz.prog 43 #[.agg #[.int .i64 a, .int .i64 b], .agg #[.int .i64 c, .int .i64 d]] w (WayBe 0 2 w) := by
  go_enter Tryz.func43, Tryz.ntmps43
  go_wp2_with fail
  refine (spanP a b true _ h1).mono ?_
  rintro e w1 ⟨rfl, b1⟩
  obtain ⟨hc1, hf1⟩ := bcell' b1
  have s1 : w.heap.size + 1 < w1.heap.size := by (have := b1.size; simp at this; omega)
  have s0 : w.heap.size < w1.heap.size := by omega
  go_wp2_with fail
  refine (spanP c d false _ h2).mono ?_
  rintro e w2 ⟨rfl, b2⟩
  go_wp2
  go_ret2
  exact ⟨rfl, ((below2 _ _ _).trans (b1.mono (by simp; omega))).trans (b2.mono (by omega))⟩
theorem way_yes (a b c d : Int) (w : World) (h1 : spanB a b = true) (h2 : spanB c d = true) : Calls Tryz.prog 43 #[.agg #[.int .i64 a, .int .i64 b], .agg #[.int .i64 c, .int .i64 d]] w (WayBe (wl a b c d) 0 w) := by
  have g1 : a < b := (of_decide_eq_true h1).2.1
  have g2 : c < d := (of_decide_eq_true h2).2.1
  go_enter Tryz.func43, Tryz.ntmps43
  go_wp2_with fail
  refine (spanP a b true _ h1).mono ?_
  rintro e w1 ⟨rfl, b1⟩
  obtain ⟨hc1, hf1⟩ := bcell' b1
  have s1 : w.heap.size + 1 < w1.heap.size := by (have := b1.size; simp at this; omega)
  have s0 : w.heap.size < w1.heap.size := by omega
  go_wp2_with fail
  refine (spanP c d true _ h2).mono ?_
  rintro e w2 ⟨rfl, b2⟩
  obtain ⟨hc2, hf2⟩ := bcell' b2
  have s2 : w.heap.size + 1 < w2.heap.size := by (have := b2.size; omega)
  go_wp2_with fail
  refine (wayS (a, b) (c, d) (wl a b c d) _ g1 g2 rfl).mono ?_
  rintro e w3 ⟨rfl, b3⟩
  go_wp2
  go_ret2
  exact ⟨rfl, (((below2 _ _ _).trans (b1.mono (by simp; omega))).trans (b2.mono (by omega))).trans (b3.mono (by omega))⟩
theorem wayR_no1 (a b c d : Int) (w : World) (h1 : spanB a b = false) : Calls Tryz.prog 44 #[.agg #[.int .i64 a, .int .i64 b], .agg #[.int .i64 c, .int .i64 d]] w (WayBe 0 2 w) := by
  go_enter Tryz.func44, Tryz.ntmps44
  go_wp2_with fail
  refine (spanR a b false _ h1).mono ?_
  rintro e w1 ⟨rfl, b1⟩
  obtain ⟨hc1, hf1⟩ := bcell' b1
  go_wp2
  go_ret2
  exact ⟨rfl, (below2 _ _ _).trans (b1.mono (by simp; omega))⟩
theorem wayR_no2 (a b c d : Int) (w : World) (h1 : spanB a b = true) (h2 : spanB c d = false) : Calls Tryz.prog 44 #[.agg #[.int .i64 a, .int .i64 b], .agg #[.int .i64 c, .int .i64 d]] w (WayBe 0 2 w) := by
  go_enter Tryz.func44, Tryz.ntmps44
  go_wp2_with fail
  refine (spanR a b true _ h1).mono ?_
  rintro e w1 ⟨rfl, b1⟩
  obtain ⟨hc1, hf1⟩ := bcell' b1
  have s1 : w.heap.size + 1 < w1.heap.size := by (have := b1.size; simp at this; omega)
  have s0 : w.heap.size < w1.heap.size := by omega
  go_wp2_with fail
  refine (spanR c d false _ h2).mono ?_
  rintro e w2 ⟨rfl, b2⟩
  go_wp2
  go_ret2
  exact ⟨rfl, ((below2 _ _ _).trans (b1.mono (by simp; omega))).trans (b2.mono (by omega))⟩
theorem wayR_yes (a b c d : Int) (w : World) (h1 : spanB a b = true) (h2 : spanB c d = true) : Calls Tryz.prog 44 #[.agg #[.int .i64 a, .int .i64 b], .agg #[.int .i64 c, .int .i64 d]] w (WayBe (wl a b c d) 0 w) := by
  have g1 : a < b := (of_decide_eq_true h1).2.1
  have g2 : c < d := (of_decide_eq_true h2).2.1
  go_enter Tryz.func44, Tryz.ntmps44
  go_wp2_with fail
  refine (spanR a b true _ h1).mono ?_
  rintro e w1 ⟨rfl, b1⟩
  obtain ⟨hc1, hf1⟩ := bcell' b1
  have s1 : w.heap.size + 1 < w1.heap.size := by (have := b1.size; simp at this; omega)
  have s0 : w.heap.size < w1.heap.size := by omega
  go_wp2_with fail
  refine (spanR c d true _ h2).mono ?_
  rintro e w2 ⟨rfl, b2⟩
  obtain ⟨hc2, hf2⟩ := bcell' b2
  have s2 : w.heap.size + 1 < w2.heap.size := by (have := b2.size; omega)
  go_wp2_with fail
  refine (wayRS (a, b) (c, d) (wl a b c d) _ g1 g2 rfl).mono ?_
  rintro e w3 ⟨rfl, b3⟩
  go_wp2
  go_ret2
  exact ⟨rfl, (((below2 _ _ _).trans (b1.mono (by simp; omega))).trans (b2.mono (by omega))).trans (b3.mono (by omega))⟩
/-- What Way returns. -/
def wayNum (a b c d : Int) : Int := if spanB a b = true ∧ spanB c d = true then wl a b c d else 0
def wayErr (a b c d : Int) : Int := if spanB a b = true ∧ spanB c d = true then 0 else 2
theorem way_any' (a b c d : Int) (w : World) : Calls Tryz.prog 43 #[.agg #[.int .i64 a, .int .i64 b], .agg #[.int .i64 c, .int .i64 d]] w (WayBe (wayNum a b c d) (wayErr a b c d) w) := by
  unfold wayNum wayErr
  cases h1 : spanB a b with
  | false => exact way_no1 a b c d w h1
  | true =>
    cases h2 : spanB c d with
    | false => exact way_no2 a b c d w h1 h2
    | true => exact way_yes a b c d w h1 h2
theorem wayR_any' (a b c d : Int) (w : World) : Calls Tryz.prog 44 #[.agg #[.int .i64 a, .int .i64 b], .agg #[.int .i64 c, .int .i64 d]] w (WayBe (wayNum a b c d) (wayErr a b c d) w) := by
  unfold wayNum wayErr
  cases h1 : spanB a b with
  | false => exact wayR_no1 a b c d w h1
  | true =>
    cases h2 : spanB c d with
    | false => exact wayR_no2 a b c d w h1 h2
    | true => exact wayR_yes a b c d w h1 h2
end Go.Proofs.YtfhljcpicdabmaaGreatDoor
