/- The seat: DateTurned, walked for every input. -/
import Derived.Test.YtfhljcpicdabmaaGreatDoorSeatLg
namespace Go.Proofs.YtfhljcpicdabmaaGreatDoor
open Go Go.RowKit Go.Ev Go.WayM
set_option maxRecDepth 100000
set_option maxHeartbeats 2000000
theorem below3 (w : World) (o o' o'' : Obj) : Below w.heap.size w (((w.alloc o).alloc o').alloc o'') := (((Below.refl _ _).alloc (Nat.le_refl _) _).alloc (by simp) _).alloc (by simp; omega) _
abbrev spanV (a b : Int) : Value := .agg #[.int .i64 a, .int .i64 b]
def TrueBelow (w : World) (e : Ending) (w' : World) : Prop := e = .returned (.bool true) ∧ Below w.heap.size w w'
theorem turned_no (a b c d e f v u : Int) (w : World) (hT : Hid (TabsIn tabs w)) (h8 : 4 ≤ w.heap.size) (hn : wayErr a b c d = 2) (hn2 : wayErr c d a b = 2) :
    Calls Tryz.prog 14 #[spanV a b, spanV c d, spanV e f, .int .u8 v, .int .u8 u] w (TrueBelow w) := by
  have k0 := below3 w (.cells #[.int .i64 a, .int .i64 b] 48) (.cells #[.int .i64 c, .int .i64 d] 48) (.cells #[.int .i64 e, .int .i64 f] 48)
  have HN := Lib.hid hn
  have HN2 := Lib.hid hn2
  clear hn hn2
  go_enter Tryz.func14, Tryz.ntmps14
  go_wp2_with fail
  refine (way_any' a b c d _).mono ?_
  rintro e1 w1 ⟨rfl, b1⟩
  rw [HN.out]
  obtain ⟨hc1, hf1⟩ := bcell b1
  have s1 : w.heap.size + 1 + 1 < w1.heap.size := by (have := b1.size; simp at this; omega)
  have s2 : w.heap.size + 1 < w1.heap.size := by omega
  have s3 : w.heap.size < w1.heap.size := by omega
  have k1 : Below w.heap.size w w1 := k0.trans (b1.mono (by simp; omega))
  go_wp2_with fail
  refine (way_any' c d a b _).mono ?_
  rintro e1 w2 ⟨rfl, b2⟩
  rw [HN2.out]
  have k2 : Below w.heap.size w w2 := k1.trans (b2.mono (by omega))
  have z2 := b2.size
  clear hc1 hf1 b2
  go_wp2_with fail
  refine (known_any _ (hT.out.below k2 (fun t ht => by have := tabs_four t ht; omega))).mono ?_
  rintro e1 w6 ⟨rfl, b6⟩
  go_wp2_with fail
  go_ret
  exact ⟨rfl, k2.trans (b6.mono (by omega))⟩
theorem turned_yes (a b c d e f v u p q : Int) (w : World) (hT : Hid (TabsIn tabs w)) (h8 : 4 ≤ w.heap.size) (h1 : spanB a b = true) (h2 : spanB c d = true) (h3 : spanB e f = true)
    (v1 : 0 ≤ v) (v2 : v ≤ 255) (u1 : 0 ≤ u) (u2 : u ≤ 255) (hp : Hid (1 + v % 13 = p)) (hq : Hid (1 + u % 13 = q)) :
    Calls Tryz.prog 14 #[spanV a b, spanV c d, spanV e f, .int .u8 v, .int .u8 u] w (TrueBelow w) := by
  have k0 := below3 w (.cells #[.int .i64 a, .int .i64 b] 48) (.cells #[.int .i64 c, .int .i64 d] 48) (.cells #[.int .i64 e, .int .i64 f] 48)
  have g1 : a < b := (of_decide_eq_true h1).2.1
  have g2 : c < d := (of_decide_eq_true h2).2.1
  have g3 : e < f := (of_decide_eq_true h3).2.1
  obtain ⟨x, hx⟩ : ∃ x, Hid (wl a b c d = x) := ⟨_, Lib.hid rfl⟩
  obtain ⟨y, hy⟩ : ∃ y, Hid (wl c d a b = y) := ⟨_, Lib.hid rfl⟩
  obtain ⟨z, hz⟩ : ∃ z, Hid (wl c d e f = z) := ⟨_, Lib.hid rfl⟩
  obtain ⟨t, ht⟩ : ∃ t, Hid (wl a b e f = t) := ⟨_, Lib.hid rfl⟩
  have hxy : x + y = 14 := by rw [← hx.out, ← hy.out]; exact wl_turn a b c d g1 g2
  obtain ⟨x1, x2⟩ := wl_bd a b c d
  obtain ⟨z1, z2⟩ := wl_bd c d e f
  rw [hx.out] at x1 x2
  rw [hz.out] at z1 z2
  have hhas : Hid (t ∈ chainL x z) := Lib.hid (by rw [← ht.out, ← hx.out, ← hz.out]; exact chain_has g1 g2 g3)
  have hy14 : Hid (y = 14 - x) := Lib.hid (by omega)
  have p1 : 1 ≤ p := by rw [← hp.out]; omega
  have p2 : p ≤ 13 := by rw [← hp.out]; omega
  have q1 : 1 ≤ q := by rw [← hq.out]; omega
  have q2 : q ≤ 13 := by rw [← hq.out]; omega
  have H1 := Lib.hid h1
  have H2 := Lib.hid h2
  have H3 := Lib.hid h3
  clear h1 h2 h3 g1 g2 g3
  go_enter Tryz.func14, Tryz.ntmps14
  go_wp2_with fail
  refine (way_yes a b c d _ H1.out H2.out).mono ?_
  rintro e1 w1 ⟨rfl, b1⟩
  rw [hx.out]
  obtain ⟨hc1, hf1⟩ := bcell b1
  have s1 : w.heap.size + 1 + 1 < w1.heap.size := by (have := b1.size; simp at this; omega)
  have s2 : w.heap.size + 1 < w1.heap.size := by omega
  have s3 : w.heap.size < w1.heap.size := by omega
  have k1 : Below w.heap.size w w1 := k0.trans (b1.mono (by simp; omega))
  go_wp2_with fail
  refine (way_yes c d a b _ H2.out H1.out).mono ?_
  rintro e1 w2 ⟨rfl, b2⟩
  rw [hy.out]
  obtain ⟨hc2, hf2⟩ := bcell b2
  have k2 : Below w.heap.size w w2 := k1.trans (b2.mono (by omega))
  have s4 : w.heap.size + 1 + 1 < w2.heap.size := by (have := b2.size; omega)
  have s5 : w.heap.size + 1 < w2.heap.size := by omega
  have s6 : w.heap.size < w2.heap.size := by omega
  go_wp2_with fail
  refine (way_yes c d e f _ H2.out H3.out).mono ?_
  rintro e1 w3 ⟨rfl, b3⟩
  rw [hz.out]
  obtain ⟨hc3, hf3⟩ := bcell b3
  have k3 : Below w.heap.size w w3 := k2.trans (b3.mono (by omega))
  have s7 : w.heap.size + 1 + 1 < w3.heap.size := by (have := b3.size; omega)
  have s8 : w.heap.size + 1 < w3.heap.size := by omega
  have s9 : w.heap.size < w3.heap.size := by omega
  go_wp2_with fail
  refine (way_yes a b e f _ H1.out H3.out).mono ?_
  rintro e1 w4 ⟨rfl, b4⟩
  rw [ht.out]
  have k4 : Below w.heap.size w w4 := k3.trans (b4.mono (by omega))
  have s10 : w.heap.size < w4.heap.size := by (have := b4.size; omega)
  clear hc1 hf1 hc2 hf2 hc3 hf3 b2 b3 b4 s1 s2 s3 s4 s5 s6 s7 s8 s9 k0 k1 k2 k3 b1
  have hxy2 : (x + y == 14) = true := by simpa using hxy
  go_wp2_with fail
  refine (chain_yes x z _ x1 x2 z1 z2).mono ?_
  rintro e1 w5 ⟨s, rfl, own5, b5⟩
  have k5 : Below w.heap.size w w5 := k4.trans (b5.mono (by omega))
  have y5 := waysAt_of own5
  have s11 : w.heap.size < w5.heap.size := by (have := b5.size; omega)
  have l5 : (chainL x z).length ≤ 13 := chainTo_len x z 13
  clear own5 b5 k4 s10
  go_wp2_with fail
  refine (contains_has s t _ _ y5 l5 hhas.out).mono ?_
  rintro e1 w5' ⟨rfl, rfl⟩
  clear y5 l5
  have w13 : 0 ≤ v % 13 ∧ v % 13 ≤ 12 := by omega
  have w14 : 0 ≤ u % 13 ∧ u % 13 ≤ 12 := by omega
  obtain ⟨w15, w16⟩ := w13
  obtain ⟨w17, w18⟩ := w14
  go_wp2_with fail
  rw [hp.out, hq.out]
  clear w15 w16 w17 w18 v1 v2 u1 u2
  refine (chain_yes p q _ p1 p2 q1 q2).mono ?_
  rintro e1 w6 ⟨s1, rfl, own6, b6⟩
  have k6 : Below w.heap.size w w6 := k5.trans (b6.mono (by omega))
  have y6 := waysAt_of own6
  have s12 : w.heap.size < w6.heap.size := by (have := b6.size; omega)
  clear own6 b6 k5
  go_wp2_with fail
  refine (chain_yes (14 - q) (14 - p) _ (by omega) (by omega) (by omega) (by omega)).mono ?_
  rintro e1 w7 ⟨s2, rfl, own7, b7⟩
  have k7 : Below w.heap.size w w7 := k6.trans (b7.mono (by omega))
  have y7 := waysAt_of own7
  have s13 : w.heap.size < w7.heap.size := by (have := b7.size; omega)
  have y67 := y6.below b7 (Nat.le_refl _)
  clear own7 b7 k6 y6
  obtain ⟨A1, c1, rfl, r1⟩ := y67
  obtain ⟨A2, c2, rfl, r2⟩ := y7
  have hlen := chain_turn_len p q
  rw [hlen] at r2 ⊢
  have hturn := Lib.hid (chain_turn_at p q)
  have hsome : 0 < (chainL p q).length := by
    obtain ⟨x0, hx0⟩ := chain_some p1 p2 q1 q2
    exact List.length_pos_of_mem hx0
  have hle : (chainL p q).length ≤ 13 := chainTo_len p q 13
  have hB : Hid (∀ x ∈ chainL p q, 1 ≤ x ∧ x ≤ 13) := Lib.hid fun x hx => (chainTo_mem.1 hx).1
  obtain ⟨n, hn⟩ : ∃ n, Hid ((chainL p q).length = n) := ⟨_, Lib.hid rfl⟩
  rw [hn.out] at hsome hle r1 r2 ⊢
  clear hlen
  have hn0 : ((n : Int) == 0) = false := by simp; omega
  obtain ⟨g1, rfl, _, d1⟩ := r1 hsome
  obtain ⟨g2, rfl, _, d2⟩ := r2 hsome
  have D1 := Lib.hid d1
  have D2 := Lib.hid d2
  clear d1 d2 r1 r2
  go_wp2
  go_loop [132] (fun u132 => ∃ k : Nat, k ≤ n ∧ u132 = .int .i64 k) (fun u132 => n - (intOf u132).toNat)
  case atStart => exact ⟨0, by omega, rfl⟩
  case round =>
    obtain ⟨k, hk, rfl⟩ := hrel
    by_cases hlt : k < n
    · obtain ⟨xk, hxk⟩ : ∃ xk, (chainL p q)[k]? = some xk := ⟨_, List.getElem?_eq_getElem (by have := hn.out; omega)⟩
      obtain ⟨b1, b2⟩ := hB.out xk (List.mem_of_getElem? hxk)
      have e1 := D1.out k xk hxk
      have e2 := D2.out _ _ (hturn.out k xk hxk)
      rw [hn.out] at e2
      clear hxk
      have i1 : ((n : Int) - 1 - (k : Int)).toNat = n - 1 - k := by omega
      have i2 : 0 ≤ (n : Int) - 1 - (k : Int) := by omega
      have i3 : (n : Int) - 1 - (k : Int) < n := by omega
      go_wp2
      go_round
      case rel => exact ⟨k + 1, by omega, by go_num⟩
      case measure => simp [intOf]; omega
    · go_wp2_with fail
      refine (chain_yes p 7 _ p1 p2 (by decide) (by decide)).mono ?_
      rintro e1 w8 ⟨s3, rfl, own8, b8⟩
      have k8 : Below w.heap.size w w8 := k7.trans (b8.mono (by omega))
      have y8 := waysAt_of own8
      rw [chain_same p1 p2] at y8
      have s14 : w.heap.size < w8.heap.size := by (have := b8.size; omega)
      clear own8 b8 k7
      have y9 := y8.below (below_new w8 (.cells #[.int .i64 p] 49)) (Nat.le_refl _)
      have y10 : WaysAt (w8.alloc (.cells #[.int .i64 p] 49)) (.slice (some ⟨w8.heap.size, 0, none⟩) 1 1) [p] := by
        refine ⟨_, 1, rfl, fun _ => ⟨_, rfl, by simp, fun i x hx => ?_⟩⟩
        cases i with
        | zero =>
          simp only [List.getElem?_cons_zero, Option.some.injEq] at hx
          subst hx
          go_simp
        | succ i => simp at hx
      have k9 : Below w.heap.size w (w8.alloc (.cells #[.int .i64 p] 49)) := k8.alloc (by omega) _
      clear y8
      go_wp2_with fail
      refine (equal_any _ _ [p] _ y9 y10 (by simp)).mono ?_
      rintro e1 w9 ⟨rfl, m, rfl⟩
      have k10 : Below w.heap.size w ((w8.alloc (.cells #[.int .i64 p] 49)).drewN m) := drewN_below k9 m
      clear y9 y10
      go_wp2_with fail
      refine (known_any _ (hT.out.below k10 (fun t ht => by have := tabs_four t ht; omega))).mono ?_
      rintro e1 w10 ⟨rfl, b10⟩
      go_wp2_with fail
      go_ret
      exact ⟨rfl, k10.trans (b10.mono k10.size)⟩
theorem turned_mid (a b c d e f v u p q : Int) (w : World) (hT : Hid (TabsIn tabs w)) (h8 : 4 ≤ w.heap.size) (h1 : spanB a b = true) (h2 : spanB c d = true) (h3 : spanB e f = false)
    (v1 : 0 ≤ v) (v2 : v ≤ 255) (u1 : 0 ≤ u) (u2 : u ≤ 255) (hp : Hid (1 + v % 13 = p)) (hq : Hid (1 + u % 13 = q)) :
    Calls Tryz.prog 14 #[spanV a b, spanV c d, spanV e f, .int .u8 v, .int .u8 u] w (TrueBelow w) := by
  have k0 := below3 w (.cells #[.int .i64 a, .int .i64 b] 48) (.cells #[.int .i64 c, .int .i64 d] 48) (.cells #[.int .i64 e, .int .i64 f] 48)
  have g1 : a < b := (of_decide_eq_true h1).2.1
  have g2 : c < d := (of_decide_eq_true h2).2.1
  obtain ⟨x, hx⟩ : ∃ x, Hid (wl a b c d = x) := ⟨_, Lib.hid rfl⟩
  obtain ⟨y, hy⟩ : ∃ y, Hid (wl c d a b = y) := ⟨_, Lib.hid rfl⟩
  have hxy : x + y = 14 := by rw [← hx.out, ← hy.out]; exact wl_turn a b c d g1 g2
  have hy14 : Hid (y = 14 - x) := Lib.hid (by omega)
  have p1 : 1 ≤ p := by rw [← hp.out]; omega
  have p2 : p ≤ 13 := by rw [← hp.out]; omega
  have q1 : 1 ≤ q := by rw [← hq.out]; omega
  have q2 : q ≤ 13 := by rw [← hq.out]; omega
  have H1 := Lib.hid h1
  have H2 := Lib.hid h2
  have H3 := Lib.hid h3
  clear h1 h2 h3 g1 g2
  go_enter Tryz.func14, Tryz.ntmps14
  go_wp2_with fail
  refine (way_yes a b c d _ H1.out H2.out).mono ?_
  rintro e1 w1 ⟨rfl, b1⟩
  rw [hx.out]
  obtain ⟨hc1, hf1⟩ := bcell b1
  have s1 : w.heap.size + 1 + 1 < w1.heap.size := by (have := b1.size; simp at this; omega)
  have s2 : w.heap.size + 1 < w1.heap.size := by omega
  have s3 : w.heap.size < w1.heap.size := by omega
  have k1 : Below w.heap.size w w1 := k0.trans (b1.mono (by simp; omega))
  go_wp2_with fail
  refine (way_yes c d a b _ H2.out H1.out).mono ?_
  rintro e1 w2 ⟨rfl, b2⟩
  rw [hy.out]
  obtain ⟨hc2, hf2⟩ := bcell b2
  have k2 : Below w.heap.size w w2 := k1.trans (b2.mono (by omega))
  have s4 : w.heap.size + 1 + 1 < w2.heap.size := by (have := b2.size; omega)
  have s5 : w.heap.size + 1 < w2.heap.size := by omega
  have s6 : w.heap.size < w2.heap.size := by omega
  go_wp2_with fail
  refine (way_no2 c d e f _ H2.out H3.out).mono ?_
  rintro e1 w3 ⟨rfl, b3⟩
  obtain ⟨hc3, hf3⟩ := bcell b3
  have k3 : Below w.heap.size w w3 := k2.trans (b3.mono (by omega))
  have s7 : w.heap.size + 1 + 1 < w3.heap.size := by (have := b3.size; omega)
  have s8 : w.heap.size + 1 < w3.heap.size := by omega
  have s9 : w.heap.size < w3.heap.size := by omega
  go_wp2_with fail
  refine (way_no2 a b e f _ H1.out H3.out).mono ?_
  rintro e1 w4 ⟨rfl, b4⟩
  have k4 : Below w.heap.size w w4 := k3.trans (b4.mono (by omega))
  have s10 : w.heap.size < w4.heap.size := by (have := b4.size; omega)
  clear hc1 hf1 hc2 hf2 hc3 hf3 b2 b3 b4 s1 s2 s3 s4 s5 s6 s7 s8 s9 k0 k1 k2 k3 b1
  have hxy2 : (x + y == 14) = true := by simpa using hxy
  have w13 : 0 ≤ v % 13 ∧ v % 13 ≤ 12 := by omega
  have w14 : 0 ≤ u % 13 ∧ u % 13 ≤ 12 := by omega
  obtain ⟨w15, w16⟩ := w13
  obtain ⟨w17, w18⟩ := w14
  go_wp2_with fail
  rw [hp.out, hq.out]
  clear w15 w16 w17 w18 v1 v2 u1 u2
  refine (chain_yes p q _ p1 p2 q1 q2).mono ?_
  rintro e1 w6 ⟨s1, rfl, own6, b6⟩
  have k6 : Below w.heap.size w w6 := k4.trans (b6.mono (by omega))
  have y6 := waysAt_of own6
  have s12 : w.heap.size < w6.heap.size := by (have := b6.size; omega)
  clear own6 b6 k4
  go_wp2_with fail
  refine (chain_yes (14 - q) (14 - p) _ (by omega) (by omega) (by omega) (by omega)).mono ?_
  rintro e1 w7 ⟨s2, rfl, own7, b7⟩
  have k7 : Below w.heap.size w w7 := k6.trans (b7.mono (by omega))
  have y7 := waysAt_of own7
  have s13 : w.heap.size < w7.heap.size := by (have := b7.size; omega)
  have y67 := y6.below b7 (Nat.le_refl _)
  clear own7 b7 k6 y6
  obtain ⟨A1, c1, rfl, r1⟩ := y67
  obtain ⟨A2, c2, rfl, r2⟩ := y7
  have hlen := chain_turn_len p q
  rw [hlen] at r2 ⊢
  have hturn := Lib.hid (chain_turn_at p q)
  have hsome : 0 < (chainL p q).length := by
    obtain ⟨x0, hx0⟩ := chain_some p1 p2 q1 q2
    exact List.length_pos_of_mem hx0
  have hle : (chainL p q).length ≤ 13 := chainTo_len p q 13
  have hB : Hid (∀ x ∈ chainL p q, 1 ≤ x ∧ x ≤ 13) := Lib.hid fun x hx => (chainTo_mem.1 hx).1
  obtain ⟨n, hn⟩ : ∃ n, Hid ((chainL p q).length = n) := ⟨_, Lib.hid rfl⟩
  rw [hn.out] at hsome hle r1 r2 ⊢
  clear hlen
  have hn0 : ((n : Int) == 0) = false := by simp; omega
  obtain ⟨g1, rfl, _, d1⟩ := r1 hsome
  obtain ⟨g2, rfl, _, d2⟩ := r2 hsome
  have D1 := Lib.hid d1
  have D2 := Lib.hid d2
  clear d1 d2 r1 r2
  go_wp2
  go_loop [132] (fun u132 => ∃ k : Nat, k ≤ n ∧ u132 = .int .i64 k) (fun u132 => n - (intOf u132).toNat)
  case atStart => exact ⟨0, by omega, rfl⟩
  case round =>
    obtain ⟨k, hk, rfl⟩ := hrel
    by_cases hlt : k < n
    · obtain ⟨xk, hxk⟩ : ∃ xk, (chainL p q)[k]? = some xk := ⟨_, List.getElem?_eq_getElem (by have := hn.out; omega)⟩
      obtain ⟨b1, b2⟩ := hB.out xk (List.mem_of_getElem? hxk)
      have e1 := D1.out k xk hxk
      have e2 := D2.out _ _ (hturn.out k xk hxk)
      rw [hn.out] at e2
      clear hxk
      have i1 : ((n : Int) - 1 - (k : Int)).toNat = n - 1 - k := by omega
      have i2 : 0 ≤ (n : Int) - 1 - (k : Int) := by omega
      have i3 : (n : Int) - 1 - (k : Int) < n := by omega
      go_wp2
      go_round
      case rel => exact ⟨k + 1, by omega, by go_num⟩
      case measure => simp [intOf]; omega
    · go_wp2_with fail
      refine (chain_yes p 7 _ p1 p2 (by decide) (by decide)).mono ?_
      rintro e1 w8 ⟨s3, rfl, own8, b8⟩
      have k8 : Below w.heap.size w w8 := k7.trans (b8.mono (by omega))
      have y8 := waysAt_of own8
      rw [chain_same p1 p2] at y8
      have s14 : w.heap.size < w8.heap.size := by (have := b8.size; omega)
      clear own8 b8 k7
      have y9 := y8.below (below_new w8 (.cells #[.int .i64 p] 49)) (Nat.le_refl _)
      have y10 : WaysAt (w8.alloc (.cells #[.int .i64 p] 49)) (.slice (some ⟨w8.heap.size, 0, none⟩) 1 1) [p] := by
        refine ⟨_, 1, rfl, fun _ => ⟨_, rfl, by simp, fun i x hx => ?_⟩⟩
        cases i with
        | zero =>
          simp only [List.getElem?_cons_zero, Option.some.injEq] at hx
          subst hx
          go_simp
        | succ i => simp at hx
      have k9 : Below w.heap.size w (w8.alloc (.cells #[.int .i64 p] 49)) := k8.alloc (by omega) _
      clear y8
      go_wp2_with fail
      refine (equal_any _ _ [p] _ y9 y10 (by simp)).mono ?_
      rintro e1 w9 ⟨rfl, m, rfl⟩
      have k10 : Below w.heap.size w ((w8.alloc (.cells #[.int .i64 p] 49)).drewN m) := drewN_below k9 m
      clear y9 y10
      go_wp2_with fail
      refine (known_any _ (hT.out.below k10 (fun t ht => by have := tabs_four t ht; omega))).mono ?_
      rintro e1 w10 ⟨rfl, b10⟩
      go_wp2_with fail
      go_ret
      exact ⟨rfl, k10.trans (b10.mono k10.size)⟩
theorem law_turned (a b c d e f v u : Int) (w : World) (hT : Hid (TabsIn tabs w)) (h8 : 4 ≤ w.heap.size) (v1 : 0 ≤ v) (v2 : v ≤ 255) (u1 : 0 ≤ u) (u2 : u ≤ 255) :
    Calls Tryz.prog 14 #[spanV a b, spanV c d, spanV e f, .int .u8 v, .int .u8 u] w (TrueBelow w) := by
  cases h1 : spanB a b with
  | false => exact turned_no a b c d e f v u w hT h8 (by unfold wayErr; rw [h1]; simp) (by unfold wayErr; rw [h1]; simp)
  | true =>
    cases h2 : spanB c d with
    | false => exact turned_no a b c d e f v u w hT h8 (by unfold wayErr; rw [h2]; simp) (by unfold wayErr; rw [h2]; simp)
    | true =>
      cases h3 : spanB e f with
      | false => exact turned_mid a b c d e f v u _ _ w hT h8 h1 h2 h3 v1 v2 u1 u2 (Lib.hid rfl) (Lib.hid rfl)
      | true => exact turned_yes a b c d e f v u _ _ w hT h8 h1 h2 h3 v1 v2 u1 u2 (Lib.hid rfl) (Lib.hid rfl)
end Go.Proofs.YtfhljcpicdabmaaGreatDoor
