/- The seat: DatePlaced, walked for every input. -/
import Derived.Test.YtppdgahnmkbnlaaGreatDoorSeatPj
namespace Go.Proofs.YtppdgahnmkbnlaaGreatDoor
open Go Go.RowKit Go.Ev Go.WayM
set_option maxRecDepth 100000
set_option maxHeartbeats 1000000
theorem spans_small {n : Nat} {r : List Sp} (h4 : n ≤ 4) (hl : r.length = n) (hs : ∀ p ∈ r, p ∈ small (2 * n)) : spansB r = true :=
  spansB_yes (by omega) fun i p hp => by
    have := small_out (hs p (List.mem_of_getElem? hp))
    exact decide_eq_true ⟨by omega, by omega, by omega⟩
theorem spansB_lt {l : List Sp} (h : spansB l = true) : ∀ p ∈ l, p.1 < p.2 := by
  unfold spansB at h
  rw [Bool.and_eq_true, List.all_eq_true] at h
  intro p hp
  have := h.2 p hp
  unfold spanB at this
  rw [decide_eq_true_eq] at this
  exact this.2.1
theorem placed_bad (s sl : Value) (net : Net) (w : World) (h : NetAt w s net) (hI : Hid (NetI net)) (hb : netB net = false) (hT : Hid (TabsIn tabs w)) (h8 : 4 ≤ w.heap.size) : Calls Tryz.prog 15 #[s, sl] w (TrueBelow w) := by
  have cP := placeP_any s net w h hI
  have e1 : placeL net = [] := by unfold placeL; rw [hb]; rfl
  have e2 : placeErr net = 2 := by unfold placeErr; rw [hb]; rfl
  rw [e1, e2] at cP
  clear e1 e2
  go_enter Tryz.func15, Tryz.ntmps15
  go_wp2_with fail
  refine cP.mono ?_
  rintro e w1 ⟨v, rfl, ⟨A, c, rfl, _⟩, b1⟩
  go_wp2_with fail
  refine (known_any _ (hT.out.below b1 (fun t ht => by have := tabs_four t ht; omega))).mono ?_
  rintro e w6 ⟨rfl, b6⟩
  go_wp2_with fail
  go_ret
  exact ⟨rfl, b1.trans (b6.mono b1.size)⟩
theorem placed_is (s sl : Value) (net : Net) (r : List Sp) (w : World) (h : NetAt w s net) (hI : Hid (NetI net)) (hb : Hid (netB net = true)) (hR : placeO net = some r) (hT : Hid (TabsIn tabs w)) (h8 : 4 ≤ w.heap.size) : Calls Tryz.prog 15 #[s, sl] w (TrueBelow w) := by
  have cP := placeP_any s net w h hI
  have e1 : placeL net = r := by unfold placeL; rw [hb.out, hR]; rfl
  have e2 : placeErr net = 0 := by unfold placeErr; rw [hb.out, hR]; rfl
  rw [e1, e2] at cP
  obtain ⟨f1, f2, f3⟩ := srch_is hR
  have f2 : r.length = net.length := by simpa using f2
  have f3 : ∀ p ∈ r, p ∈ small (2 * net.length) := fun p hp => (f3 p hp).elim (fun h => by cases h) id
  have h4 := netB_four hb.out
  have hsB := spans_small h4 f2 f3
  have F1 := Lib.hid f1
  have F3 := Lib.hid f3
  have HB := Lib.hid hsB
  clear e1 e2 hR f1 f3 hsB
  obtain ⟨A0, c0, rfl, _⟩ := id h
  have HN := Lib.hid h
  clear h
  obtain ⟨n, hn⟩ : ∃ n, Hid (net.length = n) := ⟨_, Lib.hid rfl⟩
  have hrl := Lib.hid f2
  rw [hn.out] at HN h4 cP F3 ⊢
  clear f2
  go_enter Tryz.func15, Tryz.ntmps15
  go_wp2_with fail
  refine cP.mono ?_
  rintro e w1 ⟨v, rfl, y1, b1⟩
  obtain ⟨A5, c5, rfl, _⟩ := id y1
  rw [hrl.out, hn.out] at y1 ⊢
  have cN := netR_any _ net w1 (HN.out.below b1 (Nat.le_refl _))
  rw [hb.out] at cN
  go_wp2_with fail
  refine cN.mono ?_
  rintro e w1' ⟨rfl, rfl⟩
  clear cN cP
  have cS := spansR_any _ r w1 y1 (by rw [hrl.out, hn.out]; omega)
  rw [HB.out] at cS
  go_wp2_with fail
  refine cS.mono ?_
  rintro e w2 ⟨rfl, b2⟩
  clear cS
  have y2 := y1.below b2 (Nat.le_refl _)
  have k2 : Below w.heap.size w w2 := b1.trans (b2.mono b1.size)
  have cF := fitsR_any _ _ net r w2 (HN.out.below k2 (Nat.le_refl _)) y2 hb (by rw [hrl.out]; exact Nat.le_refl _) (Lib.hid (spansB_lt HB.out))
  rw [F1.out] at cF
  go_wp2_with fail
  refine cF.mono ?_
  rintro e w3 ⟨rfl, b3⟩
  clear cF
  have y3 := y2.below b3 (Nat.le_refl _)
  have k3 : Below w.heap.size w w3 := k2.trans (b3.mono k2.size)
  clear y1 y2 k2 b1 b2 b3
  go_wp2
  go_loopw [45] (fun u45 wr => ∃ k : Nat, k ≤ n ∧ u45 = .int .i64 k ∧ SpAt wr (.slice A5 n c5) r ∧ Below w.heap.size w wr) (fun u45 _ => n - (intOf u45).toNat)
  case atStart => exact ⟨0, by omega, rfl, y3, k3⟩
  case round =>
    obtain ⟨k, hk, rfl, y, hbw⟩ := hrel
    clear y3 k3
    by_cases hlt : k < n
    · obtain ⟨p, hp⟩ : ∃ p, r[k]? = some p := ⟨_, List.getElem?_eq_getElem (by have := hrl.out; have := hn.out; omega)⟩
      obtain ⟨g, o, rfl, hg, d0, d1⟩ := y.get hp
      obtain ⟨p1, _, p3⟩ := small_out (F3.out p (List.mem_of_getElem? hp))
      have p3 : p.2 < 2 * (n : Int) := by omega
      have y' := y.below (below_new wr (.cells #[.int .i64 p.1, .int .i64 p.2] 48)) (Nat.le_refl _)
      have hbw' := hbw.alloc hbw.size (.cells #[.int .i64 p.1, .int .i64 p.2] 48)
      clear hp y hbw
      go_wp2
      go_roundw
      case rel => exact ⟨k + 1, by omega, by go_num, y', hbw'⟩
      case measure => simp [intOf]; omega
    · go_wp2_with fail
      refine (known_any _ (hT.out.below hbw (fun t ht => by have := tabs_four t ht; omega))).mono ?_
      rintro e w6 ⟨rfl, b6⟩
      go_wp2_with fail
      go_ret
      exact ⟨rfl, hbw.trans (b6.mono hbw.size)⟩
theorem placed_none (s sl : Value) (net : Net) (l : List Sp) (w : World) (h : NetAt w s net) (hl : SpAt w sl l) (hI : Hid (NetI net)) (hb : Hid (netB net = true)) (hR : placeO net = none) (hll : l.length ≤ 9223372036854775807) (hT : Hid (TabsIn tabs w)) (h8 : 4 ≤ w.heap.size) : Calls Tryz.prog 15 #[s, sl] w (TrueBelow w) := by
  have cP := placeP_any s net w h hI
  have e1 : placeL net = [] := by unfold placeL; rw [hb.out, hR]; rfl
  have e2 : placeErr net = 5 := by unfold placeErr; rw [hb.out, hR]; rfl
  rw [e1, e2] at cP
  have HR := Lib.hid hR
  clear e1 e2 hR
  have h4 := netB_four hb.out
  obtain ⟨A0, c0, rfl, _⟩ := id h
  obtain ⟨B0, d0, rfl, _⟩ := id hl
  have HN := Lib.hid h
  have HL := Lib.hid hl
  clear h hl
  obtain ⟨n, hn⟩ : ∃ n, Hid (net.length = n) := ⟨_, Lib.hid rfl⟩
  obtain ⟨m, hm⟩ : ∃ m, Hid (l.length = m) := ⟨_, Lib.hid rfl⟩
  rw [hn.out] at HN h4 cP ⊢
  rw [hm.out] at HL hll ⊢
  by_cases hmn : m = n
  · obtain ⟨q, hq⟩ : ∃ q, Hid (spansB l = q) := ⟨_, Lib.hid rfl⟩
    subst hmn
    go_enter Tryz.func15, Tryz.ntmps15
    go_wp2_with fail
    refine cP.mono ?_
    rintro e w1 ⟨v, rfl, ⟨A, c, rfl, _⟩, b1⟩
    have cN := netR_any _ net w1 (HN.out.below b1 (Nat.le_refl _))
    rw [hb.out] at cN
    go_wp2_with fail
    refine cN.mono ?_
    rintro e w1' ⟨rfl, rfl⟩
    clear cN cP
    have cS := spansR_any _ l w1 (HL.out.below b1 (Nat.le_refl _)) (by rw [hm.out]; omega)
    rw [hq.out] at cS
    go_wp2_with fail
    refine cS.mono ?_
    rintro e w2 ⟨rfl, b2⟩
    clear cS
    have k2 : Below w.heap.size w w2 := b1.trans (b2.mono b1.size)
    cases q with
    | false =>
      go_wp2_with fail
      refine (known_any _ (hT.out.below k2 (fun t ht => by have := tabs_four t ht; omega))).mono ?_
      rintro e w6 ⟨rfl, b6⟩
      go_wp2_with fail
      go_ret
      exact ⟨rfl, k2.trans (b6.mono k2.size)⟩
    | true =>
      have hlt := spansB_lt hq.out
      have hF : fitsAll net l = false := by
        cases hf : fitsAll net l with
        | false => rfl
        | true =>
          have := place_some hf hlt
          have e : l.length = net.length := by rw [hm.out, hn.out]
          rw [e] at this
          exact absurd HR.out this
      have cF := fitsR_any _ _ net l w2 (HN.out.below k2 (Nat.le_refl _)) (HL.out.below k2 (Nat.le_refl _)) hb (by have := hm.out; have := hn.out; omega) (Lib.hid hlt)
      rw [hF] at cF
      clear hF
      go_wp2_with fail
      refine cF.mono ?_
      rintro e w3 ⟨rfl, b3⟩
      clear cF
      have k3 : Below w.heap.size w w3 := k2.trans (b3.mono k2.size)
      go_wp2_with fail
      refine (known_any _ (hT.out.below k3 (fun t ht => by have := tabs_four t ht; omega))).mono ?_
      rintro e w6 ⟨rfl, b6⟩
      go_wp2_with fail
      go_ret
      exact ⟨rfl, k3.trans (b6.mono k3.size)⟩
  · have hbn : ((m : Int) == n) = false := by simp; omega
    go_enter Tryz.func15, Tryz.ntmps15
    go_wp2_with fail
    refine cP.mono ?_
    rintro e w1 ⟨v, rfl, ⟨A, c, rfl, _⟩, b1⟩
    have cN := netR_any _ net w1 (HN.out.below b1 (Nat.le_refl _))
    rw [hb.out] at cN
    go_wp2_with fail
    refine cN.mono ?_
    rintro e w1' ⟨rfl, rfl⟩
    clear cN cP
    go_wp2_with fail
    refine (known_any _ (hT.out.below b1 (fun t ht => by have := tabs_four t ht; omega))).mono ?_
    rintro e w6 ⟨rfl, b6⟩
    go_wp2_with fail
    go_ret
    exact ⟨rfl, b1.trans (b6.mono b1.size)⟩
theorem law_placed (s sl : Value) (net : Net) (l : List Sp) (w : World) (h : NetAt w s net) (hl : SpAt w sl l) (hI : Hid (NetI net)) (hll : l.length ≤ 9223372036854775807) (hT : Hid (TabsIn tabs w)) (h8 : 4 ≤ w.heap.size) : Calls Tryz.prog 15 #[s, sl] w (TrueBelow w) := by
  cases hb : netB net with
  | false => exact placed_bad s sl net w h hI hb hT h8
  | true =>
    cases hR : placeO net with
    | none => exact placed_none s sl net l w h hl hI (Lib.hid hb) hR hll hT h8
    | some r => exact placed_is s sl net r w h hI (Lib.hid hb) hR hT h8
end Go.Proofs.YtppdgahnmkbnlaaGreatDoor
