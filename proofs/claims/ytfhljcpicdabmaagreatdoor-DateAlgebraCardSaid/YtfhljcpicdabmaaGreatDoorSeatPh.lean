/- The seat: DatePlaces, walked for every input. -/
import Derived.Test.YtfhljcpicdabmaaGreatDoorSeatPg
import Derived.Test.YtfhljcpicdabmaaGreatDoorSeatLh
namespace Go.Proofs.YtfhljcpicdabmaaGreatDoor
open Go Go.RowKit Go.Ev Go.WayM
set_option maxRecDepth 100000
set_option maxHeartbeats 1000000
theorem sameSpans_any (s1 s2 : Value) (xs : List Sp) (w : World) (h1 : SpAt w s1 xs) (h2 : SpAt w s2 xs) (hl : xs.length ≤ 9223372036854775807) : Calls Tryz.prog 36 #[s1, s2] w (DrewOnly (.bool true) w) := by
  obtain ⟨A1, c1, rfl, r1⟩ := h1
  obtain ⟨A2, c2, rfl, r2⟩ := h2
  obtain ⟨n, hn⟩ : ∃ n, Hid (xs.length = n) := ⟨_, Lib.hid rfl⟩
  rw [hn.out] at r1 r2 hl ⊢
  go_enter Tryz.func36, Tryz.ntmps36
  go_wp2
  go_loopw [5] (fun u5 wr => SameAt w n u5 wr) (fun u5 _ => n - (intOf u5).toNat)
  case atStart => exact ⟨0, by omega, rfl, 0, rfl⟩
  case round =>
    obtain ⟨k, hk, rfl, m, rfl⟩ := hrel
    by_cases hlt : k < n
    · obtain ⟨g1, o1, rfl, _, d1⟩ := r1 (by omega)
      obtain ⟨g2, o2, rfl, _, d2⟩ := r2 (by omega)
      have hx : xs[k]? = some (xs[k]'(by have := hn.out; omega)) := List.getElem?_eq_getElem _
      obtain ⟨x, hxx⟩ : ∃ x, xs[k]? = some x := ⟨_, hx⟩
      obtain ⟨e0, e1⟩ := d1 k x hxx
      obtain ⟨e2, e3⟩ := d2 k x hxx
      clear hx hxx d1 d2
      go_wp2
      go_quiet (fail)
      go_wp2
      go_roundw
      case rel => exact ⟨k + 1, by omega, by go_num, _, rfl⟩
      case measure => simp [intOf]; omega
    · go_wp2
      go_ret
      exact ⟨rfl, _, rfl⟩
theorem placeL_len (net : Net) : (placeL net).length ≤ 4 := by
  unfold placeL
  split
  · rename_i hb
    have h4 := netB_four hb
    unfold placeO
    cases h : srch net (small (2 * net.length)) net.length [] with
    | none => simp
    | some r =>
      have := (srch_is h).2.1
      simp at this ⊢
      omega
  · simp
theorem law_places (s : Value) (net : Net) (w : World) (h : NetAt w s net) (hI : Hid (NetI net)) (hT : Hid (TabsIn tabs w)) (h8 : 4 ≤ w.heap.size) : Calls Tryz.prog 8 #[s] w (TrueBelow w) := by
  have hl := placeL_len net
  have cP := placeP_any s net w h hI
  obtain ⟨L, hL⟩ : ∃ L, Hid (placeL net = L) := ⟨_, Lib.hid rfl⟩
  obtain ⟨E, hE⟩ : ∃ E, Hid (placeErr net = E) := ⟨_, Lib.hid rfl⟩
  rw [hL.out, hE.out] at cP
  rw [hL.out] at hl
  have HN := Lib.hid h
  clear h
  go_enter Tryz.func8, Tryz.ntmps8
  go_wp2_with fail
  refine cP.mono ?_
  rintro e w1 ⟨v, rfl, y1, b1⟩
  have cR := placeR_any s net w1 (HN.out.below b1 (Nat.le_refl _))
  rw [hL.out, hE.out] at cR
  go_wp2_with fail
  refine cR.mono ?_
  rintro e w2 ⟨v', rfl, y2, b2⟩
  have y3 := y1.below b2 (Nat.le_refl _)
  have k2 : Below w.heap.size w w2 := b1.trans (b2.mono b1.size)
  clear y1 cR cP
  go_wp2_with fail
  refine (sameSpans_any v v' L _ y3 y2 (by omega)).mono ?_
  rintro e w3 ⟨rfl, m, rfl⟩
  have k3 : Below w.heap.size w (w2.drewN m) := drewN_below k2 m
  go_wp2_with fail
  refine (known_any _ (hT.out.below k3 (fun t ht => by have := tabs_four t ht; omega))).mono ?_
  rintro e w6 ⟨rfl, b6⟩
  go_wp2_with fail
  go_ret
  exact ⟨rfl, k3.trans (b6.mono k3.size)⟩
end Go.Proofs.YtfhljcpicdabmaaGreatDoor
