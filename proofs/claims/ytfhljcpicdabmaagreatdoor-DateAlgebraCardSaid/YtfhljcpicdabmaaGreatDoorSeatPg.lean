/- The seat: DatePlaces: both sides' Place, lists of spans compared. -/
import Derived.Test.YtfhljcpicdabmaaGreatDoorSeatPf
namespace Go.Proofs.YtfhljcpicdabmaaGreatDoor
open Go Go.RowKit Go.Ev Go.WayM
set_option maxRecDepth 100000
set_option maxHeartbeats 1000000
theorem placedR (net : Net) (hN : Hid (netB net = true)) : ∀ (d : Nat) (s sl : Value) (pl : List Sp) (w : World), NetAt w s net → SpAt w sl pl → pl.length + d = net.length → (∀ p ∈ pl, p.1 < p.2) →
    Calls Tryz.prog 120 #[s, sl] w (PlacedIs (srch net (small (2 * net.length)) d pl) w)
  | d, s, sl, pl, w, h, hl, hlen, hg => by
    cases hf : fitsAll net pl with
    | false =>
      rw [srch_off hf]
      exact placed_off s sl net pl w h hl hN (by omega) (Lib.hid hg) hf
    | true =>
      cases d with
      | zero =>
        rw [srch, if_pos hf]
        exact placed_end s sl net pl w h hl hN (by omega) (Lib.hid hg) hf
      | succ d =>
        rw [srch, if_pos hf]
        exact placed_step s sl net (small (2 * net.length)) pl d w (Lib.hid rfl) h hl hN hlen (Lib.hid hg) hf (Lib.hid fun sl' p w' hp h' hl' =>
          placedR net hN d s sl' (pl ++ [p]) w' h' hl' (by rw [List.length_append]; simp; omega) fun q hq => by
            rcases List.mem_append.1 hq with hq | hq
            · exact hg q hq
            · rw [List.mem_singleton] at hq; subst hq; exact (small_out hp).2.1)
theorem sp_nil (w : World) : SpAt w (.slice none 0 0) [] := ⟨none, 0, rfl, fun h => by simp at h⟩
/-- What Place returns. -/
def placeO (net : Net) : Option (List Sp) := srch net (small (2 * net.length)) net.length []
def placeL (net : Net) : List Sp := if netB net = true then (placeO net).getD [] else []
def placeErr (net : Net) : Int := if netB net = true then (if (placeO net).isSome then 0 else 5) else 2
def SpansRet (xs : List Sp) (E : Int) (w : World) (e : Ending) (w' : World) : Prop := ∃ s, e = .returned (.tuple #[s, .int .i64 E]) ∧ SpAt w' s xs ∧ Below w.heap.size w w'
theorem placeR_any (s : Value) (net : Net) (W0 : World) (h : NetAt W0 s net) : Calls Tryz.prog 49 #[s] W0 (SpansRet (placeL net) (placeErr net) W0) := by
  have cN := netR_any s net W0 h
  unfold placeL placeErr
  cases hb : netB net with
  | false =>
    rw [hb] at cN
    go_enter Tryz.func49, Tryz.ntmps49
    go_wp2_with fail
    refine cN.mono ?_
    rintro e w1 ⟨rfl, rfl⟩
    go_wp2
    go_ret2
    exact ⟨_, rfl, sp_nil _, Below.refl _ _⟩
  | true =>
    rw [hb] at cN
    have cP := placedR net (Lib.hid hb) net.length s (.slice none 0 0) [] W0 h (sp_nil W0) (by simp) (fun p hp => by simp at hp)
    rw [if_pos rfl, if_pos rfl]
    change Calls Tryz.prog 120 _ _ (PlacedIs (placeO net) W0) at cP
    obtain ⟨E, hE⟩ : ∃ E : Int, Hid ((if (placeO net).isSome then 0 else 5) = E) := ⟨_, Lib.hid rfl⟩
    obtain ⟨L, hL⟩ : ∃ L : List Sp, Hid ((placeO net).getD [] = L) := ⟨_, Lib.hid rfl⟩
    rw [hE.out, hL.out]
    generalize placeO net = R at cP hE hL
    go_enter Tryz.func49, Tryz.ntmps49
    go_wp2_with fail
    refine cN.mono ?_
    rintro e w1 ⟨rfl, rfl⟩
    go_wp2_with fail
    refine cP.mono ?_
    rintro e w2 ⟨s', b, rfl, b2, hres⟩
    rcases hres with ⟨rfl, rfl, rfl⟩ | ⟨r, rfl, rfl, hs⟩
    · go_wp2
      go_ret2
      have e1 : E = 5 := by rw [← hE.out]; rfl
      have e2 : L = [] := by rw [← hL.out]; rfl
      subst e1; subst e2
      exact ⟨_, rfl, sp_nil _, b2⟩
    · go_wp2
      go_ret2
      have e1 : E = 0 := by rw [← hE.out]; rfl
      have e2 : L = r := by rw [← hL.out]; rfl
      subst e1; subst e2
      exact ⟨_, rfl, hs, b2⟩
theorem spans0 (w : World) : Calls Tryz.prog 161 #[.int .i64 0] w fun e w' => e = .returned (.slice none 0 0) ∧ w = w' := by
  go_enter Tryz.func161, Tryz.ntmps161
  go_wp2
  go_loopw [3, 7] (fun u3 u7 wr => u3 = .slice none 0 0 ∧ u7 = .int .i64 0 ∧ w = wr) (fun _ _ _ => 0)
  case atStart => exact ⟨rfl, rfl, rfl⟩
  case round =>
    obtain ⟨rfl, rfl, rfl⟩ := hrel
    go_wp2
    go_ret
    exact ⟨rfl, rfl⟩
theorem firstP_zero (A : Option Addr) (c : Nat) (W0 : World) : Calls Tryz.prog 119 #[.slice A 0 c] W0 fun e w' => e = .returned (.slice none 0 0) ∧ Below W0.heap.size W0 w' := by
  go_enter Tryz.func119, Tryz.ntmps119
  go_wp2_with fail
  go_step3
  go_wp2_with fail
  refine (spans0 _).mono ?_
  rintro e w1 ⟨rfl, rfl⟩
  go_wp2
  go_step3
  go_wp2
  go_loopg [5] 0 (fun _ u5 wr => u5 = .slice none 0 0 ∧ Below W0.heap.size W0 wr)
  case atStart => exact ⟨rfl, below_new _ _⟩
  case round =>
    obtain ⟨rfl, hb⟩ := hrel
    go_wp2
    try rw [Exit.noGoto_ret]
    go_ret
    exact ⟨rfl, hb⟩
theorem placeP_any (s : Value) (net : Net) (W0 : World) (h : NetAt W0 s net) (hI : Hid (NetI net)) : Calls Tryz.prog 48 #[s] W0 (SpansRet (placeL net) (placeErr net) W0) := by
  have cN := isNet_any s net W0 h hI
  unfold placeL placeErr
  obtain ⟨A, c, rfl, _⟩ := id h
  cases hb : netB net with
  | false =>
    rw [hb] at cN
    go_enter Tryz.func48, Tryz.ntmps48
    go_wp2_with fail
    refine cN.mono ?_
    rintro e w1 ⟨rfl, rfl⟩
    go_wp2
    go_ret2
    exact ⟨_, rfl, sp_nil _, Below.refl _ _⟩
  | true =>
    rw [hb] at cN
    have h4 := netB_four hb
    rw [if_pos rfl, if_pos rfl]
    by_cases h0 : net.length = 0
    · have hz : net = [] := List.eq_nil_of_length_eq_zero h0
      subst hz
      have e0 : placeO [] = some [] := rfl
      rw [e0]
      go_enter Tryz.func48, Tryz.ntmps48
      go_wp2_with fail
      refine cN.mono ?_
      rintro e w1 ⟨rfl, rfl⟩
      go_wp2_with fail
      refine (firstP_zero A c _).mono ?_
      rintro e w2 ⟨rfl, b2⟩
      go_wp2
      go_ret2
      exact ⟨_, rfl, sp_nil _, b2⟩
    · have cP := firstP_any _ net W0 h (Lib.hid hb) (by omega)
      unfold FirstBe at cP
      change Calls Tryz.prog 119 _ _ (fun e w' => ∃ v l, e = .returned v ∧ w'.ownsRow W0.heap.size 48 2 v l.length (spCells l) ∧ ((l.length = net.length ∧ placeO net = some l) ∨ (l.length < net.length ∧ placeO net = none)) ∧ Below W0.heap.size W0 w') at cP
      obtain ⟨n, hn⟩ : ∃ n, Hid (net.length = n) := ⟨_, Lib.hid rfl⟩
      rw [hn.out] at cN cP h4 ⊢
      obtain ⟨E, hE⟩ : ∃ E : Int, Hid ((if (placeO net).isSome then 0 else 5) = E) := ⟨_, Lib.hid rfl⟩
      obtain ⟨L, hL⟩ : ∃ L : List Sp, Hid ((placeO net).getD [] = L) := ⟨_, Lib.hid rfl⟩
      rw [hE.out, hL.out]
      generalize placeO net = R at cP hE hL
      go_enter Tryz.func48, Tryz.ntmps48
      go_wp2_with fail
      refine cN.mono ?_
      rintro e w1 ⟨rfl, rfl⟩
      go_wp2_with fail
      refine cP.mono ?_
      rintro e w2 ⟨v, l, rfl, hown, hres, b2⟩
      have hsp := spAt_own hown
      obtain ⟨A5, c5, rfl, _⟩ := id hsp
      clear hown
      obtain ⟨a, ha⟩ : ∃ a, Hid (l.length = a) := ⟨_, Lib.hid rfl⟩
      have hla := ha.out
      rw [ha.out] at hres ⊢
      rw [hla] at hsp
      clear hla
      rcases hres with ⟨h1, rfl⟩ | ⟨h1, rfl⟩
      · have H1 := Lib.hid h1
        have hlt : decide (a < n) = false := decide_eq_false (by omega)
        clear h1
        go_wp2
        go_ret2
        have e1 : E = 0 := by rw [← hE.out]; rfl
        have e2 : L = l := by rw [← hL.out]; rfl
        subst e1; subst e2
        exact ⟨_, rfl, hsp, b2⟩
      · go_wp2
        go_ret2
        have e1 : E = 5 := by rw [← hE.out]; rfl
        have e2 : L = [] := by rw [← hL.out]; rfl
        subst e1; subst e2
        exact ⟨_, rfl, sp_nil _, b2⟩
end Go.Proofs.YtfhljcpicdabmaaGreatDoor
