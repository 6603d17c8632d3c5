/- The seat: DateTurned: the library's Index, Contains and Equal over ways. -/
import Derived.Test.YtfhljcpicdabmaaGreatDoorSeatLe
import Derived.Test.YtfhljcpicdabmaaGreatDoorSeatM
import Derived.Test.YtfhljcpicdabmaaGreatDoorWayN
namespace Go.Proofs.YtfhljcpicdabmaaGreatDoor
open Go Go.RowKit Go.Ev Go.WayM
set_option maxRecDepth 100000
set_option maxHeartbeats 1000000
def FoundAt (w : World) (e : Ending) (w' : World) : Prop := ∃ k : Nat, e = .returned (.int .i64 k) ∧ w = w'
def LeftAt (n : Nat) (x : Int) (xs : List Int) (u : Value) : Prop := ∃ k : Nat, k ≤ n ∧ u = .int .i64 k ∧ ∀ i y, i < k → xs[i]? = some y → y ≠ x
theorem index_has (s : Value) (x : Int) (xs : List Int) (w : World) (h : WaysAt w s xs) (hl : xs.length ≤ 13) (hx : x ∈ xs) : Calls Tryz.prog 143 #[s, .int .i64 x] w (FoundAt w) := by
  obtain ⟨A1, c1, rfl, r1⟩ := h
  have HX := Lib.hid hx
  clear hx
  obtain ⟨n, hn⟩ : ∃ n, Hid (xs.length = n) := ⟨_, Lib.hid rfl⟩
  rw [hn.out] at r1 hl ⊢
  go_enter Tryz.func143, Tryz.ntmps143
  go_wp2
  go_loop [8] (fun u8 => LeftAt n x xs u8) (fun u8 => n - (intOf u8).toNat)
  case atStart => exact ⟨0, by omega, rfl, fun i y hi => by omega⟩
  case round =>
    obtain ⟨k, hk, rfl, hne⟩ := hrel
    by_cases hlt : k < n
    · obtain ⟨g1, rfl, _, d1⟩ := r1 (by omega)
      have hx : xs[k]? = some (xs[k]'(by have := hn.out; omega)) := List.getElem?_eq_getElem _
      obtain ⟨y, hy⟩ : ∃ y, xs[k]? = some y := ⟨_, hx⟩
      have e1 := d1 k y hy
      have HY := Lib.hid hy
      have HN := Lib.hid hne
      clear hx hy d1 hne
      by_cases hxy : x = y
      · subst hxy
        go_wp2
        go_ret
        exact ⟨k, rfl, rfl⟩
      · have hb : (x == y) = false := by simpa using hxy
        go_wp2
        go_round
        case rel =>
          refine ⟨k + 1, by omega, by go_num, fun i z hi hz => ?_⟩
          by_cases hik : i = k
          · subst hik
            rw [HY.out] at hz
            cases hz
            exact fun e => hxy e.symm
          · exact HN.out i z (by omega) hz
        case measure => simp [intOf]; omega
    · exfalso
      obtain ⟨i, hi⟩ := List.getElem?_of_mem HX.out
      have hil : i < xs.length := (List.getElem?_eq_some_iff.1 hi).1
      exact hne i x (by have := hn.out; omega) hi rfl
theorem contains_has (s : Value) (x : Int) (xs : List Int) (w : World) (h : WaysAt w s xs) (hl : xs.length ≤ 13) (hx : x ∈ xs) : Calls Tryz.prog 72 #[s, .int .i64 x] w fun e w' => e = .returned (.bool true) ∧ w = w' := by
  go_enter Tryz.func72, Tryz.ntmps72
  go_wp2_with fail
  refine (index_has s x xs _ h hl hx).mono ?_
  rintro e w1 ⟨k, rfl, rfl⟩
  go_wp2
  go_ret
  exact ⟨rfl, rfl⟩
theorem equal_any (s1 s2 : Value) (xs : List Int) (w : World) (h1 : WaysAt w s1 xs) (h2 : WaysAt w s2 xs) (hl : xs.length ≤ 13) : Calls Tryz.prog 73 #[s1, s2] w (DrewOnly (.bool true) w) := by
  obtain ⟨A1, c1, rfl, r1⟩ := h1
  obtain ⟨A2, c2, rfl, r2⟩ := h2
  obtain ⟨n, hn⟩ : ∃ n, Hid (xs.length = n) := ⟨_, Lib.hid rfl⟩
  rw [hn.out] at r1 r2 hl ⊢
  go_enter Tryz.func73, Tryz.ntmps73
  go_wp2
  go_loopw [13] (fun u13 wr => SameAt w n u13 wr) (fun u13 _ => n - (intOf u13).toNat)
  case atStart => exact ⟨0, by omega, rfl, 0, rfl⟩
  case round =>
    obtain ⟨k, hk, rfl, m, rfl⟩ := hrel
    by_cases hlt : k < n
    · obtain ⟨g1, rfl, _, d1⟩ := r1 (by omega)
      obtain ⟨g2, rfl, _, d2⟩ := r2 (by omega)
      have hx : xs[k]? = some (xs[k]'(by have := hn.out; omega)) := List.getElem?_eq_getElem _
      obtain ⟨x, hxx⟩ : ∃ x, xs[k]? = some x := ⟨_, hx⟩
      have e1 := d1 k x hxx
      have e2 := d2 k x hxx
      clear hx hxx d1 d2
      go_wp2
      go_quiet (fail)
      go_wp2
      go_roundw
      case rel => exact ⟨k + 1, by omega, by go_num, _, rfl⟩
      case measure => simp [intOf]; omega
    · go_wp2
      go_ret
      exact ⟨rfl, _, rfl⟩
end Go.Proofs.YtfhljcpicdabmaaGreatDoor
