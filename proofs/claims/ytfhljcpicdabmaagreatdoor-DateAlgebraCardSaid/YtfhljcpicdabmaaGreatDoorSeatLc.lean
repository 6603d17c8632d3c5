/- The seat: the project's Chain. -/
import Derived.Test.YtfhljcpicdabmaaGreatDoorSeatLb
import Derived.Laws.AppendOwn
import Derived.Laws.OwnMore
namespace Go.Proofs.YtfhljcpicdabmaaGreatDoor
open Go Go.RowKit Go.Ev Go.WayM
set_option maxRecDepth 100000
set_option maxHeartbeats 1000000
theorem ret_b {a b : Bool} (h : a = b) : Ending.returned (.bool a) = .returned (.bool b) := by rw [h]
theorem bit_val {s x : Nat} (hs : s < 16384) : (bits BinOp.and IntKind.i64 ((s : Int) / 2 ^ x) 1 == 1) = s.testBit x := by
  have e : (s : Int) / 2 ^ x = ((s / 2 ^ x : Nat) : Int) := by simp
  have hb : s / 2 ^ x < 16384 := Nat.lt_of_le_of_lt (Nat.div_le_self _ _) hs
  rw [e, Nat.testBit_eq_decide_div_mod_eq]
  generalize s / 2 ^ x = d at hb ⊢
  have h1 : bits BinOp.and IntKind.i64 (d : Int) 1 = ((d % 2 : Nat) : Int) := by
    show IntKind.wrap .i64 (((BitVec.ofInt 64 (d : Int) &&& BitVec.ofInt 64 ((1 : Nat) : Int)).toNat : Nat) : Int) = _
    rw [BitVec.ofInt_natCast, BitVec.ofInt_natCast, BitVec.toNat_and, BitVec.toNat_ofNat, BitVec.toNat_ofNat, Nat.mod_eq_of_lt (by omega), Nat.mod_eq_of_lt (by omega), Nat.and_one_is_mod]
    exact IntWalk.i64_in _ ⟨by omega, by omega⟩
  rw [h1, Bool.eq_iff_iff, beq_iff_eq, decide_eq_true_eq]
  omega
theorem isWay_no (v : Int) (w : World) (h : v < 1 ∨ 13 < v) : Calls Tryz.prog 113 #[.int .i64 v] w fun e w' => e = .returned (.bool false) ∧ w = w' := by
  rcases Classical.em (1 ≤ v) with h1 | h1
  · have h2 : 13 < v := by omega
    go_enter Tryz.func113, Tryz.ntmps113
    go_wp2
    go_ret
    exact ⟨ret_b (decide_eq_false (by omega)), rfl⟩
  · have h2 : v < 1 := by omega
    go_enter Tryz.func113, Tryz.ntmps113
    go_wp2
    go_ret
    exact ⟨rfl, rfl⟩
theorem isWay_yes (v : Int) (w : World) (h1 : 1 ≤ v) (h2 : v ≤ 13) : Calls Tryz.prog 113 #[.int .i64 v] w fun e w' => e = .returned (.bool true) ∧ w = w' := by
  go_enter Tryz.func113, Tryz.ntmps113
  go_wp2
  go_ret
  exact ⟨rfl, rfl⟩
theorem hasWay_at (s x : Nat) (w : World) (hs : s < 16384) (hx : x ≤ 13) : Calls Tryz.prog 115 #[.int .i64 s, .int .i64 x] w fun e w' => e = .returned (.bool (s.testBit x)) ∧ w = w' := by
  go_enter Tryz.func115, Tryz.ntmps115
  go_wp2
  go_ret
  exact ⟨ret_b (bit_val hs), rfl⟩
theorem hasWay_in (s n : Nat) (b : Bool) (w : World) (hs : s < 16384) (hx : n < 13) (hb : s.testBit (n + 1) = b) : Calls Tryz.prog 115 #[.int .i64 s, .int .i64 ((n : Int) + 1)] w fun e w' => e = .returned (.bool b) ∧ w = w' := by
  subst hb
  exact hasWay_at s (n + 1) w hs (by omega)
theorem chain_no (v u : Int) (w : World) (h : ¬ (1 ≤ v ∧ v ≤ 13) ∨ ¬ (1 ≤ u ∧ u ≤ 13)) : Calls Tryz.prog 45 #[.int .i64 v, .int .i64 u] w fun e w' => e = .returned (.tuple #[.slice none 0 0, .int .i64 2]) ∧ w = w' := by
  by_cases hv : 1 ≤ v ∧ v ≤ 13
  · have hu : u < 1 ∨ 13 < u := by omega
    obtain ⟨v1, v2⟩ := hv
    go_enter Tryz.func45, Tryz.ntmps45
    go_wp2_with fail
    refine (isWay_yes v _ v1 v2).mono ?_
    rintro e w1 ⟨rfl, rfl⟩
    go_wp2_with fail
    refine (isWay_no u _ hu).mono ?_
    rintro e w1 ⟨rfl, rfl⟩
    go_wp2
    go_ret2
    exact ⟨rfl, rfl⟩
  · have hv' : v < 1 ∨ 13 < v := by omega
    go_enter Tryz.func45, Tryz.ntmps45
    go_wp2_with fail
    refine (isWay_no v _ hv').mono ?_
    rintro e w1 ⟨rfl, rfl⟩
    go_wp2
    go_ret2
    exact ⟨rfl, rfl⟩
theorem one_cell (w : World) (x : Value) (t : TypeId) : ∀ j u, ([x] : List Value)[j]? = some u → (w.alloc (.cells #[x] t)).cell? ((⟨w.heap.size, 0, none⟩ : Addr).add j) = some u := by
  intro j u h
  cases j with
  | zero =>
    simp only [List.getElem?_cons_zero, Option.some.injEq] at h
    subst h
    show (w.alloc (.cells #[x] t)).cell? ⟨w.heap.size, 0, none⟩ = some x
    go_simp
  | succ j => simp at h
theorem one_one (n : Int) : ∀ u ∈ ([.int .i64 n] : List Value), u.oneCell' = true := by
  intro u h
  rw [List.mem_singleton] at h
  subst h
  rfl
theorem info49 : (Tryz.prog.info? 49).map (fun i => (i.zero, i.size, i.bytes)) = some (some (.int .i64 0), 1, 8) := by kernel_rfl
/-- What Chain returns: a row of ways, and no error. -/
def ChainBe (v u : Int) (w : World) (e : Ending) (w' : World) : Prop := ∃ s, e = .returned (.tuple #[s, .int .i64 0]) ∧ w'.ownsRow w.heap.size 49 1 s (chainL v u).length ((chainL v u).map (Value.int .i64)) ∧ Below w.heap.size w w'
theorem chain_yes (v u : Int) (w : World) (v1 : 1 ≤ v) (v2 : v ≤ 13) (u1 : 1 ≤ u) (u2 : u ≤ 13) : Calls Tryz.prog 45 #[.int .i64 v, .int .i64 u] w (ChainBe v u w) := by
  obtain ⟨i0, hi0, hz0, hz1, hz2⟩ := info_parts info49
  go_enter Tryz.func45, Tryz.ntmps45
  go_wp2_with fail
  refine (isWay_yes v _ v1 v2).mono ?_
  rintro e w1 ⟨rfl, rfl⟩
  go_wp2_with fail
  refine (isWay_yes u _ u1 u2).mono ?_
  rintro e w1 ⟨rfl, rfl⟩
  go_wp2_with fail
  refine (chainSet_any v u _).mono ?_
  rintro e w1 ⟨rfl, hb1⟩
  have hs : chainN v u < 16384 := inB_bd (small 6) v u _ _ (by decide)
  obtain ⟨s, hss⟩ : ∃ s, Hid (chainN v u = s) := ⟨_, Lib.hid rfl⟩
  rw [hss.out] at hs ⊢
  go_wp2
  go_loopw [7, 8] (fun u7 u8 wr => ∃ n : Nat, n ≤ 13 ∧ u8 = .int .i64 ((n : Int) + 1) ∧ wr.ownsRow w.heap.size 49 1 u7 (chainTo v u n).length ((chainTo v u n).map (Value.int .i64)) ∧ Below w.heap.size w wr) (fun _ u8 _ => (14 - intOf u8).toNat)
  case atStart => exact ⟨0, by omega, rfl, World.ownsRow_nil _ _ _ _, hb1⟩
  case round =>
    obtain ⟨n, hn, rfl, hown, hbw⟩ := hrel
    clear hb1
    by_cases hlt : n < 13
    · have hd : decide ((n : Int) + 1 ≤ 13) = true := decide_eq_true (by omega)
      cases hf : s.testBit (n + 1) with
      | true =>
        have HF := Lib.hid hf
        clear hf
        go_wp2_with fail
        refine (hasWay_in s n _ _ hs hlt HF.out).mono ?_
        rintro e w2 ⟨rfl, rfl⟩
        have hle := chainTo_len v u n
        go_wp2_with (at_builtin; refine wpList_append_own _ rfl (.tmp 27) (.tmp 29) 52 rfl w.heap.size 49 i0 (.int .i64 0) 1 8 Tryz.underlying52 hi0 hz0 hz1 hz2 rfl (by decide) _ _ _ rfl (hown.alloc _) ⟨_, 0, none⟩ 1 1 [.int .i64 ((n : Int) + 1)] rfl rfl ?c1 ?c2 ?c3 ?c4 ?c5 ?_)
        case c1 => exact one_cell _ _ _
        case c2 => exact one_one _
        case c3 => unfold maxLen; omega
        case c4 => omega
        case c5 => simp; have := hbw.size; omega
        intro v' w3 hown3 hg3 _
        have hbw3 : Below w.heap.size w w3 := (hbw.alloc hbw.size _).grown hg3 (by simp; have := hbw.size; omega) (fun k hk => (hown.lt k hk).1)
        clear hown hbw hg3
        go_wp2
        go_roundw
        case rel =>
          refine ⟨n + 1, by omega, by go_num, ?_, hbw3⟩
          have hfo : follows v u ((n + 1 : Nat) : Int) = true := by rw [← chain_bit, hss.out]; exact HF.out
          rw [chainTo_succ, if_pos hfo, List.map_append, List.length_append]
          exact hown3
        case measure => simp [intOf]; omega
      | false =>
        have HF := Lib.hid hf
        clear hf
        go_wp2_with fail
        refine (hasWay_in s n _ _ hs hlt HF.out).mono ?_
        rintro e w2 ⟨rfl, rfl⟩
        go_wp2
        go_roundw
        case rel =>
          refine ⟨n + 1, by omega, by go_num, ?_, hbw⟩
          have hfo : ¬ follows v u ((n + 1 : Nat) : Int) = true := by rw [← chain_bit, hss.out, HF.out]; decide
          rw [chainTo_succ, if_neg hfo, List.append_nil]
          exact hown
        case measure => simp [intOf]; omega
    · have hn13 : n = 13 := by omega
      have HN := Lib.hid hn13
      clear hn13
      go_wp2
      go_ret2
      rw [HN.out] at hown
      exact ⟨u7, rfl, hown, hbw⟩
end Go.Proofs.YtfhljcpicdabmaaGreatDoor
