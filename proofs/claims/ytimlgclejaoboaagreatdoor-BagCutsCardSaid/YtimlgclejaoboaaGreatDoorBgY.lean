/- Stage 4's seat: the items of a bag from one time to below another one: the iterator. -/
import Derived.Test.YtimlgclejaoboaaGreatDoorBgZ
import Derived.Test.YtimlgclejaoboaaGreatDoorBgJ
namespace Go.Proofs.YtimlgclejaoboaaGreatDoor
open Go Go.RowKit Go.RecM
set_option maxRecDepth 100000
set_option maxHeartbeats 2000000

/-- What the iterator gives. -/
def betL (lo hi : Int) (l : List It) : List It := (l.takeWhile fun x => decide (x.1.1 < hi)).filter fun x => decide (lo ≤ x.1.1)
theorem takeWhile_take {α : Type} {p : α → Bool} : ∀ {l : List α} {k : Nat}, (∀ (i : Nat) (x : α), i < k → l[i]? = some x → p x = true) → (∀ x, l[k]? = some x → p x = false) → l.takeWhile p = l.take k
  | [], k, _, _ => by simp
  | a :: l, 0, _, h => by
    have := h a (by simp)
    simp [this]
  | a :: l, k + 1, h, h' => by
    have ha := h 0 a (by omega) (by simp)
    rw [List.takeWhile_cons, ha, if_pos rfl, List.take_succ_cons, takeWhile_take (k := k) (fun i x hi hx => h (i + 1) x (by omega) (by simpa using hx)) (fun x hx => h' x (by simpa using hx))]

theorem iter_in (F : Fence) (n : Nat) (hF : F.fn 158) (hro : F.round = none) (hn : 1 ≤ n) (lp c1 c2 c3 : Nat) (s : Value) (lo hi : Int) (l : List It) (hl : l.length ≤ 300) (J : List It → World → Prop) (N : Nat) (hN : l.length ≤ N)
    (hJb : ∀ ss W, J ss W → BagAt W s l ∧ W.cell? ⟨c1, 0, none⟩ = some s ∧ W.cell? ⟨c2, 0, none⟩ = some (.int .i64 hi) ∧ W.cell? ⟨c3, 0, none⟩ = some (.int .i64 lo))
    (hY : ∀ pre x W1, J pre W1 → pre.length < N → YieldAt F (n - 1) Tryz.prog lp #[aggI x] W1 fun e W' => e = .returned (.bool true) ∧ J (pre ++ [x]) W' ∧ KeepsWalks W1 W')
    (W : World) (hJ : AbidesFrom W.heap.size J) (h0 : J [] W) :
    CallsIn F n Tryz.prog 158 #[.func (.yield lp) #[] #[], .pointer (some ⟨c1, 0, none⟩), .pointer (some ⟨c2, 0, none⟩), .pointer (some ⟨c3, 0, none⟩)] W fun e W' => (∃ v, e = .returned v) ∧ J (betL lo hi l) W' := by
  obtain ⟨A, c, rfl, -⟩ := (hJb [] W h0).1
  obtain ⟨nl, hnl⟩ : ∃ n, Hid (l.length = n) := ⟨_, Lib.hid rfl⟩
  have HB := Lib.hid hJb
  have hbox := (hJb [] W h0).2.1
  rw [hnl.out] at hl hN hbox
  clear hJb
  obtain ⟨f, hf⟩ : ∃ f, Hid (f = fun x : It => decide (lo ≤ x.1.1)) := ⟨_, Lib.hid rfl⟩
  refine callsIn_of_wp Tryz.func158 rfl hF ?_ hro
  simp only [Tryz.ntmps158, List.size_toArray, List.length_cons, List.length_nil, Nat.reduceAdd, Nat.reduceSub, Array.replicate_succ, Array.replicate_zero, List.push_toArray, List.append_toArray, List.nil_append, List.cons_append]
  gi_wp2
  gi_loopw [9] (fun u9 wr => ∃ k : Nat, k ≤ nl ∧ u9 = .int .i64 k ∧ Hid (∀ (i : Nat) (x : It), i < k → l[i]? = some x → decide (x.1.1 < hi) = true) ∧ J ((l.take k).filter f) wr ∧ W.heap.size ≤ wr.heap.size) (fun u9 _ => nl - (intOf u9).toNat)
  case atStart => exact ⟨0, by omega, rfl, Lib.hid (fun i x h => by omega), h0, Nat.le_refl _⟩
  case round =>
    obtain ⟨k, hk, rfl, hall, hJs, hsz⟩ := hrel
    by_cases hlt : k < nl
    · obtain ⟨x, hx⟩ : ∃ x, l[k]? = some x := ⟨_, List.getElem?_eq_getElem (by have := hnl.out; omega)⟩
      obtain ⟨hb, hb1, hb2, hb3⟩ := HB.out _ _ hJs
      rw [hnl.out] at hb hb1
      obtain ⟨g, o, rfl, hg, d0, d1, d2, d3⟩ := hb.get hx
      have HX := Lib.hid hx
      have hstep := Lib.hid (filter_succ (f := f) hx)
      have hle : ((l.take k).filter f).length ≤ k := filter_len f
      clear hx hb
      obtain ⟨⟨x0, x1, x2⟩, x3⟩ := x
      dsimp only at d0 d1 d2 d3
      have hfx : Hid (f ((x0, x1, x2), x3) = decide (lo ≤ x0)) := Lib.hid (by rw [hf.out])
      have bk1 : (0 : Int) ≤ k := by omega
      have bk2 : (k : Int) < nl := by omega
      have l2 : c2 < wr.heap.size := World.block_lt_of_cell? wr ⟨c2, 0, none⟩ hb2
      have l3 : c3 < wr.heap.size := World.block_lt_of_cell? wr ⟨c3, 0, none⟩ hb3
      have hJ3 : J ((l.take k).filter f) (wr.alloc (.cells #[.int .i64 x0, .int .i64 x1, .int .i64 x2, .int .i64 x3] 33)) := hJ _ wr _ none hJs (World.grownBy_alloc wr _ none) (fun r e => by cases e)
      by_cases hh : hi ≤ x0
      · have hhb : decide (hi ≤ x0) = true := decide_eq_true hh
        have hnot : Hid (decide (x0 < hi) = false) := Lib.hid (decide_eq_false (by omega))
        gi_wp2
        (try simp only [Exit.inBlock, Exit.then])
        refine bodyPost_ret (results_none rfl _ _ _) rfl ?_
        refine ⟨⟨_, rfl⟩, ?_⟩
        unfold betL
        rw [takeWhile_take (k := k) hall.out (fun y hy => by rw [HX.out] at hy; cases hy; exact hnot.out), ← hf.out]
        exact hJ3
      · have hhb : decide (hi ≤ x0) = false := decide_eq_false hh
        have hall' : Hid (∀ (i : Nat) (x : It), i < k + 1 → l[i]? = some x → decide (x.1.1 < hi) = true) := Lib.hid fun i y hiy hy => by
          by_cases hik : i = k
          · subst hik; rw [HX.out] at hy; cases hy; exact decide_eq_true (by show x0 < hi; omega)
          · exact hall.out i y (by omega) hy
        by_cases ha : lo ≤ x0
        · have hab : decide (lo ≤ x0) = true := decide_eq_true ha
          obtain ⟨fn, tmps, assign, body, hy, hR⟩ := hY _ ((x0, x1, x2), x3) _ hJ3 (by omega)
          have hag : aggI ((x0, x1, x2), x3) = .agg #[.int .i64 x0, .int .i64 x1, .int .i64 x2, .int .i64 x3] := rfl
          rw [hag] at hy
          gi_wp2
          refine hR.mono ?_
          rintro e W3 ⟨rfl, hJ4, hk3⟩
          gi_wp2
          go_roundw
          case rel =>
            refine ⟨k + 1, by omega, by go_num, hall', ?_, ?_⟩
            · rw [hstep.out, hfx.out, hab, if_pos rfl]; exact hJ4
            · have := hk3.size; simp at this; omega
          case measure => simp [intOf]; omega
        · have hab : decide (lo ≤ x0) = false := decide_eq_false ha
          gi_wp2
          refine ⟨fun f e => (by cases e), ?_⟩
          gi_wp2
          go_roundw
          case rel =>
            refine ⟨k + 1, by omega, by go_num, hall', ?_, ?_⟩
            · rw [hstep.out, hfx.out, hab, if_neg (by decide), List.append_nil]; exact hJ3
            · simp; omega
          case measure => simp [intOf]; omega
    · gi_wp2
      go_end0
      refine ⟨⟨_, rfl⟩, ?_⟩
      unfold betL
      rw [takeWhile_take (k := k) hall.out (fun y hy => by have := (List.getElem?_eq_some_iff.1 hy).1; have := hnl.out; omega), ← hf.out]
      exact hJs
end Go.Proofs.YtimlgclejaoboaaGreatDoor
