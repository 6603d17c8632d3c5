/- Stage 4's seat: the keys of a map of records, collected: maps.Keys, slices.AppendSeq, slices.Collect. -/
import Derived.Test.YtimlgclejaoboaaGreatDoorBgC
import Derived.Test.YtimlgclejaoboaaGreatDoorBgK
import Derived.Test.YtimlgclejaoboaaGreatDoorBgT
import Derived.Shelf.SlIter.Collect
import Derived.RangeFuncGives
import Derived.Maps.AppendAt
namespace Go.Proofs.YtimlgclejaoboaaGreatDoor
open Go Go.RowKit Go.Maps Go.Sort Go.RecM
open Go.RowKit (Below)
set_option maxRecDepth 100000
set_option maxHeartbeats 2000000

theorem recLits {d : Nat} {cs : List Value} {l : List Lit} (h : Tryz.prog.keyLits (d + 1) 129 cs = some l) : ∃ x : R3, cs = encR x ∧ l = [.int .i64 x.1, .int .i64 x.2.1, .int .i64 x.2.2] := by
  unfold Program.keyLits at h
  rw [Tryz.underlying129] at h
  simp only at h
  rw [cells129] at h
  split at h
  · rename_i hc
    obtain ⟨hl, _⟩ := hc
    obtain ⟨a, b, c, rfl⟩ : ∃ a b c, cs = [a, b, c] := by
      match cs, hl with
      | [a, b, c], _ => exact ⟨a, b, c, rfl⟩
    rw [Option.map_eq_some_iff] at h
    obtain ⟨xs, h, rfl⟩ := h
    simp only [List.mapM_cons, List.mapM_nil, cells3, List.drop_zero, List.drop_succ_cons, List.take_succ_cons, List.take_zero, bind, Option.bind_eq_some_iff, pure, Option.some.injEq] at h
    obtain ⟨l0, k0, _, ⟨l1, k1, _, ⟨l2, k2, _, rfl, rfl⟩, rfl⟩, rfl⟩ := h
    obtain ⟨n0, e0, rfl⟩ := keyLits_int' Tryz.underlying3 k0
    obtain ⟨n1, e1, rfl⟩ := keyLits_int' Tryz.underlying3 k1
    obtain ⟨n2, e2, rfl⟩ := keyLits_int' Tryz.underlying3 k2
    cases e0; cases e1; cases e2
    exact ⟨(n0, n1, n2), rfl, rfl⟩
  · cases h

theorem recKey_inv (key : Value) (kl : Lit) (h : keyOf Tryz.prog 129 key = some kl) : ∃ x : R3, key = aggR x := by
  unfold keyOf at h
  generalize Tryz.prog.types.size = N at h
  rw [Tryz.underlying129, keyType129] at h
  simp only [Bool.true_and] at h
  split at h
  · rename_i hf
    rw [Option.map_eq_some_iff] at h
    obtain ⟨ls, h, _⟩ := h
    obtain ⟨x, hx, _⟩ := recLits h
    cases key with
    | agg cs =>
      refine ⟨x, ?_⟩
      have : cs.toList = encR x := hx
      rw [show cs = (encR x).toArray from Array.ext' (by simpa using this)]
    | tuple _ => simp [Value.formed] at hf
    | _ => simp [Value.formed, Tryz.underlying129] at hf
  · cases h

theorem keys1N_in {H : Type} (F : Fence) (n : Nat) (hF : F.fn 163) (hro : F.round = none) (hn : 1 ≤ n) (l Bm b nn : Nat) (D0 : DataW H) {R : Value → Option (DataW H × List MemPlace)} (J : List R3 → World → Prop)
    (hY : ∀ pre x W, J pre W → pre.length < Maps.size D0 → YieldAt F (n - 1) Tryz.prog l #[aggR x] W fun e W' => e = .returned (.bool true) ∧ J (pre ++ [x]) W' ∧ KeepsWalks W W')
    (W : World) (hJ : AbidesFrom W.heap.size J) (hm : W.cell? ⟨Bm, 0, none⟩ = some (.map (some b))) (hown : W.ownsMap Tryz.prog 129 R b nn D0) (h0 : J [] W) :
    CallsIn F n Tryz.prog 163 #[.func (.yield l) #[] #[], .pointer (some ⟨Bm, 0, none⟩)] W fun e W' => (∃ v, e = .returned v) ∧ ∃ ss : List R3, CollectedR Tryz.prog 129 D0 (fun _ => false) ss ∧ J ss W' := by
  refine callsIn_of_wp Tryz.func163 rfl hF ?_ hro
  simp only [Tryz.ntmps163, List.size_toArray, List.length_cons, List.length_nil, Nat.reduceAdd, Nat.reduceSub, Array.replicate_succ, Array.replicate_zero, List.push_toArray, List.append_toArray, List.nil_append, List.cons_append]
  gi_wp2_with (first
    | (gi_at_range; refine wpListIn_range_own _ rfl _ 77 rfl 129 3 recKeyed Tryz.underlying77 _ b nn _ rfl hown ?_; intro w0 hrg0 hg0 hs0)
    | gi_in)
  go_frame
  gi_loopw [3] (fun _ wr => ∃ (left : Lit → Bool) (cnt : Nat) (ss : List R3), wr.ranges Tryz.prog 129 R b W.heap.size nn D0 left cnt ∧ ss.length + cnt ≤ Maps.size D0 ∧ CollectedR Tryz.prog 129 D0 left ss ∧ J ss wr)
    (fun _ wr => wr.rangeLeft b W.heap.size)
  case atStart =>
    exact ⟨_, _, [], hrg0, by simp, CollectedR.start D0, hJ [] W w0 none h0 hg0 (fun r e => by cases e)⟩
  case round =>
    obtain ⟨left, cnt, ss, hrg, hcs, hC, hJs⟩ := hrel
    gi_wp2_with (first
      | (gi_at_next; refine wpListIn_next_ranges _ rfl _ rfl 129 recKeyed R aggR id (fun key kl hk => recKey_inv key kl hk) (fun v _ _ => ⟨v, rfl⟩) b W.heap.size nn _ _ _ rfl hrg ?_ ?_)
      | gi_in)
    · -- NOTHING IS LEFT
      intro hc0 hl0
      gi_wp2
      go_end0
      obtain rfl : left = fun _ => false := funext hl0
      exact ⟨⟨_, rfl⟩, ss, hC, hJs⟩
    · -- AN ENTRY HAS COME: yield(k)
      intro x0 x1 x2 c kl yd yp w2 cnt2 hkey hlk hv hat hrg2 hlt hg2 hs2 hen
      have hJ2 : J ss w2 := hJ ss wr w2 (some W.heap.size) hJs hg2 (fun r e => by cases e; exact ⟨Nat.le_refl _, hrg.iter_walk⟩)
      clear hs2
      have hag : aggR (x0, x1, x2) = .agg #[.int .i64 x0, .int .i64 x1, .int .i64 x2] := rfl
      have hJ3 : J ss (w2.alloc (.cells #[.int .i64 x0, .int .i64 x1, .int .i64 x2] 129)) := hJ ss w2 _ none hJ2 (World.grownBy_alloc w2 _ none) (fun r e => by cases e)
      obtain ⟨fn, tmps, assign, body, hy, hR⟩ := hY ss (x0, x1, x2) _ hJ3 (by omega)
      rw [hag] at hen hy ⊢
      gi_wp2
      refine hR.mono ?_
      rintro e W3 ⟨rfl, hJ4, hk3⟩
      gi_wp2
      have hrg3 := hrg2.of_walks ((KeepsWalks.alloc _ _).trans hk3)
      go_roundw
      case rel => exact ⟨_, cnt2, ss ++ [(x0, x1, x2)], hrg3, by simp; omega, hC.step recKeyed hkey hlk hat, hJ4⟩
      case measure => rw [hrg3.left_eq, hrg.left_eq]; exact hlt

theorem keys_gives {H : Type} (F : Fence) (n : Nat) (hF : F.fn 163) (hro : F.round = none) (hn : 1 ≤ n) (Bm b nn : Nat) (D0 : DataW H) {R : Value → Option (DataW H × List MemPlace)} (w : World) (hBm : Bm < w.heap.size)
    (hm : w.cell? ⟨Bm, 0, none⟩ = some (.map (some b))) (hown : w.ownsMap Tryz.prog 129 R b nn D0) :
    SeqGives F n Tryz.prog 163 #[.pointer (some ⟨Bm, 0, none⟩)] aggR (fun ss => CollectedR Tryz.prog 129 D0 (fun _ => false) ss) (Maps.size D0) w := fun l J W hW hJ hY h0 => by
  have hown' : W.ownsMap Tryz.prog 129 R b nn D0 := by
    have hbl := hown.lt
    obtain ⟨es, clock, hb, Ft, hs, hD⟩ := hown
    exact ⟨es, clock, (hW.block b hbl).trans hb, Ft, hs, hD⟩
  exact keys1N_in F n hF hro hn l Bm b nn D0 J hY W hJ ((hW.cell (p := ⟨Bm, 0, none⟩) hBm).trans hm) hown' h0

theorem keys_in (F : Fence) (n : Nat) (hF : F.fn 146) (hro : F.round = none) (mb : Option Nat) (w : World) :
    CallsIn F n Tryz.prog 146 #[.map mb] w fun e w' => e = .returned (.func (.func 163) #[] #[.pointer (some ⟨w.heap.size, 0, none⟩)]) ∧ w' = w.alloc (.cells #[.map mb] 77) := by
  refine callsIn_of_wp Tryz.func146 rfl hF ?_ hro
  simp only [Tryz.ntmps146, List.size_toArray, List.length_cons, List.length_nil, Nat.reduceAdd, Nat.reduceSub, Array.replicate_succ, Array.replicate_zero, List.push_toArray, List.append_toArray, List.nil_append, List.cons_append]
  gi_wp2
  go_ret
  exact ⟨rfl, rfl⟩

end Go.Proofs.YtimlgclejaoboaaGreatDoor
