/- Stage 4's seat: the keys of a map of records, in order: the project's sorted(). -/
import Derived.Test.YtimlgclejaoboaaGreatDoorBgJ
import Derived.Test.YtimlgclejaoboaaGreatDoorBgQ
import Derived.Shelf.SlSortCmp.WholeK
import Derived.Shelf.SlSortCmp.NoneTotal
import Derived.RangeFuncBound
namespace Go.Proofs.YtimlgclejaoboaaGreatDoor
open Go Go.RowKit Go.Maps Go.RecM
open Go.RowKit (Below)
set_option maxRecDepth 100000
set_option maxHeartbeats 2000000

theorem sortRec (ss : List R3) (hn : ss.length < 4611686018427387904) (u : Value) (B : Nat) (W : World) (hown : W.ownsRow B 129 3 u ss.length (ss.flatMap encR)) :
    Calls Tryz.prog 162 #[u, .func (.func 118) #[] #[]] W fun e w' => e = .returned (.tuple #[]) ∧ ∃ ts : List R3, ts.Perm ss ∧ (ts.Pairwise fun x y => ¬ rLt y x) ∧ w'.ownsRow B 129 3 u ts.length (ts.flatMap encR) ∧ W.grownBy w' u.ownBlock := by
  have hown0 := hown
  obtain ⟨_, ⟨rfl, h0⟩ | ⟨b, cap, cur, rfl, hB, hb, h1, h2, h3, h4⟩⟩ := hown
  · have hl : ss = [] := List.length_eq_zero_iff.1 h0
    subst hl
    have hcon := AnyF.slices_SortFunc_none Tryz.sortR none 0 (.func (.func 118) #[] #[]) W
    change Calls Tryz.prog 162 _ _ _ at hcon
    refine hcon.mono ?_
    rintro e w' ⟨rfl, rfl⟩
    exact ⟨rfl, [], List.Perm.refl _, List.Pairwise.nil, hown0, ⟨rfl, rfl, rfl, Nat.le_refl _, fun _ _ _ => rfl⟩⟩
  · have hH : Sort.HoldsK encR 3 W b 0 ss.toArray := holds_of_row encR_len (by decide) hb (by simpa using h4)
    have hlt : b < W.heap.size := (Array.getElem?_eq_some_iff.1 hb).1
    have hsz : ss.toArray.size < 4611686018427387904 := by simpa using hn
    have eg : ∀ args w, (callFunc 118 args).run Tryz.prog w = .ok (.enter 118 args) w := enters_of Tryz.func118 (by kernel_rfl) rfl
    have hcon := AnyQ.slices_SortFunc Tryz.sortR 3 Tryz.isAgg129 Tryz.sizeOf129 encR encR_len encR_one cfR swoR 118 #[] b 0 cap ss.toArray W eg (fun m os dk _ x y => (recCmp x y _)) hH hlt hsz
    change Calls Tryz.prog 162 _ _ _ at hcon
    rw [show ss.toArray.size = ss.length by simp] at hcon
    refine hcon.mono ?_
    rintro e w' ⟨rfl, d', n, os, hp, hs, rfl⟩
    obtain ⟨hz, _, hp⟩ := hp
    have hz' : d'.size = ss.length := by simpa using hz
    refine ⟨rfl, d'.toList, ?_, ?_, ?_, ?_⟩
    · have e1 : d'.extract 0 ss.length = d' := by rw [← hz', Array.extract_size]
      have e2 : ss.toArray.extract 0 ss.length = ss.toArray := by rw [show ss.length = ss.toArray.size by simp, Array.extract_size]
      rw [e1, e2] at hp
      exact hp
    · refine List.pairwise_iff_getElem.2 fun i j hi hj hij => ?_
      have hi' : i < d'.size := by simpa using hi
      have hj' : j < d'.size := by simpa using hj
      have := hs i j (Nat.zero_le _) hij (by rw [← hz']; exact hj')
      rw [ltR, getElem!_pos d' j hj', getElem!_pos d' i hi'] at this
      simpa using of_decide_eq_false this
    · have := ownsRow_sortedK (enc := encR) (k := 3) encR_len (by decide) (n := n) (os := os) (d := ss.toArray) (d' := d') (by simpa using hz') hB hb (by simpa using h1) h2 h3
      simp only [List.size_toArray] at this
      rw [show d'.toList.length = ss.length by simpa using hz']
      exact this
    · exact grownK _

theorem sorted_any {H : Type} (b nn : Nat) (D0 : DataW H) {R : Value → Option (DataW H × List MemPlace)} (w : World) (hown : w.ownsMap Tryz.prog 129 R b nn D0) (hmax : Maps.size D0 ≤ maxLen) (hbytes : Maps.size D0 * 24 ≤ 140737488355328) :
    Calls Tryz.prog 117 #[.map (some b), .func (.func 118) #[] #[]] w fun e w' => ∃ (v : Value) (ts : List R3), e = .returned v ∧ KeysAre Tryz.prog 129 D0 ts ∧ w'.ownsRow w.heap.size 129 3 v ts.length (ts.flatMap encR) ∧ (v = .slice none 0 0 ↔ ts = []) ∧ Below w.heap.size w w' := by
  have hbl := hown.lt
  have hseq : SeqGives Fence.wide (5 - 1 - 1) Tryz.prog 163 #[.pointer (some ⟨w.heap.size, 0, none⟩)] aggR (fun ss => CollectedR Tryz.prog 129 D0 (fun _ => false) ss) (Maps.size D0) (w.alloc (.cells #[.map (some b)] 77)) :=
    keys_gives Fence.wide _ trivial rfl (by omega) w.heap.size b nn D0 _ (by simp) (by simp) (by
      obtain ⟨es, clock, hb, Ft, hs, hD⟩ := hown
      exact ⟨es, clock, (Below.heap_alloc _ _ b hbl).trans hb, Ft, hs, hD⟩)
  have ck : Calls Tryz.prog 146 #[.map (some b)] w fun e w' => e = .returned (.func (.func 163) #[] #[.pointer (some ⟨w.heap.size, 0, none⟩)]) ∧ w' = w.alloc (.cells #[.map (some b)] 77) := callsIn_wide.1 (keys_in Fence.wide 5 trivial rfl (some b) w)
  have cc : Calls Tryz.prog 161 #[.func (.func 163) #[] #[.pointer (some ⟨w.heap.size, 0, none⟩)]] (w.alloc (.cells #[.map (some b)] 77)) fun e w' => ∃ (v : Value) (ss : List R3), e = .returned v ∧ (CollectedR Tryz.prog 129 D0 (fun _ => false) ss ∧ ss.length ≤ Maps.size D0) ∧ w'.ownsRow (w.alloc (.cells #[.map (some b)] 77)).heap.size 129 3 v ss.length (ss.flatMap encR) ∧ (v = .slice none 0 0 ↔ ss = []) ∧ Below (w.alloc (.cells #[.map (some b)] 77)).heap.size (w.alloc (.cells #[.map (some b)] 77)) w' :=
    callsIn_wide.1 (collect_in Fence.wide 5 trivial trivial rfl (by omega) 163 _ trivial (enters_of Tryz.func163 (by kernel_rfl) rfl) _ _ hmax hbytes _ hseq.bounded)
  have cs : Calls Tryz.prog 145 #[.func (.func 163) #[] #[.pointer (some ⟨w.heap.size, 0, none⟩)], .func (.func 118) #[] #[]] (w.alloc (.cells #[.map (some b)] 77)) fun e w' => ∃ (v : Value) (ts : List R3), e = .returned v ∧ KeysAre Tryz.prog 129 D0 ts ∧ w'.ownsRow (w.alloc (.cells #[.map (some b)] 77)).heap.size 129 3 v ts.length (ts.flatMap encR) ∧ (v = .slice none 0 0 ↔ ts = []) ∧ Below (w.alloc (.cells #[.map (some b)] 77)).heap.size (w.alloc (.cells #[.map (some b)] 77)) w' := by
    clear ck hseq hown
    generalize w.alloc (.cells #[.map (some b)] 77) = w1 at cc ⊢
    go_enter Tryz.func145, Tryz.ntmps145
    go_wp2_with fail
    refine cc.mono ?_
    rintro e w2 ⟨v, ss, rfl, ⟨hC, hlen⟩, hrow, hnil, hb⟩
    have hsz : ss.length < 4611686018427387904 := by omega
    go_wp2_with fail
    refine (sortRec ss hsz v w1.heap.size w2 hrow).mono ?_
    rintro e w3 ⟨rfl, ts, hp, hs, hrow3, hg3⟩
    go_wp2
    go_ret
    refine ⟨v, ts, rfl, KeysAre.of_sorted hC (fun _ => rfl) hp hs, hrow3, ?_, hb.grown hg3 hb.size (fun k e => (hrow.lt k e).1)⟩
    rw [hnil]
    constructor
    · rintro rfl; exact List.Perm.eq_nil hp
    · rintro rfl; exact List.Perm.eq_nil hp.symm
  go_enter Tryz.func117, Tryz.ntmps117
  go_wp2_with (first | (go_at_call 146; refine ck.mono ?_; rintro e w' ⟨rfl, rfl⟩) | (go_at_call 145; refine cs.mono ?_; rintro e w' ⟨v, ts, rfl, hK, hrow, hnil, hb⟩))
  go_ret
  exact ⟨v, ts, rfl, hK, ownsRow_base_a hrow (by simp), hnil, ((Below.refl _ w).alloc (Nat.le_refl _) _).trans (hb.mono (by simp))⟩

end Go.Proofs.YtimlgclejaoboaaGreatDoor
