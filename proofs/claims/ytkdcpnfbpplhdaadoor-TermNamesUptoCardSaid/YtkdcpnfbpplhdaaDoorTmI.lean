/- Stage 2's seat: the first word that is none of some, the project's side. -/
import Derived.Test.YtkdcpnfbpplhdaaDoorTmH
import Derived.Maps.Own
import Derived.Maps.Views
namespace Go.Proofs.YtkdcpnfbpplhdaaDoor
open Go Go.RowKit Go.Ev
open Go.TmM (wordR folR)
set_option maxRecDepth 100000
set_option maxHeartbeats 1000000
abbrev D0 := DataW Unit
def putS (D : D0) (x : ByteArray) : D0 := D.put (.string x.data.toList) (.lit (.bool true))
def setD (l : List ByteArray) : D0 := l.foldl putS (.map [])
theorem set_at (s : ByteArray) (z : D0) : ∀ (l : List ByteArray) (D : D0), Maps.IsMap D → (l.foldl putS D).atKey (.string s.data.toList) z = if hasB l s = true then .lit (.bool true) else D.atKey (.string s.data.toList) z
  | [], D, _ => by simp [hasB]
  | x :: l, D, h => by
    have ih := set_at s z l (putS D x) (h.put _ _)
    rw [List.foldl_cons, ih]
    have e : hasB (x :: l) s = (x.toList == s.toList || hasB l s) := rfl
    rw [e]
    cases hb : hasB l s with
    | true => simp
    | false =>
      rw [if_neg Bool.false_ne_true, Bool.or_false]
      by_cases hq : x.data.toList = s.data.toList
      · have : (x.toList == s.toList) = true := by rw [ByteArray.toList_eq, ByteArray.toList_eq, hq]; simp
        rw [if_pos this]
        unfold putS
        rw [hq]
        exact Maps.atKey_put_same h (show WideAt.IsKeyLit (.string s.data.toList) from trivial) _ _
      · have : ¬ (x.toList == s.toList) = true := by rw [ByteArray.toList_eq, ByteArray.toList_eq]; simpa using hq
        rw [if_neg this]
        unfold putS
        exact Maps.atKey_put_other (fun e => hq (by injection e with e; exact e.symm)) _ _
theorem setD_at (l : List ByteArray) (s : ByteArray) : (setD l).atKey (.string s.data.toList) (.lit (.bool false)) = .lit (.bool (hasB l s)) := by
  unfold setD
  rw [set_at s _ l _ Maps.isMap_empty]
  cases hasB l s with
  | true => rfl
  | false => rfl
theorem setD_next {l : List ByteArray} {k : Nat} {s : ByteArray} (h : l[k]? = some s) : setD (l.take (k + 1)) = (setD (l.take k)).put (.string s.data.toList) (.lit (.bool true)) := by
  unfold setD
  rw [List.take_add_one, h]
  simp [List.foldl_append]
  rfl
theorem ownsMap_below {w w' : World} {b n B : Nat} {D : D0} (h : w.ownsMap Tryd.prog 9 (plainElem Tryd.prog 4) b n D) (hb : Below B w w') (hB : b < B) : w'.ownsMap Tryd.prog 9 (plainElem Tryd.prog 4) b n D := by
  obtain ⟨es, clock, h1, h2⟩ := h
  exact ⟨es, clock, (hb.block b hB).trans h1, h2⟩
theorem plain_bool {v : Value} {b : Bool} {ps : List MemPlace} (h : plainElem (H := Unit) Tryd.prog 4 v = some (.lit (.bool b), ps)) : v = .bool b := by
  unfold plainElem at h
  rw [Tryd.underlying4] at h
  cases v <;> simp_all
theorem look_any {w : World} {g n : Nat} {l : List ByteArray} (h : w.ownsMap Tryd.prog 9 (plainElem Tryd.prog 4) g n (setD l)) (s : ByteArray) (hs : s.size ≤ maxLen) : (Instr.lookup 55 (.map (some g)) (.string s) false).run Tryd.prog w = .ok (.bool (hasB l s)) w := by
  obtain ⟨v, ps, h1, h2⟩ := h.lookup (Maps.string_keyed Tryd.underlying9) Tryd.underlying55 (show (zeroValue 4).run Tryd.prog w = .ok (.bool false) w by simp [Tryd.zeroValue4]) (plainElem_bool Tryd.underlying4 false) (WideMaps.keyOf_string_mk Tryd.underlying9 hs)
  rw [setD_at] at h2
  rw [h1, plain_bool h2]
def idxOf : Value → Nat
  | .string s => TmM.idxR s.toList.reverse
  | _ => 0
theorem idxOf_word (n : Nat) : idxOf (.string (wordS n)) = n := by
  show TmM.idxR (wordS n).toList.reverse = n
  rw [wordS_list, List.reverse_reverse, TmM.idxR_word]
theorem wordS_one : wordS 1 = ⟨#[97]⟩ := by
  unfold wordS
  rw [TmM.wordR_succ, wordR]
  rfl
theorem fresh_any (v : Value) (l : List ByteArray) (N : Nat) (W0 : World) (h : StrAt W0 v l) (hl : l.length ≤ 3000000) (hS : ∀ s ∈ l, s.size ≤ maxLen) (hT : TabsIn tabs W0) (hW : 1 ≤ W0.heap.size) (hN : FirstIs l N) :
    Calls Tryd.prog 9 #[v] W0 fun e w' => e = .returned (.string (wordS N)) ∧ Below W0.heap.size W0 w' := by
  have hN2 : N ≤ 3000035 := by have := hN.2.1; omega
  have hN1 := hN.1
  have HN := Lib.hid hN
  have HS := Lib.hid h
  have HSS := Lib.hid hS
  have HT := Lib.hid hT
  obtain ⟨A, c, rfl, _⟩ := id h
  obtain ⟨n, hn⟩ : ∃ n, Hid (l.length = n) := ⟨_, Lib.hid rfl⟩
  rw [hn.out] at hl HS ⊢
  clear h hN hS hT
  have hm0 : (W0.alloc (.map #[] 0)).ownsMap Tryd.prog 9 (plainElem Tryd.prog 4) W0.heap.size 0 (setD (l.take 0)) := World.ownsMap_made (H := Unit) W0 Tryd.prog 9 _
  have hb0 : Below W0.heap.size W0 (W0.alloc (.map #[] 0)) := (Below.refl _ _).alloc (Nat.le_refl _) _
  have hmk : (Instr.makeMap 55 none).run Tryd.prog W0 = .ok (.map (some W0.heap.size)) (W0.alloc (.map #[] 0)) := by simp [Instr.makeMap]
  go_enter Tryd.func9, Tryd.ntmps9
  go_wp2
  go_loopw [10] (fun u10 wr => ∃ k : Nat, k ≤ n ∧ u10 = .int .i64 k ∧ wr.ownsMap Tryd.prog 9 (plainElem Tryd.prog 4) W0.heap.size k (setD (l.take k)) ∧ Below W0.heap.size W0 wr) (fun u10 _ => n - (intOf u10).toNat)
  case atStart => exact ⟨0, by omega, rfl, hm0, hb0⟩
  case round =>
    obtain ⟨k, hk, rfl, hown, hbw⟩ := hrel
    clear hm0 hb0
    by_cases hlt : k < n
    · obtain ⟨s, hs⟩ : ∃ s, l[k]? = some s := ⟨_, List.getElem?_eq_getElem (by have := hn.out; omega)⟩
      have hsm : s.size ≤ maxLen := HSS.out s (List.mem_of_getElem? hs)
      have hst := HS.out.below hbw (Nat.le_refl _)
      obtain ⟨A', c', he, hc⟩ := hst
      rw [hn.out] at he hc
      injection he with he1 _ he2
      subst he1
      subst he2
      obtain ⟨g, o, rfl, hg, hcc⟩ := hc (by omega)
      have hcell := hcc k s hs
      have hnx := Lib.hid (setD_next hs)
      have b1 : (k : Int) < (n : Int) := by omega
      have b0 : (0 : Int) ≤ (k : Int) := by omega
      have bw : IntKind.i64.wrap ((k : Int) + 1) = (k : Int) + 1 := IntWalk.i64_in _ (by omega)
      clear hcc hs
      go_wp2_with (at_mapUpdate; refine wpList_mapUpdate_own _ rfl (.tmp 14) (.tmp 15) (.const (.bool true)) 55 rfl 9 4 (Maps.string_keyed Tryd.underlying9) Tryd.underlying55 (plainElem Tryd.prog 4) W0.heap.size k _ rfl hown (by unfold maxLen; omega) _ _ (.string s.data.toList) rfl rfl (WideMaps.keyOf_string_mk Tryd.underlying9 hsm) (.lit (.bool true)) [] (plainElem_bool Tryd.underlying4 true) ?_)
      intro w1 hown1 hg1
      rw [← hnx.out] at hown1
      have hbw1 : Below W0.heap.size W0 w1 := hbw.grown hg1 hbw.size (fun q hq => by cases hq; exact Nat.le_refl _)
      clear hown hbw hg1 hcell
      go_wp2
      go_roundw
      case rel => exact ⟨k + 1, by omega, by go_num, hown1, hbw1⟩
      case measure => simp [intOf]; omega
    · have hkn : k = n := by omega
      subst hkn
      rw [← hn.out, List.take_length] at hown
      have hw1 := wordS_one
      have HO := Lib.hid hown
      have HBW := Lib.hid hbw
      clear hown hbw
      go_wp2
      go_loopw [6] (fun u6 wr => ∃ m : Nat, 1 ≤ m ∧ m ≤ N ∧ u6 = .string (wordS m) ∧ Below W0.heap.size W0 wr ∧ wr.ownsMap Tryd.prog 9 (plainElem Tryd.prog 4) W0.heap.size k (setD l)) (fun u6 _ => N + 1 - idxOf u6)
      case atStart => exact ⟨1, by omega, by omega, by rw [hw1], HBW.out, by rw [← hn.out]; exact HO.out⟩
      case round =>
        obtain ⟨m, h1, h2, rfl, hb, ho⟩ := hrel
        have hsz5 : (wordS m).size ≤ 5 := by
          have := wordS_size m
          have := TmM.wordR_len m (by omega)
          omega
        have hlk := look_any ho (wordS m) (by unfold maxLen; omega)
        have c7 := name_any (wordS m) wr (HT.out.below hb (fun t ht => by simp [tabs] at ht; subst ht; exact hW)) (by have := hb.size; omega) (by omega)
        have hlt' : W0.heap.size < wr.heap.size := ho.lt
        have HOW := Lib.hid ho
        have HB := Lib.hid hb
        clear ho hb hw1
        by_cases hmN : m = N
        · subst hmN
          have hg := HN.out.2.2.1
          unfold goodB at hg
          rw [Bool.and_eq_true, Bool.not_eq_true'] at hg
          rw [hg.1] at c7
          rw [hg.2] at hlk
          clear hg
          go_wp2_with fail
          refine c7.mono ?_
          rintro e w2 ⟨rfl, k2⟩
          go_wp2
          go_ret
          exact ⟨rfl, HB.out.trans (k2.mono HB.out.size)⟩
        · have hg := HN.out.2.2.2 m h1 (by omega)
          have c29 := following_any m h1 (by omega)
          have hmN' : m + 1 ≤ N := by omega
          unfold goodB at hg
          cases hhas : hasB l (wordS m) with
          | true =>
            rw [hhas] at hlk
            clear hg hhas
            go_wp2_with fail
            refine (c29 wr).mono ?_
            rintro e w3 ⟨rfl, k3⟩
            go_wp2
            go_roundw
            case rel => exact ⟨m + 1, by omega, hmN', rfl, HB.out.trans (k3.mono HB.out.size), ownsMap_below HOW.out k3 hlt'⟩
            case measure => rw [idxOf_word, idxOf_word]; omega
          | false =>
            rw [hhas, Bool.not_false, Bool.and_true] at hg
            rw [hhas] at hlk
            rw [hg] at c7
            clear hg hhas
            go_wp2_with fail
            refine c7.mono ?_
            rintro e w2 ⟨rfl, k2⟩
            have b2 := HB.out.trans (k2.mono HB.out.size)
            go_wp2_with fail
            refine (c29 w2).mono ?_
            rintro e w3 ⟨rfl, k3⟩
            go_wp2
            go_roundw
            case rel => exact ⟨m + 1, by omega, hmN', rfl, b2.trans (k3.mono b2.size), ownsMap_below (ownsMap_below HOW.out k2 hlt') k3 (by have := k2.size; omega)⟩
            case measure => rw [idxOf_word, idxOf_word]; omega
end Go.Proofs.YtkdcpnfbpplhdaaDoor
