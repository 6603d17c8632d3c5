/- Stage 2's seat: lists of strings; names, the specification's side. -/
import Derived.Test.YtkdcpnfbpplhdaaDoorTmD
namespace Go.Proofs.YtkdcpnfbpplhdaaDoor
open Go Go.RowKit Go.Ev
set_option maxRecDepth 100000
set_option maxHeartbeats 1000000
/-- A slice of strings. -/
def StrAt (w : World) (v : Value) (l : List ByteArray) : Prop := ∃ A c, v = .slice A l.length c ∧ (0 < l.length → ∃ g o, A = some ⟨g, o, none⟩ ∧ g < w.heap.size ∧ ∀ (i : Nat) (s : ByteArray), l[i]? = some s → w.cell? ⟨g, o + i, none⟩ = some (.string s))
theorem StrAt.below {w w' : World} {B : Nat} {v : Value} {l : List ByteArray} (h : StrAt w v l) (hb : Below B w w') (hB : w.heap.size ≤ B) : StrAt w' v l := by
  obtain ⟨A, c, rfl, h⟩ := h
  refine ⟨A, c, rfl, fun h0 => ?_⟩
  obtain ⟨g, o, rfl, hg, hx⟩ := h h0
  exact ⟨g, o, rfl, by have := hb.size; omega, fun i s hs => (hb.cell (p := ⟨g, o + i, none⟩) (by show g < B; omega)).trans (hx i s hs)⟩
/-- Whether a string is one of a list. -/
def hasB (l : List ByteArray) (s : ByteArray) : Bool := l.any fun x => x.toList == s.toList
def IdxIs (l : List ByteArray) (s : ByteArray) (w : World) (e : Ending) (w' : World) : Prop := ∃ i : Int, e = .returned (.int .i64 i) ∧ ((hasB l s = true ∧ 0 ≤ i) ∨ (hasB l s = false ∧ i = -1)) ∧ w' = w
theorem index_any (v : Value) (l : List ByteArray) (s : ByteArray) (w : World) (h : StrAt w v l) (hl : l.length ≤ 9223372036854775807) : Calls Tryd.prog 51 #[v, .string s] w (IdxIs l s w) := by
  obtain ⟨A, c, rfl, hx⟩ := h
  obtain ⟨n, hn⟩ : ∃ n, Hid (l.length = n) := ⟨_, Lib.hid rfl⟩
  rw [hn.out] at hx hl ⊢
  go_enter Tryd.func51, Tryd.ntmps51
  go_wp2
  go_loop [5] (fun u3 => ∃ k : Nat, k ≤ n ∧ u3 = .int .i64 k ∧ Hid (hasB (l.take k) s = false)) (fun u3 => n - (intOf u3).toNat)
  case atStart => exact ⟨0, by omega, rfl, Lib.hid rfl⟩
  case round =>
    obtain ⟨k, hk, rfl, hno⟩ := hrel
    by_cases hlt : k < n
    · obtain ⟨g, o, rfl, hg, hc⟩ := hx (by omega)
      obtain ⟨x, hxx⟩ : ∃ x, l[k]? = some x := ⟨_, List.getElem?_eq_getElem (by have := hn.out; omega)⟩
      have hcell := hc k x hxx
      have HX := Lib.hid hxx
      clear hxx hc
      by_cases hq : (x.toList == s.toList) = true
      · go_wp2
        go_ret
        exact ⟨k, rfl, .inl ⟨List.any_eq_true.2 ⟨x, List.mem_of_getElem? HX.out, hq⟩, by omega⟩, rfl⟩
      · have hq0 : (x.toList == s.toList) = false := by simpa using hq
        clear hq
        go_wp2
        go_round
        case rel =>
          refine ⟨k + 1, by omega, by go_num, Lib.hid ?_⟩
          unfold hasB
          rw [List.take_add_one, List.any_append, show (l.take k).any (fun x => x.toList == s.toList) = false from hno.out, HX.out]
          simp [hq0]
        case measure => simp [intOf]; omega
    · have hkn : k = n := by omega
      have HK := Lib.hid hkn
      clear hkn
      go_wp2
      go_ret
      have := hno.out
      rw [HK.out, ← hn.out, List.take_length] at this
      exact ⟨-1, rfl, .inr ⟨this, rfl⟩, rfl⟩
theorem has_any (v : Value) (l : List ByteArray) (s : ByteArray) (w : World) (h : StrAt w v l) (hl : l.length ≤ 9223372036854775807) : Calls Tryd.prog 27 #[v, .string s] w fun e w' => e = .returned (.bool (hasB l s)) ∧ w' = w := by
  have c := index_any v l s w h hl
  go_enter Tryd.func27, Tryd.ntmps27
  go_wp2_with fail
  refine c.mono ?_
  rintro e w1 ⟨i, rfl, hi, rfl⟩
  rcases hi with ⟨hb, hi⟩ | ⟨hb, rfl⟩
  · have HB := Lib.hid hb
    clear hb
    go_wp2
    go_ret
    exact ⟨by rw [HB.out]; rfl, rfl⟩
  · have HB := Lib.hid hb
    clear hb
    go_wp2
    go_ret
    exact ⟨by rw [HB.out]; rfl, rfl⟩
def kwS : List ByteArray := kw.map fun b => ⟨b.toArray⟩
theorem kwS_has (s : ByteArray) : hasB kwS s = kwB s := by
  unfold hasB kwS kwB
  rw [List.any_map]
  congr 1
  funext b
  show ((⟨b.toArray⟩ : ByteArray).toList == s.toList) = (b == s.toList)
  rw [ByteArray.toList_eq]
theorem strAt_new (l : List ByteArray) (w : World) (e : TypeId) : StrAt (w.alloc (.cells (l.map Value.string).toArray e)) (.slice (some ⟨w.heap.size, 0, none⟩) l.length l.length) l := by
  refine ⟨_, _, rfl, fun _ => ⟨w.heap.size, 0, rfl, by simp, fun i s hs => ?_⟩⟩
  rw [Nat.zero_add]
  refine (cell_of_row _ _ i _ e _ (heap_alloc_new w _)).trans ?_
  simp [hs]
theorem keywords_any (w : World) : Calls Tryd.prog 28 #[] w fun e w' => ∃ v, e = .returned v ∧ StrAt w' v kwS ∧ Below w.heap.size w w' := by
  go_enter Tryd.func28, Tryd.ntmps28
  go_wp2
  go_ret
  exact ⟨_, rfl, strAt_new kwS w 9, (Below.refl _ _).alloc (Nat.le_refl _) _⟩
theorem refName_any (s : ByteArray) (w : World) (hs : s.size ≤ 9223372036854775807) : Calls Tryd.prog 8 #[.string s] w fun e w' => e = .returned (.bool (nameB s)) ∧ Below w.heap.size w w' := by
  obtain ⟨n, hnn⟩ : ∃ n, Hid (s.size = n) := ⟨_, Lib.hid rfl⟩
  have HL : Hid (nameB s = (decide (1 ≤ n) && (decide (n ≤ 8) && (lettersB s && !kwB s)))) := Lib.hid (by rw [← hnn.out]; rfl)
  have hn := Lib.hid (size_toList s)
  go_enter Tryd.func8, Tryd.ntmps8
  by_cases a1 : 1 ≤ n
  · by_cases a2 : n ≤ 8
    · have b1 : ¬ ((s.size : Int) < 1) := by rw [hnn.out]; omega
      have b2 : ¬ (8 < (s.size : Int)) := by rw [hnn.out]; omega
      have b3 : s.size = n := hnn.out
      go_wp2_with fail
      refine (keywords_any w).mono ?_
      rintro e w1 ⟨v, rfl, hv, k1⟩
      have ch := has_any v kwS s w1 hv (by show 34 ≤ _; omega)
      rw [kwS_has] at ch
      cases hk : kwB s with
      | true =>
        rw [hk] at ch
        have HKB := Lib.hid hk
        clear hk
        go_wp2_with fail
        refine ch.mono ?_
        rintro e w2 ⟨rfl, rfl⟩
        go_wp2
        go_ret
        refine ⟨?_, k1⟩
        rw [HL.out, HKB.out, decide_eq_true a1, decide_eq_true a2, Bool.not_true, Bool.and_false]
        rfl
      | false =>
        rw [hk] at ch
        have HKB := Lib.hid hk
        clear hk
        go_wp2_with fail
        refine ch.mono ?_
        rintro e w2 ⟨rfl, rfl⟩
        go_wp2
        go_loop [3] (fun u3 => ∃ k : Nat, k ≤ n ∧ u3 = .int .i64 k ∧ Hid ((s.toList.take k).all letterB = true)) (fun u3 => n - (intOf u3).toNat)
        case atStart => exact ⟨0, by omega, rfl, Lib.hid rfl⟩
        case round =>
          obtain ⟨k, hk, rfl, hno⟩ := hrel
          by_cases hlt : k < n
          · have hlt2 : k < s.size := by rw [hnn.out]; exact hlt
            obtain ⟨b, hx⟩ : ∃ b, s.toList[k]? = some b := ⟨_, List.getElem?_eq_getElem (by rw [hn.out]; exact hlt2)⟩
            have hbk : s[k] = b := by
              have h2 := hx
              rw [List.getElem?_eq_getElem (by rw [hn.out]; exact hlt2)] at h2
              simp only [Option.some.injEq] at h2
              rw [← h2]
              simp [ByteArray.toList_eq]
              rfl
            have HB := Lib.hid hx
            clear hx
            by_cases h1 : (b.toNat : Int) < 97
            · go_wp2
              go_ret
              refine ⟨?_, k1⟩
              have : lettersB s = false := List.all_eq_false.2 ⟨b, List.mem_of_getElem? HB.out, by unfold letterB; simp; omega⟩
              rw [HL.out, this, Bool.false_and, Bool.and_false, Bool.and_false]
              rfl
            · by_cases h2 : (122 : Int) < (b.toNat : Int)
              · go_wp2
                go_ret
                refine ⟨?_, k1⟩
                have : lettersB s = false := List.all_eq_false.2 ⟨b, List.mem_of_getElem? HB.out, by unfold letterB; simp; omega⟩
                rw [HL.out, this, Bool.false_and, Bool.and_false, Bool.and_false]
                rfl
              · go_wp2
                go_round
                case rel =>
                  refine ⟨k + 1, by omega, by go_num, Lib.hid ?_⟩
                  rw [List.take_add_one, List.all_append, hno.out, HB.out]
                  have : letterB b = true := by unfold letterB; simp; omega
                  simp [this]
                case measure => simp [intOf]; omega
          · have hkn : k = n := by omega
            have HK := Lib.hid hkn
            clear hkn
            go_wp2
            go_ret
            refine ⟨?_, k1⟩
            have := hno.out
            rw [HK.out, ← hnn.out, ← hn.out, List.take_length] at this
            rw [HL.out, HKB.out, show lettersB s = true from this, decide_eq_true a1, decide_eq_true a2]
            rfl
    · have b1 : ¬ ((s.size : Int) < 1) := by rw [hnn.out]; omega
      have b2 : (8 : Int) < (s.size : Int) := by rw [hnn.out]; omega
      go_wp2
      go_ret
      refine ⟨?_, Below.refl _ _⟩
      rw [HL.out, decide_eq_true a1, decide_eq_false a2]
      rfl
  · have b1 : (s.size : Int) < 1 := by rw [hnn.out]; omega
    go_wp2
    go_ret
    refine ⟨?_, Below.refl _ _⟩
    rw [HL.out, decide_eq_false a1]
    rfl
end Go.Proofs.YtkdcpnfbpplhdaaDoor
