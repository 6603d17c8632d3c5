/- Stage 2's seat: strings of letters, and names, the project's side. -/
import Derived.Test.YtkdcpnfbpplhdaaDoorTmC
namespace Go.Proofs.YtkdcpnfbpplhdaaDoor
open Go Go.RowKit Go.Ev
set_option maxRecDepth 100000
set_option maxHeartbeats 1000000
/-- The bytes of a string in a new row. -/
def BytesAt (W : World) (g : Nat) (s : ByteArray) : Prop := ∀ (j : Nat) (b : UInt8), s.toList[j]? = some b → W.cell? ⟨g, j, none⟩ = some (.int .u8 b.toNat)
theorem size_toList (s : ByteArray) : s.toList.length = s.size := by rw [ByteArray.toList_eq, Array.length_toList]; rfl
theorem bytes_new (s : ByteArray) (w : World) : ∃ (c : Nat) (W1 : World), (convert 9 83 (.string s)).run Tryd.prog w = .ok (.slice (some ⟨w.heap.size, 0, none⟩) s.size c) W1 ∧ s.size ≤ c ∧ BytesAt W1 w.heap.size s ∧ Below w.heap.size w W1 ∧
    ∃ cur fz, W1.heap[w.heap.size]? = some (.cells cur 5 fz) ∧ cur.size ≤ fz.1 ∧ s.size ≤ cur.size := by
  have h := run_bytes_of_string (P := Tryd.prog) w 9 83 5 s Tryd.underlying9 Tryd.underlying83 Tryd.underlying5
  have hge := grownCap_ge w s.size 0 5
  have hrow : (bytesRow s (grownCap w s.size 0 5)).toList = (s.data.toList.map fun c => Value.int .u8 c.toNat) ++ List.replicate (grownCap w s.size 0 5 - s.size) (.int .u8 0) := by
    simp [bytesRow]
  have hl : s.data.toList.length = s.size := by rw [Array.length_toList]; rfl
  have hsz : (bytesRow s (grownCap w s.size 0 5)).size = grownCap w s.size 0 5 := by
    rw [← Array.length_toList, hrow]
    simp only [List.length_append, List.length_map, List.length_replicate, hl]
    omega
  refine ⟨_, _, h, hge, fun j b hj => ?_, (show Below w.heap.size w w.drew from (Below.refl _ _).drew).alloc (Nat.le_refl _) _, _, _, heap_alloc_new w.drew _, Nat.le_refl _, by omega⟩
  rw [ByteArray.toList_eq] at hj
  have hjl : j < s.data.toList.length := (List.getElem?_eq_some_iff.1 hj).1
  have : (bytesRow s (grownCap w s.size 0 5))[j]? = some (.int .u8 b.toNat) := by
    rw [← Array.getElem?_toList, hrow, List.getElem?_append_left (by simpa using hjl), List.getElem?_map, hj]
    rfl
  exact (cell_of_row _ _ j _ 5 _ (heap_alloc_new w.drew _)).trans this
theorem letters_any (s : ByteArray) (w : World) (hs : s.size ≤ 8) : Calls Tryd.prog 25 #[.string s] w fun e w' => e = .returned (.bool (lettersB s)) ∧ Below w.heap.size w w' := by
  obtain ⟨c, W1, hc, hle, hb, hbel, _⟩ := bytes_new s w
  have hn := Lib.hid (size_toList s)
  obtain ⟨n, hnn⟩ : ∃ n, Hid (s.size = n) := ⟨_, Lib.hid rfl⟩
  rw [hnn.out] at hc hle hs hn
  go_enter Tryd.func25, Tryd.ntmps25
  go_wp2
  go_loop [8] (fun u8 => ∃ k : Nat, k ≤ n ∧ u8 = .int .i64 k ∧ Hid ((s.toList.take k).all letterB = true)) (fun u8 => n - (intOf u8).toNat)
  case atStart => exact ⟨0, by omega, rfl, Lib.hid rfl⟩
  case round =>
    obtain ⟨k, hk, rfl, hno⟩ := hrel
    by_cases hlt : k < n
    · obtain ⟨b, hx⟩ : ∃ b, s.toList[k]? = some b := ⟨_, List.getElem?_eq_getElem (by rw [hn.out]; exact hlt)⟩
      have hcell := hb k b hx
      have HB := Lib.hid hx
      clear hx hc
      by_cases h1 : (b.toNat : Int) < 97
      · go_wp2
        go_ret
        refine ⟨?_, hbel⟩
        have : lettersB s = false := List.all_eq_false.2 ⟨b, List.mem_of_getElem? HB.out, by unfold letterB; simp; omega⟩
        rw [this]
        rfl
      · by_cases h2 : (122 : Int) < (b.toNat : Int)
        · go_wp2
          go_ret
          refine ⟨?_, hbel⟩
          have : lettersB s = false := List.all_eq_false.2 ⟨b, List.mem_of_getElem? HB.out, by unfold letterB; simp; omega⟩
          rw [this]
          rfl
        · go_wp2
          go_round
          case rel =>
            refine ⟨k + 1, by omega, by go_num, Lib.hid ?_⟩
            rw [List.take_add_one, List.all_append, hno.out, HB.out]
            have : letterB b = true := by unfold letterB; simp; omega
            simp [this]
          case measure => simp [intOf]; omega
    · have hkn : k = n := by omega
      have HK := Lib.hid hkn
      clear hkn hc
      go_wp2
      go_ret
      refine ⟨?_, hbel⟩
      have := hno.out
      rw [HK.out, ← hn.out, List.take_length] at this
      rw [show lettersB s = true from this]
      rfl
theorem name_any (s : ByteArray) (w : World) (hT : TabsIn tabs w) (h1 : 1 ≤ w.heap.size) (_hs : s.size ≤ 9223372036854775807) : Calls Tryd.prog 7 #[.string s] w fun e w' => e = .returned (.bool (nameB s)) ∧ Below w.heap.size w w' := by
  obtain ⟨n, hnn⟩ : ∃ n, Hid (s.size = n) := ⟨_, Lib.hid rfl⟩
  have hlen : nameB s = (decide (1 ≤ n) && (decide (n ≤ 8) && (lettersB s && !kwB s))) := by rw [← hnn.out]; rfl
  have HL := Lib.hid hlen
  clear hlen
  have hsz : ∀ x : Int, x = (s.size : Int) → x = (n : Int) := fun x hx => by rw [hx, hnn.out]
  go_enter Tryd.func7, Tryd.ntmps7
  by_cases a1 : 1 ≤ n
  · by_cases a2 : n ≤ 8
    · have cl := letters_any s w (by rw [hnn.out]; exact a2)
      have b1 : (1 : Int) ≤ (s.size : Int) := by rw [hnn.out]; omega
      have b2 : (s.size : Int) ≤ 8 := by rw [hnn.out]; omega
      cases hl : lettersB s with
      | true =>
        rw [hl] at cl
        have HLB := Lib.hid hl
        clear hl
        go_wp2_with fail
        refine cl.mono ?_
        rintro e w1 ⟨rfl, k1⟩
        have ck := isKeyword_any s w1 (hT.below k1 (fun t ht => by simp [tabs] at ht; subst ht; exact h1))
        cases hk : kwB s with
        | true =>
          rw [hk] at ck
          have HKB := Lib.hid hk
          clear hk
          go_wp2_with fail
          refine ck.mono ?_
          rintro e w2 ⟨rfl, rfl⟩
          go_wp2
          go_ret
          refine ⟨?_, k1⟩
          rw [HL.out, HLB.out, HKB.out, decide_eq_true a1, decide_eq_true a2]
          rfl
        | false =>
          rw [hk] at ck
          have HKB := Lib.hid hk
          clear hk
          go_wp2_with fail
          refine ck.mono ?_
          rintro e w2 ⟨rfl, rfl⟩
          go_wp2
          go_ret
          refine ⟨?_, k1⟩
          rw [HL.out, HLB.out, HKB.out, decide_eq_true a1, decide_eq_true a2]
          rfl
      | false =>
        rw [hl] at cl
        have HLB := Lib.hid hl
        clear hl
        go_wp2_with fail
        refine cl.mono ?_
        rintro e w1 ⟨rfl, k1⟩
        go_wp2
        go_ret
        refine ⟨?_, k1⟩
        rw [HL.out, HLB.out, decide_eq_true a1, decide_eq_true a2]
        rfl
    · have b1 : (1 : Int) ≤ (s.size : Int) := by rw [hnn.out]; omega
      have b2 : ¬ ((s.size : Int) ≤ 8) := by rw [hnn.out]; omega
      go_wp2
      go_ret
      refine ⟨?_, Below.refl _ _⟩
      rw [HL.out, decide_eq_true a1, decide_eq_false a2]
      rfl
  · have b1 : ¬ ((1 : Int) ≤ (s.size : Int)) := by rw [hnn.out]; omega
    go_wp2
    go_ret
    refine ⟨?_, Below.refl _ _⟩
    rw [HL.out, decide_eq_false a1]
    rfl
end Go.Proofs.YtkdcpnfbpplhdaaDoor
