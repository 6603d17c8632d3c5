/- Stage 2's seat: the word behind another one, the project's side. -/
import Derived.Test.YtkdcpnfbpplhdaaDoorTmG
namespace Go.Proofs.YtkdcpnfbpplhdaaDoor
open Go Go.RowKit Go.Ev
open Go.TmM (wordR folR)
set_option maxRecDepth 100000
set_option maxHeartbeats 1000000
/-- A row of bytes that may be written. -/
def RowIs (w : World) (g : Nat) (C : List UInt8) : Prop := ∃ cur fz, w.heap[g]? = some (.cells cur 5 fz) ∧ cur.size ≤ fz.1 ∧ C.length ≤ cur.size ∧ ∀ (j : Nat) (b : UInt8), C[j]? = some b → cur[j]? = some (.int .u8 b.toNat)
theorem RowIs.cell {w : World} {g : Nat} {C : List UInt8} (h : RowIs w g C) {j : Nat} {b : UInt8} (hj : C[j]? = some b) : w.cell? ⟨g, j, none⟩ = some (.int .u8 b.toNat) := by
  obtain ⟨cur, fz, h1, _, _, h4⟩ := h
  exact (cell_of_row w g j cur 5 fz h1).trans (h4 j b hj)
theorem RowIs.free {w : World} {g : Nat} {C : List UInt8} (h : RowIs w g C) {j : Nat} (hj : j < C.length) : w.frozen? ⟨g, j, none⟩ = false := by
  obtain ⟨cur, fz, h1, h2, h3, _⟩ := h
  simp only [World.frozen?, h1]
  obtain ⟨lo, hi⟩ := fz
  simp at h2 ⊢
  omega
theorem RowIs.set {w : World} {g : Nat} {C : List UInt8} (h : RowIs w g C) {j : Nat} (hj : j < C.length) (b : UInt8) : RowIs (w.setCell ⟨g, j, none⟩ (.int .u8 b.toNat)) g (C.set j b) := by
  obtain ⟨cur, fz, h1, h2, h3, h4⟩ := h
  rw [setCell_eq_setRow w g j cur 5 fz _ h1]
  refine ⟨_, fz, setRow_heap w g cur _ 5 fz h1, by simpa using h2, by simpa using h3, fun i x hi => ?_⟩
  rw [List.getElem?_set] at hi
  rw [Array.getElem?_setIfInBounds]
  by_cases hji : j = i
  · subst hji
    rw [if_pos rfl, if_pos hj] at hi
    cases hi
    rw [if_pos rfl, if_pos (by omega)]
  · rw [if_neg hji] at hi
    rw [if_neg hji]
    exact h4 i x hi
theorem RowIs.conv {w : World} {g : Nat} {C : List UInt8} (h : RowIs w g C) {k : Nat} (hk : C.length = k) (c : Nat) : (convert 83 9 (.slice (some ⟨g, 0, none⟩) k c)).run Tryd.prog w = .ok (.string ⟨C.toArray⟩) w := by
  subst hk
  refine run_convert_bytes_back w 83 9 5 ⟨g, 0, none⟩ c C Tryd.underlying83 Tryd.underlying5 Tryd.underlying9 fun j hj => ?_
  rw [show (⟨g, 0, none⟩ : Addr).add j = ⟨g, j, none⟩ by unfold Addr.add; by_cases h0 : j = 0 <;> simp [h0]]
  exact h.cell (List.getElem?_eq_getElem hj)
/-- The row where t letters are done. -/
def rowT (R : List UInt8) (t : Nat) : List UInt8 := (R.drop t).reverse ++ List.replicate t 97
theorem rowT_len {R : List UInt8} {t : Nat} (h : t ≤ R.length) : (rowT R t).length = R.length := by
  unfold rowT
  simp
  omega
theorem rowT_at {R : List UInt8} {t i : Nat} {b : UInt8} (h : t + i + 1 = R.length) (hb : R[t]? = some b) : rowT R t = (R.drop (t + 1)).reverse ++ b :: List.replicate t 97 ∧ (R.drop (t + 1)).reverse.length = i := by
  have ht : t < R.length := by omega
  have e : R.drop t = b :: R.drop (t + 1) := by
    rw [List.drop_eq_getElem_cons ht]
    rw [List.getElem?_eq_getElem ht] at hb
    simp only [Option.some.injEq] at hb
    rw [hb]
  constructor
  · unfold rowT
    rw [e]
    simp
  · simp
    omega
theorem rowT_get {R : List UInt8} {t i : Nat} {b : UInt8} (h : t + i + 1 = R.length) (hb : R[t]? = some b) : (rowT R t)[i]? = some b := by
  obtain ⟨e, hl⟩ := rowT_at h hb
  rw [e, List.getElem?_append_right (by omega), hl]
  simp
theorem rowT_set {R : List UInt8} {t i : Nat} {b : UInt8} (c : UInt8) (h : t + i + 1 = R.length) (hb : R[t]? = some b) : (rowT R t).set i c = (R.drop (t + 1)).reverse ++ c :: List.replicate t 97 := by
  obtain ⟨e, hl⟩ := rowT_at h hb
  rw [e, List.set_append_right _ _ (by omega), hl]
  simp
theorem rowT_next {R : List UInt8} {t i : Nat} {b : UInt8} (h : t + i + 1 = R.length) (hb : R[t]? = some b) : (rowT R t).set i 97 = rowT R (t + 1) := by
  rw [rowT_set 97 h hb]
  unfold rowT
  rw [List.replicate_succ]
/-- What has been seen so far. -/
def SeenT (R : List UInt8) (t : Nat) : Prop := folR R = List.replicate t 97 ++ folR (R.drop t)
theorem seen_next {R : List UInt8} {t i : Nat} {b : UInt8} (hs : SeenT R t) (h : t + i + 1 = R.length) (hb : R[t]? = some b) (hz : ¬ b < 122) : SeenT R (t + 1) := by
  have ht : t < R.length := by omega
  have e : R.drop t = b :: R.drop (t + 1) := by
    rw [List.drop_eq_getElem_cons ht]
    rw [List.getElem?_eq_getElem ht] at hb
    simp only [Option.some.injEq] at hb
    rw [hb]
  unfold SeenT at hs ⊢
  rw [hs, e]
  show List.replicate t 97 ++ folR (b :: R.drop (t + 1)) = _
  rw [folR, if_neg hz, List.replicate_succ']
  simp
theorem seen_end {R : List UInt8} {t i : Nat} {b : UInt8} (hs : SeenT R t) (h : t + i + 1 = R.length) (hb : R[t]? = some b) (hz : b < 122) : (folR R).reverse = (rowT R t).set i (b + 1) := by
  have ht : t < R.length := by omega
  have e : R.drop t = b :: R.drop (t + 1) := by
    rw [List.drop_eq_getElem_cons ht]
    rw [List.getElem?_eq_getElem ht] at hb
    simp only [Option.some.injEq] at hb
    rw [hb]
  unfold SeenT at hs
  rw [hs, e, rowT_set _ h hb, folR, if_pos hz]
  simp
theorem seen_all {R : List UInt8} (hs : SeenT R R.length) : (folR R).reverse = 97 :: rowT R R.length := by
  unfold SeenT at hs
  unfold rowT
  rw [hs, List.drop_length]
  simp [folR]
theorem following_any (n : Nat) (h1 : 1 ≤ n) (hn : n ≤ 3999999) (w : World) : Calls Tryd.prog 29 #[.string (wordS n)] w (WordIs (n + 1) w) := by
  obtain ⟨c, W1, hc, hle, hb, hbel, cur, fz, hh, hfz, hcs⟩ := bytes_new (wordS n) w
  have hk5 := TmM.wordR_len n (by omega)
  have hkp := wordR_pos n h1
  have hfol := Lib.hid (TmM.folR_word n)
  have hrow : RowIs W1 w.heap.size (rowT (wordR n) 0) := by
    have e0 : rowT (wordR n) 0 = (wordS n).toList := by rw [wordS_list]; unfold rowT; simp
    rw [e0]
    refine ⟨cur, fz, hh, hfz, by rw [size_toList]; exact hcs, fun j b hj => ?_⟩
    have := hb j b hj
    rwa [cell_of_row W1 _ j cur 5 fz hh] at this
  have hw : Hid (wordS (n + 1) = ⟨(folR (wordR n)).reverse.toArray⟩) := Lib.hid (by rw [hfol.out]; rfl)
  rw [wordS_size] at hc
  obtain ⟨R, hR⟩ : ∃ R, Hid (wordR n = R) := ⟨_, Lib.hid rfl⟩
  obtain ⟨S, hS⟩ : ∃ S, Hid (wordS n = S) := ⟨_, Lib.hid rfl⟩
  rw [hR.out] at hc hk5 hkp hrow hw
  rw [hS.out] at hc ⊢
  obtain ⟨k, hkk⟩ : ∃ k, Hid (R.length = k) := ⟨_, Lib.hid rfl⟩
  rw [hkk.out] at hc hk5 hkp
  clear hb hh hfz hcs hle
  obtain ⟨k0, rfl⟩ : ∃ k0, k = k0 + 1 := ⟨k - 1, by omega⟩
  have w0 : IntKind.i64.wrap (((k0 + 1 : Nat) : Int) - 1) = (k0 : Int) := by rw [Int.natCast_add, Int.natCast_one, Int.add_sub_cancel]; exact IntWalk.i64_in _ (by omega)
  go_enter Tryd.func29, Tryd.ntmps29
  go_wp2
  go_loopw [4] (fun u4 wr => Below w.heap.size w wr ∧ ((∃ t i : Nat, t + i + 1 = k0 + 1 ∧ u4 = .int .i64 (i : Int) ∧ RowIs wr w.heap.size (rowT R t) ∧ Hid (SeenT R t)) ∨ (u4 = .int .i64 (-1) ∧ RowIs wr w.heap.size (rowT R (k0 + 1)) ∧ Hid (SeenT R (k0 + 1))))) (fun u4 _ => (intOf u4 + 1).toNat)
  case atStart => exact ⟨hbel, .inl ⟨0, k0, by omega, rfl, hrow, Lib.hid (by unfold SeenT; simp)⟩⟩
  case round =>
    obtain ⟨hbw, hcase⟩ := hrel
    clear hrow hbel hc
    rcases hcase with ⟨t, i, hti, rfl, hr, hs⟩ | ⟨rfl, hr, hs⟩
    · have htR : t + i + 1 = R.length := by rw [hkk.out]; exact hti
      obtain ⟨b, hbt⟩ : ∃ b, R[t]? = some b := ⟨_, List.getElem?_eq_getElem (by omega)⟩
      have hlen := rowT_len (R := R) (t := t) (by omega)
      have hil : i < (rowT R t).length := by omega
      have hcell := hr.cell (rowT_get htR hbt)
      have hfr := hr.free hil
      have i1 : (i : Int) < (k0 : Int) + 1 := by omega
      have i0 : (0 : Int) ≤ (i : Int) := by omega
      have i2 : IntKind.i64.wrap ((i : Int) - 1) = (i : Int) - 1 := IntWalk.i64_in _ (by omega)
      have HT := Lib.hid htR
      have HB := Lib.hid hbt
      have HI := Lib.hid hti
      clear htR hbt hti
      by_cases hz : b < 122
      · have hzn : b.toNat < 122 := by
          rw [UInt8.lt_iff_toNat_lt] at hz
          exact hz
        have hzi : (b.toNat : Int) < 122 := by omega
        have hb1 : (b + 1).toNat = b.toNat + 1 := by
          rw [UInt8.toNat_add]
          show (b.toNat + 1) % 256 = _
          omega
        have w5 : ((b + 1).toNat : Int) = (b.toNat : Int) + 1 := by
          rw [hb1]
          omega
        have hset := hr.set hil (b + 1)
        rw [w5] at hset
        have hcv := hset.conv (k := k0 + 1) (by rw [List.length_set, hlen]; exact hkk.out) c
        have HZ := Lib.hid hz
        clear hz hset hlen hil hb1 w5
        go_wp2
        go_ret
        refine ⟨?_, hbw.setCell (Nat.le_refl _) _⟩
        rw [hw.out, seen_end hs.out HT.out HB.out HZ.out]
        rfl
      · have hzn : ¬ b.toNat < 122 := by
          rw [UInt8.lt_iff_toNat_lt] at hz
          exact hz
        have hzi : ¬ ((b.toNat : Int) < 122) := by omega
        have hset : RowIs (wr.setCell ⟨w.heap.size, i, none⟩ (.int .u8 97)) w.heap.size (rowT R (t + 1)) := by
          have := hr.set hil 97
          rw [rowT_next HT.out HB.out] at this
          exact this
        have hs2 := Lib.hid (seen_next hs.out HT.out HB.out hz)
        have hset := Lib.hid hset
        clear hz hlen hil hzn
        go_wp2
        go_roundw
        case rel =>
          refine ⟨hbw.setCell (Nat.le_refl _) _, ?_⟩
          rcases i with _ | i'
          · have := HI.out
            obtain rfl : t = k0 := by omega
            exact .inr ⟨by go_num, hset.out, hs2⟩
          · exact .inl ⟨t + 1, i', by have := HI.out; omega, by go_num, hset.out, hs2⟩
        case measure => simp [intOf]
    · have hcv := hr.conv (k := k0 + 1) (by rw [rowT_len (by have := hkk.out; omega)]; exact hkk.out) c
      have hlen := rowT_len (R := R) (t := k0 + 1) (by have := hkk.out; omega)
      have hw2 : (⟨#[97]⟩ : ByteArray) ++ ⟨(rowT R (k0 + 1)).toArray⟩ = wordS (n + 1) := by
        have := hs.out
        rw [← hkk.out] at this ⊢
        rw [hw.out, seen_all this]
        apply ByteArray.ext
        simp
      have hz1 : (⟨(rowT R (k0 + 1)).toArray⟩ : ByteArray).size ≤ 5 := by
        show (rowT R (k0 + 1)).toArray.size ≤ 5
        rw [List.size_toArray, hlen, hkk.out]
        exact hk5
      have hz2 : ¬ (9223372036854775807 < 1 + R.length) := by have := hkk.out; omega
      clear hz1
      go_wp2
      go_ret
      exact ⟨rfl, hbw⟩
end Go.Proofs.YtkdcpnfbpplhdaaDoor
