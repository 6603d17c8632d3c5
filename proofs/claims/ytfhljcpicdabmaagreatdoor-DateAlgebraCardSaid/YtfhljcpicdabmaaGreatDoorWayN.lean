/- The mathematics of chains: turned round, with the same, never empty, sound for all spans. -/
import Derived.Test.YtfhljcpicdabmaaGreatDoorWayM
namespace Go.WayM

theorem wl_turn (a b c d : Int) (h1 : a < b) (h2 : c < d) : wl a b c d + wl c d a b = 14 := by
  unfold wl
  repeat' split
  all_goals omega

/-- How many of some numbers are less than one. -/
def rank (l : List Int) (x : Int) : Nat := (l.filter fun e => decide (e < x)).length

theorem rank_le (l : List Int) {x y : Int} (h : x ≤ y) : rank l x ≤ rank l y := by
  induction l with
  | nil => exact Nat.le_refl _
  | cons e l ih =>
    unfold rank at ih ⊢
    simp only [List.filter_cons]
    by_cases h1 : e < x
    · have h2 : e < y := by omega
      simp only [h1, h2, decide_true, if_true, List.length_cons]
      omega
    · by_cases h2 : e < y
      · simp only [h1, h2, decide_true, decide_false, if_true, List.length_cons]
        simp
        omega
      · simp only [h1, h2, decide_false]
        simpa using ih

theorem rank_lt : ∀ (l : List Int) {x y : Int}, x < y → x ∈ l → rank l x < rank l y
  | [], _, _, _, hm => by cases hm
  | e :: l, x, y, h, hm => by
    have hle := rank_le l (Int.le_of_lt h)
    by_cases he : e = x
    · subst he
      have h1 : ¬ e < e := by omega
      unfold rank at hle ⊢
      simp only [List.filter_cons, h, h1, decide_true, decide_false, if_true, List.length_cons]
      simp
      omega
    · have hm' : x ∈ l := by
        rcases List.mem_cons.1 hm with h' | h'
        · exact absurd h'.symm he
        · exact h'
      have ih := rank_lt l h hm'
      unfold rank at ih ⊢
      simp only [List.filter_cons]
      by_cases h1 : e < x
      · have h2 : e < y := by omega
        simp only [h1, h2, decide_true, if_true, List.length_cons]
        omega
      · by_cases h2 : e < y
        · simp only [h1, h2, decide_true, decide_false, if_true, List.length_cons]
          simp
          omega
        · simp only [h1, h2, decide_false]
          simpa using ih

theorem rank_all (l : List Int) (x : Int) (h : x ∈ l) : rank l x < l.length := by
  have h1 : ∃ e ∈ l, ¬ decide (e < x) = true := ⟨x, h, by simp⟩
  unfold rank
  exact List.length_filter_lt_length_iff_exists.2 h1

theorem rank_iff (l : List Int) {x y : Int} (hx : x ∈ l) (hy : y ∈ l) : ((rank l x : Int) < rank l y ↔ x < y) ∧ ((rank l x : Int) = rank l y ↔ x = y) := by
  rcases Int.lt_trichotomy x y with h | h | h
  · have := rank_lt l h hx
    constructor <;> constructor <;> intro <;> omega
  · subst h
    constructor <;> constructor <;> intro <;> omega
  · have := rank_lt l h hy
    constructor <;> constructor <;> intro <;> omega

/-- Ways hang on the order of ends alone. -/
theorem wl_rank (l : List Int) {a b c d : Int} (ha : a ∈ l) (hb : b ∈ l) (hc : c ∈ l) (hd : d ∈ l) : wl (rank l a) (rank l b) (rank l c) (rank l d) = wl a b c d := by
  unfold wl
  simp only [(rank_iff l ha hc).1, (rank_iff l ha hc).2, (rank_iff l hb hd).1, (rank_iff l hb hd).2, (rank_iff l hb hc).1, (rank_iff l hb hc).2, (rank_iff l hd ha).1, (rank_iff l hd ha).2]

theorem small_any : ∀ i : Nat, i < 6 → ∀ j : Nat, j < 6 → i < j → ((small 6).any fun p => decide (p.1 = (i : Int)) && decide (p.2 = (j : Int))) = true := by decide
theorem small_mem (i : Nat) (hi : i < 6) (j : Nat) (hj : j < 6) (h : i < j) : ((i : Int), (j : Int)) ∈ small 6 := by
  have k := small_any i hi j hj h
  rw [List.any_eq_true] at k
  obtain ⟨⟨a, b⟩, hm, k⟩ := k
  rw [Bool.and_eq_true, decide_eq_true_eq, decide_eq_true_eq] at k
  obtain ⟨k1, k2⟩ := k
  have k1 : a = i := k1
  have k2 : b = j := k2
  subst k1; subst k2
  exact hm

theorem follows_mk {v w x : Int} {i j k : Sp} (hi : i ∈ small 6) (hj : j ∈ small 6) (hk : k ∈ small 6) (h1 : W i j = v) (h2 : W j k = w) (h3 : W i k = x) : follows v w x = true := by
  unfold follows
  rw [List.any_eq_true]
  refine ⟨i, hi, ?_⟩
  rw [List.any_eq_true]
  refine ⟨j, hj, ?_⟩
  rw [Bool.and_eq_true, decide_eq_true_eq]
  refine ⟨h1, ?_⟩
  rw [List.any_eq_true]
  refine ⟨k, hk, ?_⟩
  rw [Bool.and_eq_true, decide_eq_true_eq, decide_eq_true_eq]
  exact ⟨h2, h3⟩

theorem follows_out {v w x : Int} (h : follows v w x = true) : ∃ i j k : Sp, i ∈ small 6 ∧ j ∈ small 6 ∧ k ∈ small 6 ∧ W i j = v ∧ W j k = w ∧ W i k = x := by
  unfold follows at h
  rw [List.any_eq_true] at h
  obtain ⟨i, hi, h⟩ := h
  rw [List.any_eq_true] at h
  obtain ⟨j, hj, h⟩ := h
  rw [Bool.and_eq_true, decide_eq_true_eq] at h
  obtain ⟨h1, h⟩ := h
  rw [List.any_eq_true] at h
  obtain ⟨k, hk, h⟩ := h
  rw [Bool.and_eq_true, decide_eq_true_eq, decide_eq_true_eq] at h
  exact ⟨i, j, k, hi, hj, hk, h1, h.1, h.2⟩

theorem small_lt : ∀ p ∈ small 6, p.1 < p.2 := by decide

/-- The way of a first span to a third one is in the chain of those by a second one. -/
theorem follows_any {a b c d e f : Int} (h1 : a < b) (h2 : c < d) (h3 : e < f) : follows (wl a b c d) (wl c d e f) (wl a b e f) = true := by
  have key : ∀ x ∈ [a, b, c, d, e, f], rank [a, b, c, d, e, f] x < 6 := fun x hx => rank_all _ x hx
  have sp : ∀ x y : Int, x ∈ [a, b, c, d, e, f] → y ∈ [a, b, c, d, e, f] → x < y → ((rank [a, b, c, d, e, f] x : Int), (rank [a, b, c, d, e, f] y : Int)) ∈ small 6 :=
    fun x y hx hy h => small_mem _ (key x hx) _ (key y hy) (rank_lt _ h hx)
  exact follows_mk (sp a b (by simp) (by simp) h1) (sp c d (by simp) (by simp) h2) (sp e f (by simp) (by simp) h3)
    (wl_rank _ (by simp) (by simp) (by simp) (by simp)) (wl_rank _ (by simp) (by simp) (by simp) (by simp)) (wl_rank _ (by simp) (by simp) (by simp) (by simp))

theorem W_turn {i j : Sp} (hi : i ∈ small 6) (hj : j ∈ small 6) : W i j + W j i = 14 := wl_turn _ _ _ _ (small_lt i hi) (small_lt j hj)

/-- Turned round, a chain is of both, turned round. -/
theorem follows_turn (v w x : Int) : follows (14 - w) (14 - v) (14 - x) = follows v w x := by
  rw [Bool.eq_iff_iff]
  constructor
  · intro h
    obtain ⟨i, j, k, hi, hj, hk, h1, h2, h3⟩ := follows_out h
    have t1 := W_turn hi hj
    have t2 := W_turn hj hk
    have t3 := W_turn hi hk
    exact follows_mk hk hj hi (by omega) (by omega) (by omega)
  · intro h
    obtain ⟨i, j, k, hi, hj, hk, h1, h2, h3⟩ := follows_out h
    have t1 := W_turn hi hj
    have t2 := W_turn hj hk
    have t3 := W_turn hi hk
    exact follows_mk hk hj hi (by omega) (by omega) (by omega)

theorem wl_same (a b c d : Int) (h : wl a b c d = 7) : a = c ∧ b = d := by
  unfold wl at h
  repeat' split at h
  all_goals omega

/-- For each way there are small spans. -/
theorem way_there : ∀ p : Nat, p < 13 → (small 6).any (fun i => (small 6).any fun j => decide (W i j = (p : Int) + 1)) = true := by decide


theorem chainTo_mem {v w : Int} {n : Nat} {x : Int} : x ∈ chainTo v w n ↔ (1 ≤ x ∧ x ≤ n) ∧ follows v w x = true := by
  unfold chainTo
  rw [List.mem_filter, List.mem_map]
  constructor
  · rintro ⟨⟨k, hk, rfl⟩, h⟩
    rw [List.mem_range] at hk
    exact ⟨by omega, h⟩
  · rintro ⟨h, hf⟩
    exact ⟨⟨(x - 1).toNat, List.mem_range.2 (by omega), by omega⟩, hf⟩
theorem filter_one (p : Int) (f : Int → Bool) : ∀ n : Nat, (∀ k : Nat, k < n → (f ((k + 1 : Nat) : Int) = true ↔ ((k + 1 : Nat) : Int) = p)) →
    (((List.range n).map fun (k : Nat) => ((k + 1 : Nat) : Int)).filter f) = if 1 ≤ p ∧ p ≤ n then [p] else []
  | 0, _ => by
    rw [if_neg (by omega)]
    rfl
  | n + 1, h => by
    have ih := filter_one p f n fun k hk => h k (by omega)
    have hl := h n (by omega)
    rw [List.range_succ, List.map_append, List.filter_append, ih]
    simp only [List.map_cons, List.map_nil, List.filter_cons, List.filter_nil]
    by_cases hp : ((n + 1 : Nat) : Int) = p
    · rw [if_neg (by omega), if_pos (hl.2 hp), if_pos (by omega), hp]
      rfl
    · rw [if_neg (fun hf => hp (hl.1 hf)), List.append_nil]
      by_cases h1 : 1 ≤ p ∧ p ≤ n
      · rw [if_pos h1, if_pos (by omega)]
      · rw [if_neg h1, if_neg (by omega)]
theorem follows_same {p x : Int} (h1 : 1 ≤ p) (h2 : p ≤ 13) : follows p 7 x = true ↔ x = p := by
  constructor
  · intro h
    obtain ⟨i, j, k, hi, hj, hk, e1, e2, e3⟩ := follows_out h
    obtain ⟨e4, e5⟩ := wl_same _ _ _ _ e2
    have : j = k := Prod.ext e4 e5
    rw [← e1, ← e3, this]
  · rintro rfl
    have hw := way_there (x - 1).toNat (by omega)
    rw [List.any_eq_true] at hw
    obtain ⟨i, hi, hw⟩ := hw
    rw [List.any_eq_true] at hw
    obtain ⟨j, hj, hw⟩ := hw
    rw [decide_eq_true_eq] at hw
    have e : W i j = x := by rw [hw]; omega
    refine follows_mk hi hj hj e ?_ e
    have hl := small_lt j hj
    show wl j.1 j.2 j.1 j.2 = 7
    unfold wl
    rw [if_pos rfl, if_pos rfl]
theorem chain_same {p : Int} (h1 : 1 ≤ p) (h2 : p ≤ 13) : chainL p 7 = [p] := by
  have := filter_one p (follows p 7) 13 fun k _ => by
    rw [follows_same h1 h2]
  unfold chainL chainTo
  rw [this, if_pos ⟨h1, by omega⟩]
/-- Behind any span of more than two days there is one of each way. -/
theorem way_next (c d : Int) (h : c + 3 < d) {q : Int} (h1 : 1 ≤ q) (h2 : q ≤ 13) : ∃ e f : Int, e < f ∧ wl c d e f = q := by
  have hq : q = 1 ∨ q = 2 ∨ q = 3 ∨ q = 4 ∨ q = 5 ∨ q = 6 ∨ q = 7 ∨ q = 8 ∨ q = 9 ∨ q = 10 ∨ q = 11 ∨ q = 12 ∨ q = 13 := by omega
  rcases hq with rfl | rfl | rfl | rfl | rfl | rfl | rfl | rfl | rfl | rfl | rfl | rfl | rfl
  · exact ⟨d + 1, d + 2, by omega, by unfold wl; repeat' split
                                      all_goals omega⟩
  · exact ⟨d, d + 2, by omega, by unfold wl; repeat' split
                                  all_goals omega⟩
  · exact ⟨c + 1, d + 2, by omega, by unfold wl; repeat' split
                                      all_goals omega⟩
  · exact ⟨c, d + 2, by omega, by unfold wl; repeat' split
                                  all_goals omega⟩
  · exact ⟨c - 1, d + 2, by omega, by unfold wl; repeat' split
                                      all_goals omega⟩
  · exact ⟨c - 1, d, by omega, by unfold wl; repeat' split
                                  all_goals omega⟩
  · exact ⟨c, d, by omega, by unfold wl; repeat' split
                              all_goals omega⟩
  · exact ⟨c + 1, d, by omega, by unfold wl; repeat' split
                                  all_goals omega⟩
  · exact ⟨c + 1, d - 1, by omega, by unfold wl; repeat' split
                                      all_goals omega⟩
  · exact ⟨c, d - 1, by omega, by unfold wl; repeat' split
                                  all_goals omega⟩
  · exact ⟨c - 1, d - 1, by omega, by unfold wl; repeat' split
                                      all_goals omega⟩
  · exact ⟨c - 1, c, by omega, by unfold wl; repeat' split
                                  all_goals omega⟩
  · exact ⟨c - 2, c - 1, by omega, by unfold wl; repeat' split
                                      all_goals omega⟩
theorem wl_scale (a b c d : Int) : wl (5 * a) (5 * b) (5 * c) (5 * d) = wl a b c d := by
  unfold wl
  repeat' split
  all_goals omega
theorem chain_some {p q : Int} (h1 : 1 ≤ p) (h2 : p ≤ 13) (h3 : 1 ≤ q) (h4 : q ≤ 13) : ∃ x, x ∈ chainL p q := by
  have hw := way_there (p - 1).toNat (by omega)
  rw [List.any_eq_true] at hw
  obtain ⟨i, hi, hw⟩ := hw
  rw [List.any_eq_true] at hw
  obtain ⟨j, hj, hw⟩ := hw
  rw [decide_eq_true_eq] at hw
  have e : wl i.1 i.2 j.1 j.2 = p := by
    show W i j = p
    rw [hw]; omega
  have l1 := small_lt i hi
  have l2 := small_lt j hj
  obtain ⟨a, f, haf, hq⟩ := way_next (5 * j.1) (5 * j.2) (by omega) h3 h4
  have hf := follows_any (a := 5 * i.1) (b := 5 * i.2) (c := 5 * j.1) (d := 5 * j.2) (e := a) (f := f) (by omega) (by omega) haf
  rw [wl_scale, e, hq] at hf
  have hb := wl_bd (5 * i.1) (5 * i.2) a f
  exact ⟨_, chainTo_mem.2 ⟨⟨hb.1, hb.2⟩, hf⟩⟩
theorem chain_has {a b c d e f : Int} (h1 : a < b) (h2 : c < d) (h3 : e < f) : wl a b e f ∈ chainL (wl a b c d) (wl c d e f) :=
  chainTo_mem.2 ⟨wl_bd a b e f, follows_any h1 h2 h3⟩
theorem up_rev (n : Nat) : ((List.range n).map fun (k : Nat) => ((k + 1 : Nat) : Int)).reverse = ((List.range n).map fun (k : Nat) => ((n - k : Nat) : Int)) := by
  apply List.ext_getElem
  · simp
  · intro i h1 h2
    simp at h1 h2 ⊢
    omega
/-- A chain turned round. -/
theorem chain_turn (p q : Int) : chainL (14 - q) (14 - p) = ((chainL p q).map (14 - ·)).reverse := by
  unfold chainL chainTo
  rw [← List.map_reverse, ← List.filter_reverse, up_rev]
  rw [show (fun (k : Nat) => ((13 - k : Nat) : Int)) = fun k => ((13 - k : Nat) : Int) from rfl]
  have e : (((List.range 13).map fun (k : Nat) => ((13 - k : Nat) : Int)).filter (follows p q)).map (14 - ·) = (((List.range 13).map fun (k : Nat) => ((13 - k : Nat) : Int)).map (14 - ·)).filter fun x => follows p q (14 - x) := by
    rw [List.filter_map (f := (14 - ·))]
    congr 1
  rw [e]
  have e2 : (((List.range 13).map fun (k : Nat) => ((13 - k : Nat) : Int)).map ((14 : Int) - ·)) = (List.range 13).map fun (k : Nat) => ((k + 1 : Nat) : Int) := by decide
  rw [e2]
  refine List.filter_congr fun x _ => ?_
  rw [← follows_turn p q (14 - x), show (14 : Int) - (14 - x) = x by omega]
theorem chain_turn_at (p q : Int) (i : Nat) (x : Int) (h : (chainL p q)[i]? = some x) : (chainL (14 - q) (14 - p))[(chainL p q).length - 1 - i]? = some (14 - x) := by
  have hi : i < (chainL p q).length := (List.getElem?_eq_some_iff.1 h).1
  rw [chain_turn, List.getElem?_reverse (by simp; omega), List.length_map, show (chainL p q).length - 1 - ((chainL p q).length - 1 - i) = i by omega, List.getElem?_map, h]
  rfl
theorem chain_turn_len (p q : Int) : (chainL (14 - q) (14 - p)).length = (chainL p q).length := by
  rw [chain_turn]; simp
end Go.WayM
