/- Stage 4's seat: lists of bags that a call has made; the parts of a bag. -/
import Derived.Test.YtimlgclejaoboaaGreatDoorBgYp
namespace Go.Proofs.YtimlgclejaoboaaGreatDoor
open Go Go.RowKit Go.RecM
set_option maxRecDepth 100000
set_option maxHeartbeats 1000000

theorem own_belowG {w w' : World} {B n z : Nat} {ty : TypeId} {s : Value} {xs : List Value} (h : w.ownsRow B ty z s n xs) (hb : Below w.heap.size w w') : w'.ownsRow B ty z s n xs := by
  have hg : w.grownBy w' none := ⟨hb.os, hb.tape, hb.output, hb.size, fun i hi _ => hb.block i hi⟩
  refine h.kept hg ?_
  by_cases e : s.ownBlock = none
  · exact .inl e
  · exact .inr e
/-- A slice that owns its row, of slices each of which owns its own. -/
def Outs (B : Nat) (w : World) (v : Value) (ls : List (List It)) : Prop := ∃ vs : List Value, vs.length = ls.length ∧ w.ownsRow B 23 1 v ls.length vs ∧ ∀ (i : Nat) (s : Value) (l : List It), vs[i]? = some s → ls[i]? = some l → w.ownsRow B 33 4 s l.length (l.flatMap encIt)
theorem Outs.nil (B : Nat) (w : World) : Outs B w (.slice none 0 0) [] := ⟨[], rfl, World.ownsRow_nil _ _ _ _, fun i s l h => by simp at h⟩
theorem Outs.below {B : Nat} {w w' : World} {v : Value} {ls : List (List It)} (h : Outs B w v ls) (hb : Below w.heap.size w w') : Outs B w' v ls := by
  obtain ⟨vs, h1, h2, h3⟩ := h
  exact ⟨vs, h1, own_belowG h2 hb, fun i s l hs hl => own_belowG (h3 i s l hs hl) hb⟩
theorem own_ne {B B' n m z z' : Nat} {w : World} {s v : Value} {xs ys : List Value} (h : w.ownsRow B 33 z s n xs) (hv : w.ownsRow B' 23 z' v m ys) : s.ownBlock = none ∨ s.ownBlock ≠ v.ownBlock := by
  rcases h.2 with ⟨rfl, _⟩ | ⟨g, cap, cur, rfl, _, hgb, _⟩
  · exact .inl rfl
  · rcases hv.2 with ⟨rfl, _⟩ | ⟨g', cap', cur', rfl, _, hgb', _⟩
    · exact .inr (by simp [Value.ownBlock])
    · refine .inr (fun e => ?_)
      simp [Value.ownBlock] at e
      subst e
      rw [hgb] at hgb'
      simp at hgb'
theorem Outs.append {B : Nat} {w w' : World} {v v' s : Value} {ls : List (List It)} {l : List It} {vs : List Value} (h1 : vs.length = ls.length) (h2 : w.ownsRow B 23 1 v ls.length vs) (h3 : ∀ (i : Nat) (s : Value) (l : List It), vs[i]? = some s → ls[i]? = some l → w.ownsRow B 33 4 s l.length (l.flatMap encIt))
    (hs : w.ownsRow B 33 4 s l.length (l.flatMap encIt)) (hg : w.grownBy w' v.ownBlock) (hn : w'.ownsRow B 23 1 v' (ls.length + 1) (vs ++ [s])) : Outs B w' v' (ls ++ [l]) := by
  refine ⟨vs ++ [s], by simp [h1], by rw [List.length_append]; exact hn, fun i s' l' hs' hl' => ?_⟩
  by_cases hi : i < ls.length
  · rw [List.getElem?_append_left (by omega)] at hs'
    rw [List.getElem?_append_left hi] at hl'
    have := h3 i s' l' hs' hl'
    exact this.kept hg (own_ne this h2)
  · have hi' : i = ls.length := by
      have := (List.getElem?_eq_some_iff.1 hl').1
      rw [List.length_append, List.length_singleton] at this
      omega
    subst hi'
    rw [List.getElem?_append_right (by omega), h1, Nat.sub_self] at hs'
    rw [List.getElem?_append_right (by omega), Nat.sub_self] at hl'
    simp at hs' hl'
    subst hs' hl'
    exact hs.kept hg (own_ne hs h2)
theorem Outs.bags {B : Nat} {w : World} {v : Value} {ls : List (List It)} (h : Outs B w v ls) : BagsAt w v ls := by
  obtain ⟨vs, h1, h2, h3⟩ := h
  rcases h2.2 with ⟨rfl, h0⟩ | ⟨g, cap, cur, rfl, _, hgb, _, _, _, h4⟩
  · exact ⟨none, 0, by rw [h0], fun h => by omega⟩
  · refine ⟨_, _, rfl, fun _ => ⟨g, 0, rfl, (Array.getElem?_eq_some_iff.1 hgb).1, fun i l hl => ?_⟩⟩
    have hi := (List.getElem?_eq_some_iff.1 hl).1
    obtain ⟨s, hs⟩ : ∃ s, vs[i]? = some s := ⟨_, List.getElem?_eq_getElem (by omega)⟩
    refine ⟨s, ?_, BagAt.of_row (h3 i s l hs hl)⟩
    have h5 : (cur.toList.take (ls.length * 1))[i]? = vs[i]? := by rw [h4]
    rw [List.getElem?_take_of_lt (by omega), hs] at h5
    unfold World.cell?
    simp only [hgb, Nat.zero_add]
    simpa using h5

/-! The parts. -/
def prevAt (ts : List Int) (k : Nat) : Int := match k with | 0 => -9223372036854775808 | j + 1 => ts.getD j 0
/-- The first parts. -/
def partsTo (ts : List Int) (l : List It) (k : Nat) : List (List It) := (List.range k).map fun i => betL (prevAt ts i) (ts.getD i 0) l
def partsAll (ts : List Int) (l : List It) : List (List It) := partsTo ts l ts.length ++ [betL (prevAt ts ts.length) 9223372036854775807 l]
theorem partsTo_len (ts : List Int) (l : List It) (k : Nat) : (partsTo ts l k).length = k := by simp [partsTo]
theorem partsTo_succ (ts : List Int) (l : List It) (k : Nat) : partsTo ts l (k + 1) = partsTo ts l k ++ [betL (prevAt ts k) (ts.getD k 0) l] := by
  simp [partsTo, List.range_succ]
theorem betL_len (lo hi : Int) (l : List It) : (betL lo hi l).length ≤ l.length := by
  unfold betL
  exact Nat.le_trans (List.length_filter_le _ _) (List.takeWhile_sublist _).length_le
theorem partsAll_in {ts : List Int} {l x : List It} (h : x ∈ partsAll ts l) : x.length ≤ l.length := by
  unfold partsAll partsTo at h
  rcases List.mem_append.1 h with h | h
  · obtain ⟨i, _, rfl⟩ := List.mem_map.1 h
    exact betL_len _ _ _
  · simp at h; subst h; exact betL_len _ _ _
theorem goodB_len {l : List It} (h : goodB l = true) : l.length ≤ 300 := by
  unfold goodB at h; rw [Bool.and_eq_true, decide_eq_true_eq] at h; exact h.1
theorem goodB_step {l : List It} (h : goodB l = true) {i : Nat} (hi : i < l.length) : stepB l i = true := by
  unfold goodB stepsTo at h
  rw [Bool.and_eq_true] at h
  exact List.all_eq_true.1 h.2 i (List.mem_range.2 hi)
theorem goodB_item {l : List It} (h : goodB l = true) {x : It} (hx : x ∈ l) : itemB x = true := by
  obtain ⟨i, hi⟩ := List.getElem?_of_mem hx
  have := goodB_step h (List.getElem?_eq_some_iff.1 hi).1
  unfold stepB at this
  rw [hi] at this
  simp only [Bool.and_eq_true] at this
  exact this.1
theorem goodB_rec {l : List It} (h : goodB l = true) : ∀ x ∈ l, recFB x.1 = true := fun x hx => by
  have := goodB_item h hx
  unfold itemB at this
  rw [Bool.and_eq_true] at this
  exact this.1
theorem goodB_up {l : List It} (h : goodB l = true) {j : Nat} {x y : It} (hy : l[j]? = some y) (hx : l[j + 1]? = some x) : y.1.1 ≤ x.1.1 := by
  have := goodB_step h (List.getElem?_eq_some_iff.1 hx).1
  rw [stepB_succ hx hy] at this
  simp only [Bool.and_eq_true, decide_eq_true_eq] at this
  have := this.2.2
  unfold rLt at this
  omega
theorem up_far {l : List It} (h : ∀ (j : Nat) (x y : It), l[j]? = some y → l[j + 1]? = some x → y.1.1 ≤ x.1.1) (hi : Int) : l.takeWhile (fun x => decide (x.1.1 < hi)) = l.filter fun x => decide (x.1.1 < hi) := by
  induction l with
  | nil => rfl
  | cons a l ih =>
    have ih' := ih (fun j x y hy hx => h (j + 1) x y (by simpa using hy) (by simpa using hx))
    by_cases ha : a.1.1 < hi
    · rw [List.takeWhile_cons, List.filter_cons, decide_eq_true ha, if_pos rfl, if_pos rfl, ih']
    · rw [List.takeWhile_cons, List.filter_cons, decide_eq_false ha, if_neg (by decide), if_neg (by decide)]
      have all : ∀ (k : Nat) (x : It), l[k]? = some x → a.1.1 ≤ x.1.1 := by
        intro k
        induction k with
        | zero => intro x hx; exact h 0 x a (by simp) (by simpa using hx)
        | succ k ihk =>
          intro x hx
          obtain ⟨y, hy⟩ : ∃ y, l[k]? = some y := ⟨_, List.getElem?_eq_getElem (by have := (List.getElem?_eq_some_iff.1 hx).1; omega)⟩
          have h1 := ihk y hy
          have h2 := h (k + 1) x y (by simpa using hy) (by simpa using hx)
          omega
      symm
      rw [List.filter_eq_nil_iff]
      intro x hx
      obtain ⟨i, hi'⟩ := List.getElem?_of_mem hx
      have := all i x hi'
      simp only [decide_eq_true_eq]
      omega
theorem betL_good {l : List It} (h : goodB l = true) (lo hi : Int) : betL lo hi l = l.filter fun x => decide (lo ≤ x.1.1) && decide (x.1.1 < hi) := by
  unfold betL
  rw [up_far (fun j x y hy hx => goodB_up h hy hx), List.filter_filter]
theorem bet_cut {l : List It} (h : goodB l = true) (lo hi : Int) : (l.filter fun x => inB x.1.1 (max 0 lo) (hi - 1)) = betL lo hi l := by
  rw [betL_good h]
  refine List.filter_congr fun x hx => ?_
  have := recFB_at (goodB_rec h x hx)
  unfold inB
  rw [show decide (max 0 lo ≤ x.1.1) = decide (lo ≤ x.1.1) by rw [decide_eq_decide]; omega, show decide (x.1.1 ≤ hi - 1) = decide (x.1.1 < hi) by rw [decide_eq_decide]; omega]
theorem bet_last {l : List It} (h : goodB l = true) (lo : Int) : (l.filter fun x => inB x.1.1 (max 0 lo) 200) = betL lo 9223372036854775807 l := by
  rw [betL_good h]
  refine List.filter_congr fun x hx => ?_
  have := recFB_at (goodB_rec h x hx)
  unfold inB
  rw [show decide (max 0 lo ≤ x.1.1) = decide (lo ≤ x.1.1) by rw [decide_eq_decide]; omega, show decide (x.1.1 ≤ 200) = decide (x.1.1 < 9223372036854775807) by rw [decide_eq_decide]; omega]
theorem bet_none {l : List It} (h : goodB l = true) {lo hi : Int} (hh : hi ≤ max 0 lo) : betL lo hi l = [] := by
  rw [betL_good h, List.filter_eq_nil_iff]
  intro x hx
  have := recFB_at (goodB_rec h x hx)
  simp only [Bool.and_eq_true, decide_eq_true_eq]
  omega
theorem upTo_at {ts : List Int} {n k : Nat} (h : upTo ts n = true) (hk : k + 1 < n) (hn : n ≤ ts.length) : ts.getD k 0 < ts.getD (k + 1) 0 := by
  unfold upTo at h
  have h1 := List.all_eq_true.1 h (k + 1) (List.mem_range.2 hk)
  have ha : ts[k]? = some (ts.getD k 0) := by rw [List.getD_eq_getElem?_getD, List.getElem?_eq_getElem (by omega)]; rfl
  have hb : ts[k + 1]? = some (ts.getD (k + 1) 0) := by rw [List.getD_eq_getElem?_getD, List.getElem?_eq_getElem (by omega)]; rfl
  rw [upB_succ ha hb] at h1
  exact of_decide_eq_true h1
/-- How the specification's start goes on. -/
theorem prev_next {ts : List Int} {k : Nat} (h : upTo ts ts.length = true) (hk : k < ts.length) (hw : -9223372036854775808 ≤ ts.getD k 0) :
    (max 0 (prevAt ts k) < ts.getD k 0 → max 0 (prevAt ts (k + 1)) = ts.getD k 0) ∧ (¬ max 0 (prevAt ts k) < ts.getD k 0 → max 0 (prevAt ts (k + 1)) = max 0 (prevAt ts k)) := by
  have e1 : prevAt ts (k + 1) = ts.getD k 0 := rfl
  rw [e1]
  cases k with
  | zero =>
    have e0 : prevAt ts 0 = -9223372036854775808 := rfl
    rw [e0]
    omega
  | succ j =>
    have e0 : prevAt ts (j + 1) = ts.getD j 0 := rfl
    have := upTo_at h hk (Nat.le_refl _)
    rw [e0]
    omega
end Go.Proofs.YtimlgclejaoboaaGreatDoor
