/- The mathematics of places: a search that goes back, step by step, is the search by definition; whatever spans are placed, small ones are. -/
import Derived.Test.YtfhljcpicdabmaaGreatDoorWayN
namespace Go.WayM

abbrev Net := List (List Int)
def bitI (x m : Int) : Bool := x.toNat.testBit m.toNat
def at2 (net : Net) (i k : Nat) : Int := (net.getD i []).getD k 0
def okP (net : Net) (i k : Nat) (a b : Sp) : Bool := bitI (at2 net i k) (W a b)
def nth (l : List Sp) (i : Nat) : Sp := l.getD i (0, 0)
def fitsRow (net : Net) (l : List Sp) (i : Nat) (m : Nat) : Bool := (List.range m).all fun k => okP net i k (nth l i) (nth l k)
def fitsTo (net : Net) (l : List Sp) (m : Nat) : Bool := (List.range m).all fun i => fitsRow net l i l.length
def fitsAll (net : Net) (l : List Sp) : Bool := fitsTo net l l.length
def nextTo (net : Net) (l : List Sp) (s : Sp) (m : Nat) : Bool := (List.range m).all fun i => okP net i l.length (nth l i) s && okP net l.length i s (nth l i)
def fitsNext (net : Net) (l : List Sp) (s : Sp) : Bool := okP net l.length l.length s s && nextTo net l s l.length

theorem all_succ (f : Nat → Bool) (m : Nat) : (List.range (m + 1)).all f = ((List.range m).all f && f m) := by
  rw [List.range_succ, List.all_append]; simp

theorem fitsAll_iff (net : Net) (l : List Sp) : fitsAll net l = true ↔ ∀ i k, i < l.length → k < l.length → okP net i k (nth l i) (nth l k) = true := by
  unfold fitsAll fitsTo fitsRow
  simp only [List.all_eq_true, List.mem_range]
  exact ⟨fun h i k hi hk => h i hi k hk, fun h i hi k hk => h i k hi hk⟩

theorem fitsNext_iff (net : Net) (l : List Sp) (s : Sp) : fitsNext net l s = true ↔ okP net l.length l.length s s = true ∧ ∀ i, i < l.length → okP net i l.length (nth l i) s = true ∧ okP net l.length i s (nth l i) = true := by
  unfold fitsNext nextTo
  simp only [List.all_eq_true, List.mem_range, Bool.and_eq_true]

theorem nth_old {l : List Sp} {s : Sp} {i : Nat} (h : i < l.length) : nth (l ++ [s]) i = nth l i := by
  unfold nth
  rw [List.getD_eq_getElem?_getD, List.getD_eq_getElem?_getD, List.getElem?_append_left h]

theorem nth_new (l : List Sp) (s : Sp) : nth (l ++ [s]) l.length = s := by
  unfold nth
  rw [List.getD_eq_getElem?_getD, List.getElem?_append_right (Nat.le_refl _)]
  simp

theorem fits_snoc (net : Net) (l : List Sp) (s : Sp) : fitsAll net (l ++ [s]) = (fitsAll net l && fitsNext net l s) := by
  rw [Bool.eq_iff_iff, Bool.and_eq_true, fitsAll_iff, fitsAll_iff, fitsNext_iff]
  simp only [List.length_append, List.length_cons, List.length_nil]
  constructor
  · intro h
    refine ⟨fun i k hi hk => ?_, ?_, fun i hi => ⟨?_, ?_⟩⟩
    · have := h i k (by omega) (by omega)
      rwa [nth_old hi, nth_old hk] at this
    · have := h l.length l.length (by omega) (by omega)
      rwa [nth_new] at this
    · have := h i l.length (by omega) (by omega)
      rwa [nth_new, nth_old hi] at this
    · have := h l.length i (by omega) (by omega)
      rwa [nth_new, nth_old hi] at this
  · rintro ⟨h1, h2, h3⟩ i k hi hk
    by_cases ci : i < l.length
    · by_cases ck : k < l.length
      · rw [nth_old ci, nth_old ck]; exact h1 i k ci ck
      · obtain rfl : k = l.length := by omega
        rw [nth_old ci, nth_new]; exact (h3 i ci).1
    · obtain rfl : i = l.length := by omega
      by_cases ck : k < l.length
      · rw [nth_old ck, nth_new]; exact (h3 k ck).2
      · obtain rfl : k = l.length := by omega
        rw [nth_new]; exact h2

/-- The search by definition. -/
def srch (net : Net) (S : List Sp) : Nat → List Sp → Option (List Sp)
  | 0, l => if fitsAll net l then some l else none
  | d + 1, l => if fitsAll net l then S.findSome? fun s => srch net S d (l ++ [s]) else none

theorem srch_off {net : Net} {S : List Sp} {d : Nat} {l : List Sp} (h : fitsAll net l = false) : srch net S d l = none := by
  cases d <;> (unfold srch; rw [h]; rfl)

theorem srch_is {net : Net} {S : List Sp} : ∀ {d : Nat} {l r : List Sp}, srch net S d l = some r → fitsAll net r = true ∧ r.length = l.length + d ∧ ∀ s ∈ r, s ∈ l ∨ s ∈ S
  | 0, l, r, h => by
    unfold srch at h
    split at h
    · rename_i hf
      cases h
      exact ⟨hf, by omega, fun s hs => .inl hs⟩
    · cases h
  | d + 1, l, r, h => by
    unfold srch at h
    split at h
    · obtain ⟨s, hs, hr⟩ := List.exists_of_findSome?_eq_some h
      obtain ⟨h1, h2, h3⟩ := srch_is hr
      refine ⟨h1, by simp at h2; omega, fun t ht => ?_⟩
      rcases h3 t ht with hm | hm
      · rcases List.mem_append.1 hm with hm | hm
        · exact .inl hm
        · rw [List.mem_singleton] at hm; subst hm; exact .inr hs
      · exact .inr hm
    · cases h

theorem fits_take {net : Net} {r : List Sp} (h : fitsAll net r = true) (k : Nat) : fitsAll net (r.take k) = true := by
  rw [fitsAll_iff] at h ⊢
  intro i j hi hj
  rw [List.length_take] at hi hj
  have := h i j (by omega) (by omega)
  unfold nth at this ⊢
  rw [List.getD_eq_getElem?_getD, List.getD_eq_getElem?_getD] at this ⊢
  rw [List.getElem?_take, List.getElem?_take, if_pos (by omega), if_pos (by omega)]
  exact this

/-- What is placed by some is found. -/
theorem srch_some {net : Net} {S : List Sp} {r : List Sp} (hr : fitsAll net r = true) (hS : ∀ s ∈ r, s ∈ S) : ∀ (d : Nat), d ≤ r.length → srch net S d (r.take (r.length - d)) ≠ none
  | 0, _ => by
    unfold srch
    rw [if_pos (fits_take hr _)]
    exact Option.some_ne_none _
  | d + 1, hd => by
    unfold srch
    rw [if_pos (fits_take hr _)]
    intro hn
    have hk : r.length - (d + 1) < r.length := by omega
    have hm := List.findSome?_eq_none_iff.1 hn (r[r.length - (d + 1)]) (hS _ (List.getElem_mem hk))
    have ht : r.take (r.length - (d + 1)) ++ [r[r.length - (d + 1)]] = r.take (r.length - d) := by
      rw [show r.length - d = r.length - (d + 1) + 1 by omega, List.take_succ_eq_append_getElem hk]
    rw [ht] at hm
    exact srch_some hr hS d (by omega) hm

/-! The search that goes back. -/

def lev (net : Net) (S : List Sp) (n : Nat) (l : List Sp) (t : Nat → Nat) (k : Nat) : Option (List Sp) := (S.drop (t k)).findSome? fun s => srch net S (n - (k + 1)) (l.take k ++ [s])
/-- What is still to be found, with some spans placed, and so many tried at each place. -/
def res (net : Net) (S : List Sp) (n : Nat) (l : List Sp) (t : Nat → Nat) : Nat → Option (List Sp)
  | 0 => lev net S n l t 0
  | k + 1 => (lev net S n l t (k + 1)).or (res net S n l t k)

theorem res_congr (net : Net) (S : List Sp) (n : Nat) {l l' : List Sp} {t t' : Nat → Nat} : ∀ (k : Nat), (∀ j, j ≤ k → t j = t' j) → l.take k = l'.take k → res net S n l t k = res net S n l' t' k
  | 0, ht, _ => by
    unfold res lev
    rw [ht 0 (Nat.le_refl _)]
    simp
  | k + 1, ht, hl => by
    have ih := res_congr net S n (l := l) (l' := l') (t := t) (t' := t') k (fun j hj => ht j (by omega)) (by
      have := congrArg (List.take k) hl
      rwa [List.take_take, List.take_take, Nat.min_eq_left (by omega)] at this)
    unfold res lev
    rw [ih, ht (k + 1) (Nat.le_refl _), hl]

theorem res_start (net : Net) (S : List Sp) (n : Nat) (t : Nat → Nat) (hn : 0 < n) (h0 : t 0 = 0) : res net S n [] t 0 = srch net S n [] := by
  obtain ⟨m, rfl⟩ : ∃ m, n = m + 1 := ⟨n - 1, by omega⟩
  have hf : fitsAll net [] = true := rfl
  have e : srch net S (m + 1) [] = S.findSome? fun s => srch net S m ([] ++ [s]) := by rw [srch, if_pos hf]
  rw [e]
  unfold res lev
  rw [h0]
  simp

def bump (t : Nat → Nat) (k v : Nat) : Nat → Nat := fun j => if j = k then v else t j
theorem bump_at (t : Nat → Nat) (k v : Nat) : bump t k v k = v := by simp [bump]
theorem bump_ne {t : Nat → Nat} {k v j : Nat} (h : j ≠ k) : bump t k v j = t j := by simp [bump, h]

theorem res_level (net : Net) (S : List Sp) (n : Nat) (l : List Sp) (t : Nat → Nat) {s : Sp} (hs : S[t l.length]? = some s) :
    res net S n l t l.length = (srch net S (n - (l.length + 1)) (l ++ [s])).or (res net S n l (bump t l.length (t l.length + 1)) l.length) := by
  have hd : S.drop (t l.length) = s :: S.drop (t l.length + 1) := by
    have hlt : t l.length < S.length := (List.getElem?_eq_some_iff.1 hs).1
    rw [List.drop_eq_getElem_cons hlt, (List.getElem?_eq_some_iff.1 hs).2]
  have hlev : lev net S n l t l.length = (srch net S (n - (l.length + 1)) (l ++ [s])).or (lev net S n l (bump t l.length (t l.length + 1)) l.length) := by
    unfold lev
    rw [hd, bump_at, List.findSome?_cons, List.take_length]
    cases srch net S (n - (l.length + 1)) (l ++ [s]) <;> rfl
  generalize hk : l.length = k at hlev hs ⊢
  cases k with
  | zero => exact hlev
  | succ k =>
    unfold res
    rw [hlev, res_congr net S n k (l := l) (l' := l) (t := t) (t' := bump t (k + 1) (t (k + 1) + 1)) (fun j hj => (bump_ne (by omega)).symm) rfl]
    rw [Option.or_assoc]

theorem res_skip (net : Net) (S : List Sp) (n : Nat) (l : List Sp) (t : Nat → Nat) {s : Sp} (hs : S[t l.length]? = some s) (hf : fitsAll net (l ++ [s]) = false) :
    res net S n l t l.length = res net S n l (bump t l.length (t l.length + 1)) l.length := by
  rw [res_level net S n l t hs, srch_off hf]; rfl

theorem res_push (net : Net) (S : List Sp) (n : Nat) (l : List Sp) (t : Nat → Nat) {s : Sp} (hs : S[t l.length]? = some s) (hf : fitsAll net (l ++ [s]) = true) (hn : l.length + 1 < n) :
    res net S n l t l.length = res net S n (l ++ [s]) (bump (bump t l.length (t l.length + 1)) (l.length + 1) 0) (l.length + 1) := by
  rw [res_level net S n l t hs]
  obtain ⟨m, hm⟩ : ∃ m, n - (l.length + 1) = m + 1 := ⟨n - (l.length + 1) - 1, by omega⟩
  have h1 : srch net S (n - (l.length + 1)) (l ++ [s]) = lev net S n (l ++ [s]) (bump (bump t l.length (t l.length + 1)) (l.length + 1) 0) (l.length + 1) := by
    unfold lev
    rw [hm, bump_at, List.drop_zero, show n - (l.length + 1 + 1) = m by omega, List.take_of_length_le (by simp)]
    rw [srch, if_pos hf]
  have h2 : res net S n l (bump t l.length (t l.length + 1)) l.length = res net S n (l ++ [s]) (bump (bump t l.length (t l.length + 1)) (l.length + 1) 0) l.length :=
    res_congr net S n l.length (fun j hj => (bump_ne (by omega)).symm) (by simp)
  rw [h1, h2]
  rfl

theorem res_end (net : Net) (S : List Sp) (n : Nat) (l : List Sp) (t : Nat → Nat) {s : Sp} (hs : S[t l.length]? = some s) (hf : fitsAll net (l ++ [s]) = true) (hn : l.length + 1 = n) :
    res net S n l t l.length = some (l ++ [s]) := by
  rw [res_level net S n l t hs, show n - (l.length + 1) = 0 by omega, srch, if_pos hf]; rfl

theorem res_pop (net : Net) (S : List Sp) (n : Nat) (l : List Sp) (t : Nat → Nat) {k : Nat} (hk : l.length = k + 1) (ht : S.length ≤ t l.length) : res net S n l t l.length = res net S n (l.take k) t k := by
  rw [hk] at ht ⊢
  have e : res net S n l t (k + 1) = (lev net S n l t (k + 1)).or (res net S n l t k) := rfl
  have h0 : lev net S n l t (k + 1) = none := by unfold lev; rw [List.drop_eq_nil_of_le ht]; rfl
  rw [e, h0, Option.none_or]
  exact res_congr net S n k (l := l) (l' := l.take k) (t := t) (t' := t) (fun _ _ => rfl) (by rw [List.take_take, Nat.min_self])

theorem res_fail (net : Net) (S : List Sp) (n : Nat) (l : List Sp) (t : Nat → Nat) (ht : S.length ≤ t 0) : res net S n l t 0 = none := by
  unfold res lev
  rw [List.drop_eq_nil_of_le ht]; rfl

/-! It comes to an end. -/

def mu (m n : Nat) (t : Nat → Nat) : Nat → Nat
  | 0 => (m - t 0) * (m + 1) ^ n
  | k + 1 => mu m n t k + (m - t (k + 1)) * (m + 1) ^ (n - (k + 1))
theorem mu_congr (m n : Nat) {t t' : Nat → Nat} : ∀ (k : Nat), (∀ j, j ≤ k → t j = t' j) → mu m n t k = mu m n t' k
  | 0, h => by unfold mu; rw [h 0 (Nat.le_refl _)]
  | k + 1, h => by unfold mu; rw [mu_congr m n k fun j hj => h j (by omega), h (k + 1) (Nat.le_refl _)]
theorem mu_bump (m n : Nat) (t : Nat → Nat) (k : Nat) (h : t k < m) : mu m n (bump t k (t k + 1)) k + (m + 1) ^ (n - k) = mu m n t k := by
  have key : ∀ X : Nat, (m - (t k + 1)) * X + X = (m - t k) * X := fun X => by
    rw [show m - t k = m - (t k + 1) + 1 by omega, Nat.add_mul, Nat.one_mul]
  cases k with
  | zero =>
    unfold mu
    rw [bump_at]
    exact key _
  | succ k =>
    unfold mu
    rw [bump_at, mu_congr m n k (t := bump t (k + 1) (t (k + 1) + 1)) (t' := t) fun j hj => bump_ne (by omega)]
    have := key ((m + 1) ^ (n - (k + 1)))
    omega
theorem mu_push (m n : Nat) (t : Nat → Nat) (k : Nat) (h : t k < m) (hn : k < n) : mu m n (bump (bump t k (t k + 1)) (k + 1) 0) (k + 1) < mu m n t k := by
  have h1 := mu_bump m n t k h
  have h2 : mu m n (bump (bump t k (t k + 1)) (k + 1) 0) k = mu m n (bump t k (t k + 1)) k := mu_congr m n k fun j hj => bump_ne (by omega)
  have h3 : (m + 1) ^ (n - k) = (m + 1) ^ (n - (k + 1)) * (m + 1) := by
    rw [show n - k = n - (k + 1) + 1 by omega, Nat.pow_succ]
  have h4 : 0 < (m + 1) ^ (n - (k + 1)) := Nat.pow_pos (by omega)
  have h5 : mu m n (bump (bump t k (t k + 1)) (k + 1) 0) (k + 1) = mu m n (bump (bump t k (t k + 1)) (k + 1) 0) k + (m - 0) * (m + 1) ^ (n - (k + 1)) := by
    conv => lhs; unfold mu
    rw [bump_at]
  rw [h5, h2, Nat.sub_zero]
  rw [h3, Nat.mul_add, Nat.mul_one, Nat.mul_comm] at h1
  omega
theorem mu_skip (m n : Nat) (t : Nat → Nat) (k : Nat) (h : t k < m) : mu m n (bump t k (t k + 1)) k < mu m n t k := by
  have h1 := mu_bump m n t k h
  have h4 : 0 < (m + 1) ^ (n - k) := Nat.pow_pos (by omega)
  omega
theorem mu_pop (m n : Nat) (t : Nat → Nat) (k : Nat) : mu m n t k ≤ mu m n t (k + 1) := by
  conv => rhs; unfold mu
  omega

/-! Small spans are enough. -/

theorem small_mem' {N i j : Nat} (hij : i < j) (hj : j < N) : ((i : Int), (j : Int)) ∈ small N := by
  unfold small row
  rw [List.mem_flatMap]
  refine ⟨i, List.mem_range.2 (by omega), ?_⟩
  rw [List.mem_map]
  exact ⟨j - (i + 1), List.mem_range.2 (by omega), by rw [show i + 1 + (j - (i + 1)) = j by omega]⟩

theorem small_out {N : Nat} {s : Sp} (h : s ∈ small N) : 0 ≤ s.1 ∧ s.1 < s.2 ∧ s.2 < N := by
  unfold small row at h
  rw [List.mem_flatMap] at h
  obtain ⟨i, hi, h⟩ := h
  rw [List.mem_map] at h
  obtain ⟨k, hk, rfl⟩ := h
  rw [List.mem_range] at hi hk
  refine ⟨?_, ?_, ?_⟩ <;> dsimp <;> omega

/-- All ends of some spans. -/
def endsOf (l : List Sp) : List Int := l.flatMap fun s => [s.1, s.2]
theorem endsOf_len (l : List Sp) : (endsOf l).length = 2 * l.length := by
  induction l with
  | nil => rfl
  | cons s l ih =>
    have : endsOf (s :: l) = [s.1, s.2] ++ endsOf l := rfl
    rw [this, List.length_append, ih, List.length_cons]
    simp; omega
theorem endsOf_mem {l : List Sp} {s : Sp} (h : s ∈ l) : s.1 ∈ endsOf l ∧ s.2 ∈ endsOf l := by
  unfold endsOf
  exact ⟨List.mem_flatMap.2 ⟨s, h, by simp⟩, List.mem_flatMap.2 ⟨s, h, by simp⟩⟩
def ranked (l : List Sp) : List Sp := l.map fun s => ((rank (endsOf l) s.1 : Int), (rank (endsOf l) s.2 : Int))
theorem ranked_nth {l : List Sp} {i : Nat} (h : i < l.length) : nth (ranked l) i = ((rank (endsOf l) (nth l i).1 : Int), (rank (endsOf l) (nth l i).2 : Int)) := by
  unfold nth ranked
  rw [List.getD_eq_getElem?_getD, List.getD_eq_getElem?_getD, List.getElem?_map, List.getElem?_eq_getElem h]
  rfl
theorem nth_mem {l : List Sp} {i : Nat} (h : i < l.length) : nth l i ∈ l := by
  unfold nth
  rw [List.getD_eq_getElem?_getD, List.getElem?_eq_getElem h]
  exact List.getElem_mem h
theorem ranked_fits {net : Net} {l : List Sp} (h : fitsAll net l = true) : fitsAll net (ranked l) = true := by
  rw [fitsAll_iff] at h ⊢
  intro i k hi hk
  have hl : (ranked l).length = l.length := by unfold ranked; simp
  rw [hl] at hi hk
  have hik := h i k hi hk
  rw [ranked_nth hi, ranked_nth hk]
  unfold okP W at hik ⊢
  have m1 := endsOf_mem (nth_mem hi)
  have m2 := endsOf_mem (nth_mem hk)
  rw [wl_rank (endsOf l) m1.1 m1.2 m2.1 m2.2]
  exact hik
theorem ranked_small {l : List Sp} (h : ∀ s ∈ l, s.1 < s.2) : ∀ s ∈ ranked l, s ∈ small (2 * l.length) := by
  intro s hs
  unfold ranked at hs
  rw [List.mem_map] at hs
  obtain ⟨t, ht, rfl⟩ := hs
  have m := endsOf_mem ht
  refine small_mem' (rank_lt _ (h t ht) m.1) ?_
  have := rank_all (endsOf l) t.2 m.2
  rwa [endsOf_len] at this
/-- If some spans are placed, there is a first place. -/
theorem place_some {net : Net} {l : List Sp} (h : fitsAll net l = true) (hs : ∀ s ∈ l, s.1 < s.2) : srch net (small (2 * l.length)) l.length [] ≠ none := by
  have hl : (ranked l).length = l.length := by unfold ranked; simp
  have := srch_some (ranked_fits h) (ranked_small hs) l.length (by omega)
  rw [hl, Nat.sub_self, List.take_zero] at this
  exact this

end Go.WayM
