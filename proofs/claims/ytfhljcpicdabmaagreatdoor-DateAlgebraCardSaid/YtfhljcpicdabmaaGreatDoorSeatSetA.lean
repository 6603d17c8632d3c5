/- The seat: sets of spans, both sides. -/
import Derived.Test.YtfhljcpicdabmaaGreatDoorSeatPj
/- The mathematics of lists of spans: a sweep over sorted ends, and runs of what is wanted. -/
namespace Go.SetM

abbrev Sp := Int × Int
/-- Where a span begins or ends: the place, whether it is of the second list, whether it begins. -/
abbrev Edge := Int × Bool × Bool

def hasD (l : List Sp) (x : Int) : Bool := l.any fun s => decide (s.1 ≤ x) && decide (x < s.2)
def edges (l : List Sp) (k : Bool) : List Edge := l.flatMap fun s => [(s.1, k, true), (s.2, k, false)]
def vals (l : List Sp) : List Int := l.flatMap fun s => [s.1, s.2]

/-- Whether the next one has the same place. -/
def more (x : Edge) : List Edge → Bool
  | [] => false
  | y :: _ => decide (y.1 = x.1)

def sweepL {σ : Type} (pass : σ → Edge → σ) (wanted : σ → Bool) : List Edge → σ → Bool → Int → List Sp → List Sp
  | [], _, _, _, out => out
  | x :: r, st, o, f, out =>
    if more x r || (wanted (pass st x) == o) then sweepL pass wanted r (pass st x) o f out
    else sweepL pass wanted r (pass st x) (!o) x.1 (if o then out ++ [(f, x.1)] else out)

def spots : List Edge → List Int
  | [] => []
  | x :: r => if more x r then spots r else x.1 :: spots r

def runs (In : Int → Bool) : List Int → Bool → Int → List Sp → List Sp
  | [], _, _, out => out
  | x :: r, o, f, out => if In x == o then runs In r o f out else runs In r (!o) x (if o then out ++ [(f, x)] else out)

theorem sweep_runs {σ : Type} (pass : σ → Edge → σ) (wanted : σ → Bool) (In : Int → Bool) (s0 : σ) : ∀ (L p : List Edge) (o : Bool) (f : Int) (out : List Sp),
    (∀ q x r, L = q ++ x :: r → more x r = false → wanted ((p ++ q ++ [x]).foldl pass s0) = In x.1) →
    sweepL pass wanted L (p.foldl pass s0) o f out = runs In (spots L) o f out
  | [], p, o, f, out, _ => rfl
  | x :: r, p, o, f, out, h => by
    have hst : pass (p.foldl pass s0) x = (p ++ [x]).foldl pass s0 := by rw [List.foldl_append]; rfl
    have ih := fun o f out => sweep_runs pass wanted In s0 r (p ++ [x]) o f out fun q y r' e hm => by
      have := h (x :: q) y r' (by rw [e]; rfl) hm
      rw [← this]
      simp
    cases hm : more x r with
    | true =>
      unfold sweepL spots
      rw [hm, hst, Bool.true_or, if_pos rfl, if_pos rfl]
      exact ih o f out
    | false =>
      have hw := h [] x r rfl hm
      rw [List.append_nil] at hw
      unfold sweepL spots
      rw [hm, hst, hw, Bool.false_or, if_neg Bool.false_ne_true]
      unfold runs
      by_cases hc : (In x.1 == o) = true
      · rw [if_pos hc, if_pos hc]; exact ih o f out
      · rw [if_neg hc, if_neg hc]; exact ih _ _ _

/-! Lists that increase. -/

abbrev Inc (l : List Int) : Prop := l.Pairwise (· < ·)
abbrev Up (l : List Edge) : Prop := l.Pairwise fun x y => x.1 ≤ y.1

theorem inc_eq : ∀ (a b : List Int), Inc a → Inc b → (∀ x, x ∈ a ↔ x ∈ b) → a = b
  | [], [], _, _, _ => rfl
  | [], y :: b, _, _, h => by have := (h y).2 (by simp); simp at this
  | x :: a, [], _, _, h => by have := (h x).1 (by simp); simp at this
  | x :: a, y :: b, ha, hb, h => by
    rw [Inc, List.pairwise_cons] at ha hb
    have hxy : x = y := by
      have h1 := (h x).1 (by simp)
      have h2 := (h y).2 (by simp)
      rcases List.mem_cons.1 h1 with e | m1
      · exact e
      · rcases List.mem_cons.1 h2 with e | m2
        · exact e.symm
        · have := hb.1 x m1
          have := ha.1 y m2
          omega
    subst hxy
    rw [inc_eq a b ha.2 hb.2 fun z => ?_]
    constructor
    · intro hz
      rcases List.mem_cons.1 ((h z).1 (by simp [hz])) with e | m
      · have := ha.1 z hz; omega
      · exact m
    · intro hz
      rcases List.mem_cons.1 ((h z).2 (by simp [hz])) with e | m
      · have := hb.1 z hz; omega
      · exact m

theorem spots_mem : ∀ (L : List Edge) (x : Int), x ∈ spots L ↔ ∃ e ∈ L, e.1 = x
  | [], x => by simp [spots]
  | e :: r, x => by
    have ih := spots_mem r x
    unfold spots
    cases hm : more e r with
    | true =>
      rw [if_pos rfl, ih]
      constructor
      · rintro ⟨y, hy, rfl⟩; exact ⟨y, by simp [hy], rfl⟩
      · rintro ⟨y, hy, rfl⟩
        rcases List.mem_cons.1 hy with rfl | hy
        · cases r with
          | nil => simp [more] at hm
          | cons z r =>
            have : z.1 = y.1 := by simpa [more] using hm
            exact ⟨z, by simp, this⟩
        · exact ⟨y, hy, rfl⟩
    | false =>
      rw [if_neg Bool.false_ne_true, List.mem_cons, ih]
      constructor
      · rintro (rfl | ⟨y, hy, rfl⟩)
        · exact ⟨e, by simp, rfl⟩
        · exact ⟨y, by simp [hy], rfl⟩
      · rintro ⟨y, hy, rfl⟩
        rcases List.mem_cons.1 hy with rfl | hy
        · exact .inl rfl
        · exact .inr ⟨y, hy, rfl⟩

theorem more_lt {e : Edge} {r : List Edge} (h : Up (e :: r)) (hm : more e r = false) : ∀ y ∈ r, e.1 < y.1 := by
  intro y hy
  rw [Up, List.pairwise_cons] at h
  cases r with
  | nil => simp at hy
  | cons z r =>
    have hz : e.1 ≤ z.1 := h.1 z (by simp)
    have hne : z.1 ≠ e.1 := by simpa [more] using hm
    rcases List.mem_cons.1 hy with rfl | hy
    · omega
    · have := (List.pairwise_cons.1 h.2).1 y hy
      omega

theorem spots_inc : ∀ (L : List Edge), Up L → Inc (spots L)
  | [], _ => by simp [spots, Inc]
  | e :: r, h => by
    have ih := spots_inc r (List.pairwise_cons.1 h).2
    unfold spots
    cases hm : more e r with
    | true => rw [if_pos rfl]; exact ih
    | false =>
      rw [if_neg Bool.false_ne_true, Inc, List.pairwise_cons]
      refine ⟨fun x hx => ?_, ih⟩
      obtain ⟨y, hy, rfl⟩ := (spots_mem r x).1 hx
      exact more_lt h hm y hy

theorem vals_mem (l : List Sp) (x : Int) : x ∈ vals l ↔ ∃ s ∈ l, s.1 = x ∨ s.2 = x := by
  unfold vals
  rw [List.mem_flatMap]
  constructor
  · rintro ⟨s, hs, h⟩
    simp at h
    exact ⟨s, hs, by rcases h with rfl | rfl <;> simp⟩
  · rintro ⟨s, hs, h⟩
    exact ⟨s, hs, by rcases h with rfl | rfl <;> simp⟩

theorem edges_vals (l : List Sp) (k : Bool) (x : Int) : (∃ e ∈ edges l k, e.1 = x) ↔ x ∈ vals l := by
  rw [vals_mem]
  unfold edges
  constructor
  · rintro ⟨e, he, rfl⟩
    obtain ⟨s, hs, h⟩ := List.mem_flatMap.1 he
    simp at h
    exact ⟨s, hs, by rcases h with rfl | rfl <;> simp⟩
  · rintro ⟨s, hs, h⟩
    rcases h with rfl | rfl
    · exact ⟨(s.1, k, true), List.mem_flatMap.2 ⟨s, hs, by simp⟩, rfl⟩
    · exact ⟨(s.2, k, false), List.mem_flatMap.2 ⟨s, hs, by simp⟩, rfl⟩

/-! The specification's way: from end to end. -/

def lastTo (out : List Sp) (x : Int) : Bool := match out.getLast? with | some s => decide (s.2 = x) | none => false

def mixL (In : Int → Bool) : List Int → List Sp → List Sp
  | [], out => out
  | [_], out => out
  | x :: y :: r, out => mixL In (y :: r) (if In x then (if lastTo out x then out.dropLast ++ [((out.getLastD (0, 0)).1, y)] else out ++ [(x, y)]) else out)

theorem runs_mix (In : Int → Bool) : ∀ (E : List Int) (o : Bool) (f : Int) (out out' : List Sp), Inc E → (∀ x, E.getLast? = some x → In x = false) → E ≠ [] →
    (∀ x r, E = x :: r → if o = true then out' = out ++ [(f, x)] else out' = out ∧ ∀ s, out.getLast? = some s → s.2 < x) →
    runs In E o f out = mixL In E out'
  | [], _, _, _, _, _, _, h0, _ => absurd rfl h0
  | [x], o, f, out, out', _, hl, _, h => by
    have hx := hl x rfl
    have hr := h x [] rfl
    unfold runs mixL
    rw [hx]
    cases o with
    | true =>
      rw [if_pos rfl] at hr
      rw [hr]
      rfl
    | false =>
      rw [if_neg Bool.false_ne_true] at hr
      rw [hr.1]
      rfl
  | x :: y :: r, o, f, out, out', hi, hl, _, h => by
    have hr := h x (y :: r) rfl
    have hxy : x < y := (List.pairwise_cons.1 hi).1 y (by simp)
    have hi2 : Inc (y :: r) := (List.pairwise_cons.1 hi).2
    have hl2 : ∀ z, (y :: r).getLast? = some z → In z = false := fun z hz => hl z (by rw [List.getLast?_cons_cons]; exact hz)
    have ih := fun o f out out' hk => runs_mix In (y :: r) o f out out' hi2 hl2 (by simp) hk
    unfold runs mixL
    cases hx : In x with
    | true =>
      cases o with
      | true =>
        rw [if_pos rfl] at hr
        rw [if_pos rfl, if_pos rfl]
        refine ih true f out _ fun z r' e => ?_
        obtain ⟨rfl, rfl⟩ := List.cons.inj e
        rw [if_pos rfl, hr]
        have : lastTo (out ++ [(f, x)]) x = true := by simp [lastTo]
        rw [if_pos this]
        simp
      | false =>
        rw [if_neg Bool.false_ne_true] at hr
        rw [if_neg (by decide), if_pos rfl]
        refine ih true x out _ fun z r' e => ?_
        obtain ⟨rfl, rfl⟩ := List.cons.inj e
        rw [if_pos rfl, hr.1]
        have : ¬ lastTo out x = true := by
          unfold lastTo
          split
          · rename_i s hs
            have := hr.2 s hs
            rw [decide_eq_true_eq]; omega
          · exact Bool.false_ne_true
        rw [if_neg this]
    | false =>
      cases o with
      | true =>
        rw [if_pos rfl] at hr
        rw [if_neg (by decide), if_neg Bool.false_ne_true]
        refine ih false x (out ++ [(f, x)]) _ fun z r' e => ?_
        obtain ⟨rfl, rfl⟩ := List.cons.inj e
        rw [if_neg Bool.false_ne_true]
        refine ⟨hr, fun s hs => ?_⟩
        simp at hs
        rw [← hs]
        exact hxy
      | false =>
        rw [if_neg Bool.false_ne_true] at hr
        rw [if_pos (by decide), if_neg Bool.false_ne_true]
        refine ih false f out _ fun z r' e => ?_
        obtain ⟨rfl, rfl⟩ := List.cons.inj e
        rw [if_neg Bool.false_ne_true]
        refine ⟨hr.1, fun s hs => ?_⟩
        have := hr.2 s hs
        omega

/-! What lies over a place. -/

/-- Ahead of a place, and at it. -/
theorem upto_of {L q r : List Edge} {x : Edge} (h : Up L) (e : L = q ++ x :: r) (hm : more x r = false) : q ++ [x] = L.filter fun y => decide (y.1 ≤ x.1) := by
  subst e
  have h1 : ∀ y ∈ q, y.1 ≤ x.1 := fun y hy => (List.pairwise_append.1 h).2.2 y hy x (by simp)
  have h2 := more_lt (List.pairwise_append.1 h).2.1 hm
  rw [List.filter_append, List.filter_cons, if_pos (by simp), List.filter_eq_self.2 (fun y hy => by simpa using h1 y hy), List.filter_eq_nil_iff.2 (fun y hy => by have := h2 y hy; simp; omega)]

def countE (n : Int) (x : Edge) : Int := if x.2.2 then n + 1 else n - 1
def overE (l : List Edge) : Int := (l.countP fun e => e.2.2) - (l.countP fun e => !e.2.2)

theorem count_over : ∀ (l : List Edge) (n : Int), l.foldl countE n = n + overE l
  | [], n => by simp [overE]
  | x :: l, n => by
    rw [List.foldl_cons, count_over l]
    unfold countE overE
    cases h : x.2.2 with
    | true => simp [h]; omega
    | false => simp [h]; omega

theorem over_perm {a b : List Edge} (h : a.Perm b) : overE a = overE b := by
  unfold overE
  rw [h.countP_eq, h.countP_eq]

theorem over_app (a b : List Edge) : overE (a ++ b) = overE a + overE b := by
  unfold overE
  rw [List.countP_append, List.countP_append]; omega

theorem over_has (k : Bool) (x : Int) : ∀ (l : List Sp), (∀ s ∈ l, s.1 < s.2) → 0 ≤ overE ((edges l k).filter fun y => decide (y.1 ≤ x)) ∧ (0 < overE ((edges l k).filter fun y => decide (y.1 ≤ x)) ↔ hasD l x = true)
  | [], _ => by simp [edges, overE, hasD]
  | s :: l, h => by
    obtain ⟨i1, i2⟩ := over_has k x l fun t ht => h t (by simp [ht])
    have hs := h s (by simp)
    have e : edges (s :: l) k = [(s.1, k, true), (s.2, k, false)] ++ edges l k := rfl
    rw [e, List.filter_append, over_app]
    have hh : hasD (s :: l) x = (decide (s.1 ≤ x) && decide (x < s.2) || hasD l x) := rfl
    rw [hh]
    by_cases h1 : s.1 ≤ x
    · by_cases h2 : s.2 ≤ x
      · have e1 : overE ([(s.1, k, true), (s.2, k, false)].filter fun y => decide (y.1 ≤ x)) = 0 := by
          simp [h1, h2, overE]
        have : decide (x < s.2) = false := decide_eq_false (by omega)
        rw [e1, this, Bool.and_false, Bool.false_or]
        exact ⟨by omega, by rw [← i2]; omega⟩
      · have e1 : overE ([(s.1, k, true), (s.2, k, false)].filter fun y => decide (y.1 ≤ x)) = 1 := by
          simp [h1, h2, overE]
        have t1 : decide (x < s.2) = true := decide_eq_true (by omega)
        have t2 : decide (s.1 ≤ x) = true := decide_eq_true h1
        rw [e1, t1, t2, Bool.and_true, Bool.true_or]
        exact ⟨by omega, by constructor <;> intro <;> first | rfl | omega⟩
    · have h2 : ¬ s.2 ≤ x := by omega
      have e1 : overE ([(s.1, k, true), (s.2, k, false)].filter fun y => decide (y.1 ≤ x)) = 0 := by
        simp [h1, h2, overE]
      have t2 : decide (s.1 ≤ x) = false := decide_eq_false h1
      rw [e1, t2, Bool.false_and, Bool.false_or]
      exact ⟨by omega, by rw [← i2]; omega⟩

theorem count_state {L : List Edge} {l : List Sp} (hs : ∀ s ∈ l, s.1 < s.2) (hp : L.Perm (edges l false)) (hu : Up L) :
    ∀ q x r, L = q ++ x :: r → more x r = false → decide (0 < (([] : List Edge) ++ q ++ [x]).foldl countE 0) = hasD l x.1 := by
  intro q x r e hm
  rw [List.nil_append, count_over, upto_of hu e hm, over_perm (hp.filter _), Int.zero_add, Bool.eq_iff_iff, decide_eq_true_eq]
  exact (over_has false x.1 l hs).2

/-! Two normal lists: what lies over a place, of each. -/

/-- Whether a list of spans is normal. -/
def normal : List Sp → Prop
  | [] => True
  | s :: l => s.1 < s.2 ∧ (∀ t ∈ l, s.2 < t.1) ∧ normal l

def crossE (n : Bool × Bool) (x : Edge) : Bool × Bool := if x.2.1 then (n.1, x.2.2) else (x.2.2, n.2)
/-- What the last one of a list's edges is. -/
def lastB (k : Bool) (l : List Edge) (d : Bool) : Bool := ((l.filter fun e => e.2.1 == k).getLast?.map fun e => e.2.2).getD d

theorem lastB_cons (k : Bool) (x : Edge) (l : List Edge) (d : Bool) : lastB k (x :: l) d = lastB k l (if x.2.1 == k then x.2.2 else d) := by
  unfold lastB
  cases h : x.2.1 == k with
  | true =>
    rw [List.filter_cons, if_pos h, if_pos rfl]
    generalize l.filter (fun e => e.2.1 == k) = F
    cases F with
    | nil => rfl
    | cons y m =>
      rw [List.getLast?_cons_cons]
      generalize hg : (y :: m).getLast? = z
      cases z with
      | none => simp at hg
      | some z => rfl
  | false =>
    rw [List.filter_cons, if_neg (by rw [h]; exact Bool.false_ne_true), if_neg Bool.false_ne_true]

theorem cross_last : ∀ (l : List Edge) (n : Bool × Bool), l.foldl crossE n = (lastB false l n.1, lastB true l n.2)
  | [], n => by simp [lastB]
  | x :: l, n => by
    rw [List.foldl_cons, cross_last l, lastB_cons, lastB_cons]
    unfold crossE
    cases h : x.2.1 <;> simp

theorem perm_inc : ∀ (a b : List Edge), Up a → b.Pairwise (fun x y => x.1 < y.1) → a.Perm b → a = b
  | [], b, _, _, h => by simpa using h.symm.length_eq
  | x :: a, [], _, _, h => by simpa using h.length_eq
  | x :: a, y :: b, ha, hb, h => by
    rw [Up, List.pairwise_cons] at ha
    rw [List.pairwise_cons] at hb
    have hxy : x = y := by
      rcases List.mem_cons.1 (h.mem_iff.1 (List.mem_cons_self (a := x) (l := a))) with e | m1
      · exact e
      · rcases List.mem_cons.1 (h.mem_iff.2 (List.mem_cons_self (a := y) (l := b))) with e | m2
        · exact e.symm
        · have := hb.1 x m1
          have := ha.1 y m2
          omega
    subst hxy
    rw [perm_inc a b ha.2 hb.2 (List.Perm.cons_inv h)]

theorem edges_ge {l : List Sp} {k : Bool} {b : Int} (hl : ∀ s ∈ l, s.1 < s.2) (h : ∀ s ∈ l, b < s.1) : ∀ e ∈ edges l k, b < e.1 := by
  intro e he
  obtain ⟨s, hs, he⟩ := List.mem_flatMap.1 he
  have := hl s hs
  have := h s hs
  simp at he
  rcases he with rfl | rfl
  · assumption
  · show b < s.2; omega

theorem normal_lt : ∀ {l : List Sp}, normal l → ∀ s ∈ l, s.1 < s.2
  | [], _, s, h => by simp at h
  | t :: l, hn, s, h => by
    rcases List.mem_cons.1 h with rfl | h
    · exact hn.1
    · exact normal_lt hn.2.2 s h

theorem edges_inc (k : Bool) : ∀ (l : List Sp), normal l → (edges l k).Pairwise fun x y => x.1 < y.1
  | [], _ => by simp [edges]
  | s :: l, h => by
    obtain ⟨h1, h2, h3⟩ := h
    have hl := normal_lt h3
    have e : edges (s :: l) k = (s.1, k, true) :: (s.2, k, false) :: edges l k := rfl
    rw [e, List.pairwise_cons, List.pairwise_cons]
    refine ⟨fun y hy => ?_, fun y hy => edges_ge hl h2 y hy, edges_inc k l h3⟩
    rcases List.mem_cons.1 hy with rfl | hy
    · exact h1
    · have := edges_ge hl h2 y hy
      show s.1 < y.1
      omega

theorem edges_k (l : List Sp) (k j : Bool) : (edges l k).filter (fun e => e.2.1 == j) = if k == j then edges l k else [] := by
  have hk : ∀ e ∈ edges l k, e.2.1 = k := fun e he => by
    obtain ⟨s, _, he⟩ := List.mem_flatMap.1 he
    simp at he
    rcases he with rfl | rfl <;> rfl
  cases h : k == j with
  | true => rw [if_pos rfl]; exact List.filter_eq_self.2 fun e he => by rw [hk e he]; exact h
  | false => rw [if_neg Bool.false_ne_true]; exact List.filter_eq_nil_iff.2 fun e he => by rw [hk e he, h]; exact Bool.false_ne_true

theorem last_has (k : Bool) (x : Int) : ∀ (l : List Sp) (d : Bool), normal l → (((edges l k).filter fun y => decide (y.1 ≤ x)).getLast?.map fun e => e.2.2).getD d = if ((edges l k).filter fun y => decide (y.1 ≤ x)).isEmpty then d else hasD l x
  | [], d, _ => by simp [edges]
  | s :: l, d, h => by
    obtain ⟨h1, h2, h3⟩ := h
    have hl := normal_lt h3
    have e : edges (s :: l) k = (s.1, k, true) :: (s.2, k, false) :: edges l k := rfl
    have hh : hasD (s :: l) x = (decide (s.1 ≤ x) && decide (x < s.2) || hasD l x) := rfl
    have ih := last_has k x l false h3
    by_cases c1 : s.1 ≤ x
    · by_cases c2 : s.2 ≤ x
      · have t1 : decide (x < s.2) = false := decide_eq_false (by omega)
        rw [e, hh, t1, Bool.and_false, Bool.false_or, List.filter_cons, if_pos (by simpa using c1), List.filter_cons, if_pos (by simpa using c2), List.getLast?_cons_cons]
        have ho := (over_has k x l hl).2.2
        generalize (edges l k).filter (fun y => decide (y.1 ≤ x)) = F at ih ho ⊢
        cases F with
        | nil =>
          have hb : hasD l x = false := by
            rw [Bool.eq_false_iff]
            intro hb
            have := ho hb
            simp [overE] at this
          rw [hb]
          rfl
        | cons y m =>
          rw [List.getLast?_cons_cons]
          generalize hg : (y :: m).getLast? = z at ih ⊢
          cases z with
          | none => simp at hg
          | some z => simpa using ih
      · have hf : (edges l k).filter (fun y => decide (y.1 ≤ x)) = [] := List.filter_eq_nil_iff.2 fun y hy => by
          have := edges_ge hl h2 y hy
          simp; omega
        have t1 : decide (x < s.2) = true := decide_eq_true (by omega)
        have t2 : decide (s.1 ≤ x) = true := decide_eq_true c1
        rw [e, hh, t1, t2, List.filter_cons, if_pos (by simpa using c1), List.filter_cons, if_neg (by simpa using c2), hf]
        rfl
    · have c2 : ¬ s.2 ≤ x := by omega
      have hf : (edges l k).filter (fun y => decide (y.1 ≤ x)) = [] := List.filter_eq_nil_iff.2 fun y hy => by
        have := edges_ge hl h2 y hy
        simp; omega
      rw [e, List.filter_cons, if_neg (by simpa using c1), List.filter_cons, if_neg (by simpa using c2), hf]
      rfl

theorem last_is (k : Bool) (x : Int) (l : List Sp) (h : normal l) : (((edges l k).filter fun y => decide (y.1 ≤ x)).getLast?.map fun e => e.2.2).getD false = hasD l x := by
  rw [last_has k x l false h]
  split
  · rename_i he
    rw [List.isEmpty_iff] at he
    symm
    rw [Bool.eq_false_iff]
    intro hb
    have := (over_has k x l (normal_lt h)).2.2 hb
    rw [he] at this
    simp [overE] at this
  · rfl

theorem cross_state {L : List Edge} {a b : List Sp} (ha : normal a) (hb : normal b) (hp : L.Perm (edges a false ++ edges b true)) (hu : Up L) :
    ∀ q x r, L = q ++ x :: r → more x r = false → (([] : List Edge) ++ q ++ [x]).foldl crossE (false, false) = (hasD a x.1, hasD b x.1) := by
  intro q x r e hm
  rw [List.nil_append, upto_of hu e hm, cross_last]
  have key : ∀ (k : Bool) (l : List Sp), normal l → (edges a false ++ edges b true).filter (fun e => e.2.1 == k) = edges l k → lastB k (L.filter fun y => decide (y.1 ≤ x.1)) false = hasD l x.1 := by
    intro k l hl hk
    have hE : (L.filter fun y => decide (y.1 ≤ x.1)).filter (fun e => e.2.1 == k) = (edges l k).filter fun y => decide (y.1 ≤ x.1) := by
      refine perm_inc _ _ (List.Pairwise.filter _ (List.Pairwise.filter _ hu)) (List.Pairwise.filter _ (edges_inc k l hl)) ?_
      have hc : (L.filter fun y => decide (y.1 ≤ x.1)).filter (fun e => e.2.1 == k) = (L.filter fun e => e.2.1 == k).filter fun y => decide (y.1 ≤ x.1) := by
        rw [List.filter_filter, List.filter_filter]
        exact List.filter_congr fun e _ => Bool.and_comm _ _
      rw [hc, ← hk]
      exact (hp.filter _).filter _
    unfold lastB
    rw [hE]
    exact last_is k x.1 l hl
  rw [key false a ha (by rw [List.filter_append, edges_k, edges_k]; simp), key true b hb (by rw [List.filter_append, edges_k, edges_k]; simp)]

/-! Both ways are one. -/

def jn (a b : List Sp) (x : Int) : Bool := hasD a x || hasD b x
def mt (a b : List Sp) (x : Int) : Bool := hasD a x && hasD b x
def ct (a b : List Sp) (x : Int) : Bool := hasD a x && !hasD b x

theorem has_last {l : List Sp} {x : Int} (h : ∀ s ∈ l, s.2 ≤ x) : hasD l x = false := by
  unfold hasD
  rw [Bool.eq_false_iff]
  intro hh
  obtain ⟨s, hs, hc⟩ := List.any_eq_true.1 hh
  have := h s hs
  simp at hc
  omega

theorem inc_last : ∀ {E : List Int} {x : Int}, Inc E → E.getLast? = some x → ∀ y ∈ E, y ≤ x
  | [], _, _, h, _, _ => by simp at h
  | [z], x, _, h, y, hy => by simp at h hy; omega
  | z :: w :: r, x, hi, h, y, hy => by
    rw [List.getLast?_cons_cons] at h
    have ih := inc_last (List.pairwise_cons.1 hi).2 h
    rcases List.mem_cons.1 hy with rfl | hy
    · have := (List.pairwise_cons.1 hi).1 w (by simp)
      have := ih w (by simp)
      omega
    · exact ih y hy

/-- A sweep is the specification's way. -/
theorem sweep_mix {σ : Type} (pass : σ → Edge → σ) (wanted : σ → Bool) (In : Int → Bool) (s0 : σ) (L : List Edge) (E : List Int) (v : List Sp)
    (hu : Up L) (hst : ∀ q x r, L = q ++ x :: r → more x r = false → wanted (([] ++ q ++ [x]).foldl pass s0) = In x.1)
    (hE : Inc E) (hm : ∀ x, x ∈ E ↔ x ∈ vals v) (hL : ∀ x, (∃ e ∈ L, e.1 = x) ↔ x ∈ vals v) (hIn : ∀ x, (∀ s ∈ v, s.2 ≤ x) → In x = false) :
    sweepL pass wanted L s0 false 0 [] = mixL In E [] := by
  have h1 : spots L = E := inc_eq _ _ (spots_inc L hu) hE fun x => by rw [spots_mem, hL, hm]
  have h2 := sweep_runs pass wanted In s0 L [] false 0 [] (fun q x r e hmm => hst q x r e hmm)
  rw [show ([] : List Edge).foldl pass s0 = s0 from rfl] at h2
  rw [h2, h1]
  by_cases h0 : E = []
  · rw [h0]; rfl
  · refine runs_mix In E false 0 [] [] hE (fun x hx => hIn x fun s hs => ?_) h0 (fun x r _ => by rw [if_neg Bool.false_ne_true]; exact ⟨rfl, fun s hs => by simp at hs⟩)
    exact inc_last hE hx s.2 ((hm _).2 ((vals_mem v s.2).2 ⟨s, hs, .inr rfl⟩))

end Go.SetM

/- The mathematics of lists of spans, for the theorem of sets: what a sweep makes has just the wanted days, and is normal; normal lists with the same days are one. -/
namespace Go.SetM

def runsT (In : Int → Bool) : List Int → Bool → Int → List Sp
  | [], _, _ => []
  | x :: r, o, f => if In x == o then runsT In r o f else if o then (f, x) :: runsT In r false x else runsT In r true x

theorem runs_tail (In : Int → Bool) : ∀ (E : List Int) (o : Bool) (f : Int) (out : List Sp), runs In E o f out = out ++ runsT In E o f
  | [], _, _, out => by simp [runs, runsT]
  | x :: r, o, f, out => by
    unfold runs runsT
    by_cases hc : (In x == o) = true
    · rw [if_pos hc, if_pos hc, runs_tail In r]
    · rw [if_neg hc, if_neg hc, runs_tail In r]
      cases o with
      | true => rw [if_pos rfl, if_pos rfl]; simp
      | false => rw [if_neg Bool.false_ne_true, if_neg Bool.false_ne_true]; rfl

theorem runs_len (In : Int → Bool) : ∀ (E : List Int) (o : Bool) (f : Int), 2 * (runsT In E o f).length ≤ E.length + (if o then 1 else 0)
  | [], o, f => by simp [runsT]
  | x :: r, o, f => by
    unfold runsT
    by_cases hc : (In x == o) = true
    · rw [if_pos hc]
      have := runs_len In r o f
      simp only [List.length_cons]; omega
    · rw [if_neg hc]
      cases o with
      | true =>
        have := runs_len In r false x
        simp at this ⊢; omega
      | false =>
        have := runs_len In r true x
        simp at this ⊢; omega

/-- What is wanted turns at these places alone, and is not wanted from the last one on. -/
def fitsB (In : Int → Bool) : List Int → Prop
  | [] => True
  | [x] => ∀ z, x ≤ z → In z = false
  | x :: y :: r => (∀ z, x ≤ z → z < y → In z = In x) ∧ fitsB In (y :: r)

theorem has_cons (s : Sp) (l : List Sp) (x : Int) : hasD (s :: l) x = (decide (s.1 ≤ x) && decide (x < s.2) || hasD l x) := rfl

theorem has_lt {l : List Sp} {x : Int} (h : ∀ s ∈ l, x < s.1) : hasD l x = false := by
  unfold hasD
  rw [Bool.eq_false_iff]
  intro hh
  obtain ⟨s, hs, hc⟩ := List.any_eq_true.1 hh
  have := h s hs
  simp at hc
  omega

theorem runsT_all (In : Int → Bool) : ∀ (r : List Int) (x : Int) (o : Bool) (f : Int), Inc (x :: r) → fitsB In (x :: r) → (o = true → f < x) →
    (∀ z, x ≤ z → hasD (runsT In (x :: r) o f) z = In z) ∧ (∀ z, z < x → hasD (runsT In (x :: r) o f) z = (o && decide (f ≤ z))) ∧
    normal (runsT In (x :: r) o f) ∧ ∀ s ∈ runsT In (x :: r) o f, (if o then f else x) ≤ s.1
  | [], x, o, f, _, hf, ho => by
    have hx : ∀ z, x ≤ z → In z = false := hf
    have h0 := hx x (Int.le_refl _)
    unfold runsT
    rw [h0]
    cases o with
    | true =>
      have := ho rfl
      rw [if_neg (by decide), if_pos rfl]
      refine ⟨fun z hz => ?_, fun z hz => ?_, ⟨this, by simp [runsT], by simp [runsT, normal]⟩, fun s hs => ?_⟩
      · rw [hx z hz, has_cons, decide_eq_false (p := z < x) (by omega), Bool.and_false]; rfl
      · rw [has_cons, decide_eq_true (p := z < x) hz, Bool.and_true, Bool.true_and]
        show (decide (f ≤ z) || hasD (runsT In [] false x) z) = _
        simp [runsT, hasD]
      · simp [runsT] at hs; subst hs; simp
    | false =>
      rw [if_pos (by decide)]
      refine ⟨fun z hz => by rw [hx z hz]; rfl, fun z _ => rfl, trivial, fun s hs => by simp [runsT] at hs⟩
  | y :: r, x, o, f, hi, hf, ho => by
    have hxy : x < y := (List.pairwise_cons.1 hi).1 y (by simp)
    have hi2 : Inc (y :: r) := (List.pairwise_cons.1 hi).2
    obtain ⟨hz1, hf2⟩ := hf
    have e : runsT In (x :: y :: r) o f = if In x == o then runsT In (y :: r) o f else if o then (f, x) :: runsT In (y :: r) false x else runsT In (y :: r) true x := rfl
    rw [e]
    by_cases hc : (In x == o) = true
    · rw [if_pos hc]
      have hco : In x = o := by simpa using hc
      obtain ⟨i1, i2, i3, i4⟩ := runsT_all In r y o f hi2 hf2 (fun h => by have := ho h; omega)
      refine ⟨fun z hz => ?_, fun z hz => i2 z (by omega), i3, fun s hs => ?_⟩
      · by_cases hzy : y ≤ z
        · exact i1 z hzy
        · rw [i2 z (by omega), hz1 z hz (by omega), hco]
          cases o with
          | true => have := ho rfl; rw [decide_eq_true (by omega : f ≤ z)]; rfl
          | false => rfl
      · have := i4 s hs
        cases o with
        | true => simpa using this
        | false => simp at this ⊢; omega
    · rw [if_neg hc]
      cases o with
      | true =>
        have hco : In x = false := by cases h : In x <;> simp_all
        have hfx := ho rfl
        rw [if_pos rfl]
        obtain ⟨i1, i2, i3, i4⟩ := runsT_all In r y false x hi2 hf2 (fun h => by cases h)
        refine ⟨fun z hz => ?_, fun z hz => ?_, ⟨hfx, fun t ht => ?_, i3⟩, fun s hs => ?_⟩
        · rw [has_cons]
          show (_ && decide (z < x) || _) = _
          rw [decide_eq_false (p := z < x) (by omega), Bool.and_false, Bool.false_or]
          by_cases hzy : y ≤ z
          · exact i1 z hzy
          · rw [i2 z (by omega), hz1 z hz (by omega), hco]; rfl
        · rw [has_cons, i2 z (by omega)]
          show (decide (f ≤ z) && decide (z < x) || _) = _
          rw [decide_eq_true (p := z < x) hz]; simp
        · have := i4 t ht
          simp at this
          show x < t.1
          omega
        · rcases List.mem_cons.1 hs with rfl | hs
          · simp
          · have := i4 s hs
            simp at this ⊢; omega
      | false =>
        have hco : In x = true := by cases h : In x <;> simp_all
        rw [if_neg Bool.false_ne_true]
        obtain ⟨i1, i2, i3, i4⟩ := runsT_all In r y true x hi2 hf2 (fun _ => hxy)
        refine ⟨fun z hz => ?_, fun z hz => ?_, i3, fun s hs => ?_⟩
        · by_cases hzy : y ≤ z
          · exact i1 z hzy
          · rw [i2 z (by omega), hz1 z hz (by omega), hco, decide_eq_true (p := x ≤ z) hz]; rfl
        · rw [i2 z (by omega), decide_eq_false (p := x ≤ z) (by omega)]; rfl
        · have := i4 s hs
          simpa using this

/-- Normal lists with the same days are one. -/
theorem norm_eq : ∀ (a b : List Sp), normal a → normal b → (∀ x, hasD a x = hasD b x) → a = b
  | [], [], _, _, _ => rfl
  | [], t :: b, _, hb, h => by
    have := h t.1
    rw [has_cons, decide_eq_true (Int.le_refl _), decide_eq_true hb.1] at this
    simp [hasD] at this
  | s :: a, [], ha, _, h => by
    have := h s.1
    rw [has_cons, decide_eq_true (Int.le_refl _), decide_eq_true ha.1] at this
    simp [hasD] at this
  | s :: a, t :: b, ha, hb, h => by
    obtain ⟨a1, a2, a3⟩ := ha
    obtain ⟨b1, b2, b3⟩ := hb
    have hal : ∀ x, x ≤ s.2 → hasD a x = false := fun x hx => has_lt fun u hu => by have := a2 u hu; omega
    have hbl : ∀ x, x ≤ t.2 → hasD b x = false := fun x hx => has_lt fun u hu => by have := b2 u hu; omega
    have k : ∀ x, x ≤ s.2 → x ≤ t.2 → (decide (s.1 ≤ x) && decide (x < s.2)) = (decide (t.1 ≤ x) && decide (x < t.2)) := fun x h1 h2 => by
      have := h x
      rw [has_cons, has_cons, hal x h1, hbl x h2, Bool.or_false, Bool.or_false] at this
      exact this
    have e1 : s.1 = t.1 := by
      rcases Int.lt_trichotomy s.1 t.1 with hlt | he | hgt
      · have := k s.1 (by omega) (by omega)
        rw [decide_eq_true (Int.le_refl _), decide_eq_true a1, decide_eq_false (p := t.1 ≤ s.1) (by omega)] at this
        simp at this
      · exact he
      · have := k t.1 (by omega) (by omega)
        rw [decide_eq_true (p := t.1 ≤ t.1) (Int.le_refl _), decide_eq_true (p := t.1 < t.2) b1, decide_eq_false (p := s.1 ≤ t.1) (by omega)] at this
        simp at this
    have e2 : s.2 = t.2 := by
      rcases Int.lt_trichotomy s.2 t.2 with hlt | he | hgt
      · have := k s.2 (by omega) (by omega)
        rw [decide_eq_false (p := s.2 < s.2) (by omega), decide_eq_true (p := t.1 ≤ s.2) (by omega), decide_eq_true hlt] at this
        simp at this
      · exact he
      · have := k t.2 (by omega) (by omega)
        rw [decide_eq_false (p := t.2 < t.2) (by omega), decide_eq_true (p := s.1 ≤ t.2) (by omega), decide_eq_true (p := t.2 < s.2) hgt] at this
        simp at this
    have e : s = t := Prod.ext e1 e2
    subst e
    rw [norm_eq a b a3 b3 fun x => ?_]
    by_cases hx : x ≤ s.2
    · rw [hal x hx, hbl x hx]
    · have := h x
      rw [has_cons, has_cons, decide_eq_false (p := x < s.2) (by omega), Bool.and_false, Bool.false_or, Bool.false_or] at this
      exact this

/-- Between ends nothing turns. -/
theorem has_const {l : List Sp} {x z : Int} (hxz : x ≤ z) (h : ∀ v ∈ vals l, v ≤ x ∨ z < v) : hasD l z = hasD l x := by
  unfold hasD
  rw [Bool.eq_iff_iff, List.any_eq_true, List.any_eq_true]
  constructor
  · rintro ⟨s, hs, hc⟩
    have h1 := h s.1 ((vals_mem l _).2 ⟨s, hs, .inl rfl⟩)
    have h2 := h s.2 ((vals_mem l _).2 ⟨s, hs, .inr rfl⟩)
    refine ⟨s, hs, ?_⟩
    simp at hc ⊢
    omega
  · rintro ⟨s, hs, hc⟩
    have h1 := h s.1 ((vals_mem l _).2 ⟨s, hs, .inl rfl⟩)
    have h2 := h s.2 ((vals_mem l _).2 ⟨s, hs, .inr rfl⟩)
    refine ⟨s, hs, ?_⟩
    simp at hc ⊢
    omega

/-- A mix of two lists: what is wanted hangs on which of them has a day, and none is wanted that neither has. -/
def mixIn (g : Bool → Bool → Bool) (a b : List Sp) (x : Int) : Bool := g (hasD a x) (hasD b x)

theorem mix_fits (g : Bool → Bool → Bool) (h0 : g false false = false) (a b : List Sp) : ∀ (E : List Int), Inc E → (∀ v, v ∈ vals a ∨ v ∈ vals b → v ∈ E ∨ ∀ e ∈ E, v < e) →
    fitsB (mixIn g a b) E
  | [], _, _ => trivial
  | [x], _, h => fun z hz => by
    have key : ∀ l : List Sp, (∀ v ∈ vals l, v ∈ vals a ∨ v ∈ vals b) → hasD l z = false := fun l hl => has_last fun s hs => by
      have := h s.2 (hl _ ((vals_mem l _).2 ⟨s, hs, .inr rfl⟩))
      simp at this
      omega
    unfold mixIn
    rw [key a fun v hv => .inl hv, key b fun v hv => .inr hv, h0]
  | x :: y :: r, hi, h => by
    have hxy : ∀ e ∈ r, y < e := (List.pairwise_cons.1 (List.pairwise_cons.1 hi).2).1
    have key : ∀ (l : List Sp) (z : Int), (∀ v ∈ vals l, v ∈ vals a ∨ v ∈ vals b) → x ≤ z → z < y → hasD l z = hasD l x := fun l z hl h1 h2 => has_const h1 fun v hv => by
      rcases h v (hl v hv) with hm | hm
      · rcases List.mem_cons.1 hm with rfl | hm
        · exact .inl (Int.le_refl _)
        · rcases List.mem_cons.1 hm with rfl | hm
          · exact .inr h2
          · have := hxy v hm; exact .inr (by omega)
      · have := hm x (by simp); exact .inl (by omega)
    refine ⟨fun z h1 h2 => ?_, mix_fits g h0 a b (y :: r) (List.pairwise_cons.1 hi).2 fun v hv => ?_⟩
    · unfold mixIn
      rw [key a z (fun v hv => .inl hv) h1 h2, key b z (fun v hv => .inr hv) h1 h2]
    · rcases h v hv with hm | hm
      · rcases List.mem_cons.1 hm with rfl | hm
        · refine .inr fun e he => ?_
          exact (List.pairwise_cons.1 hi).1 e he
        · exact .inl hm
      · exact .inr fun e he => hm e (by simp [List.mem_cons.1 he])

/-- What a mix makes: just the wanted days, and a normal list. -/
theorem mix_all (g : Bool → Bool → Bool) (h0 : g false false = false) (a b : List Sp) (E : List Int) (hi : Inc E) (hE : ∀ v, v ∈ E ↔ v ∈ vals a ∨ v ∈ vals b) :
    (∀ x, hasD (runs (mixIn g a b) E false 0 []) x = mixIn g a b x) ∧ normal (runs (mixIn g a b) E false 0 []) ∧ 2 * (runs (mixIn g a b) E false 0 []).length ≤ E.length := by
  have hf := mix_fits g h0 a b E hi fun v hv => .inl ((hE v).2 hv)
  have hl := runs_len (mixIn g a b) E false 0
  rw [runs_tail, List.nil_append]
  cases E with
  | nil =>
    have key : ∀ l : List Sp, (∀ v ∈ vals l, v ∈ vals a ∨ v ∈ vals b) → l = [] := fun l hl => by
      cases l with
      | nil => rfl
      | cons s l =>
        have := (hE s.1).2 (hl s.1 ((vals_mem _ _).2 ⟨s, by simp, .inl rfl⟩))
        simp at this
    rw [key a fun v hv => .inl hv, key b fun v hv => .inr hv]
    exact ⟨fun x => by simp [runsT, mixIn, hasD, h0], trivial, by simp [runsT]⟩
  | cons x r =>
    obtain ⟨i1, i2, i3, _⟩ := runsT_all (mixIn g a b) r x false 0 hi hf (fun h => by cases h)
    refine ⟨fun z => ?_, i3, by simpa using hl⟩
    by_cases hz : x ≤ z
    · exact i1 z hz
    · rw [i2 z (by omega)]
      have key : ∀ l : List Sp, (∀ v ∈ vals l, v ∈ vals a ∨ v ∈ vals b) → hasD l z = false := fun l hl => has_lt fun s hs => by
        have := (hE s.1).2 (hl s.1 ((vals_mem _ _).2 ⟨s, hs, .inl rfl⟩))
        rcases List.mem_cons.1 this with e | hm
        · omega
        · have := (List.pairwise_cons.1 hi).1 _ hm; omega
      unfold mixIn
      rw [key a fun v hv => .inl hv, key b fun v hv => .inr hv, h0]
      rfl

end Go.SetM

/- The seat: lists of spans: which are formed, which are normal, which days they have. -/
namespace Go.Proofs.YtfhljcpicdabmaaGreatDoor
open Go Go.RowKit Go.Ev Go.WayM
open Go.SetM hiding Sp
set_option maxRecDepth 100000
set_option maxHeartbeats 1000000
abbrev Max63 : Nat := 9223372036854775807
theorem has_next {l : List Sp} {k : Nat} {p : Sp} (x : Int) (h : l[k]? = some p) : hasD (l.take (k + 1)) x = (hasD (l.take k) x || (decide (p.1 ≤ x) && decide (x < p.2))) := by
  unfold hasD; rw [take_next h, List.any_append]; simp
theorem has_take {l : List Sp} {k : Nat} {p : Sp} {x : Int} (h : l[k]? = some p) (h1 : p.1 ≤ x) (h2 : x < p.2) : hasD l x = true := by
  unfold hasD
  exact List.any_eq_true.2 ⟨p, List.mem_of_getElem? h, by simp [h1, h2]⟩
theorem has_any (s : Value) (l : List Sp) (x : Int) (w : World) (h : SpAt w s l) (hl : l.length ≤ 9223372036854775807) : Calls Tryz.prog 70 #[s, .int .i64 x] w fun e w' => e = .returned (.bool (hasD l x)) ∧ w = w' := by
  obtain ⟨A, c, rfl, _⟩ := id h
  obtain ⟨n, hn⟩ : ∃ n, Hid (l.length = n) := ⟨_, Lib.hid rfl⟩
  rw [hn.out] at h hl ⊢
  go_enter Tryz.func70, Tryz.ntmps70
  go_wp2
  go_loop [5] (fun u5 => ∃ k : Nat, k ≤ n ∧ u5 = .int .i64 k ∧ Hid (hasD (l.take k) x = false)) (fun u5 => n - (intOf u5).toNat)
  case atStart => exact ⟨0, by omega, rfl, Lib.hid rfl⟩
  case round =>
    obtain ⟨k, hk, rfl, hno⟩ := hrel
    by_cases hlt : k < n
    · obtain ⟨p, hp⟩ : ∃ p, l[k]? = some p := ⟨_, List.getElem?_eq_getElem (by have := hn.out; omega)⟩
      obtain ⟨g, o, rfl, hg, d0, d1⟩ := h.get hp
      have HP := Lib.hid hp
      clear hp
      by_cases h1 : p.1 ≤ x
      · by_cases h2 : x < p.2
        · go_wp2
          go_ret
          exact ⟨ret_b (has_take HP.out h1 h2).symm, rfl⟩
        · have h2b : decide (x < p.2) = false := decide_eq_false h2
          go_wp2
          go_round
          case rel =>
            refine ⟨k + 1, by omega, by go_num, Lib.hid ?_⟩
            rw [has_next x HP.out, hno.out, decide_eq_false h2, Bool.and_false]; rfl
          case measure => simp [intOf]; omega
      · have h1b : decide (p.1 ≤ x) = false := decide_eq_false h1
        go_wp2
        go_round
        case rel =>
          refine ⟨k + 1, by omega, by go_num, Lib.hid ?_⟩
          rw [has_next x HP.out, hno.out, decide_eq_false h1, Bool.false_and]; rfl
        case measure => simp [intOf]; omega
    · have hkn : k = n := by omega
      have HK := Lib.hid hkn
      clear hkn
      go_wp2
      go_ret
      have := hno.out
      rw [HK.out, ← hn.out, List.take_length] at this
      exact ⟨ret_b this.symm, rfl⟩
/-- The specification's mixes. -/
def mixG (m : Int) (a b : Bool) : Bool := if m = 1 then a || b else if m = 2 then a && b else a && !b
theorem in_any (s1 s2 : Value) (a b : List Sp) (m x : Int) (w : World) (h1 : SpAt w s1 a) (h2 : SpAt w s2 b) (l1 : a.length ≤ 9223372036854775807) (l2 : b.length ≤ 9223372036854775807) (hm : m = 1 ∨ m = 2 ∨ m = 3) :
    Calls Tryz.prog 157 #[s1, s2, .int .i64 m, .int .i64 x] w fun e w' => e = .returned (.bool (mixG m (hasD a x) (hasD b x))) ∧ w = w' := by
  have ca := has_any s1 a x w h1 l1
  have cb := has_any s2 b x w h2 l2
  clear h1 h2
  generalize hasD a x = p at ca ⊢
  generalize hasD b x = q at cb ⊢
  rcases hm with rfl | rfl | rfl <;> cases p <;> cases q
  all_goals
    go_enter Tryz.func157, Tryz.ntmps157
    go_wp2_with (first | (go_at_call 70; with_reducible refine ca.mono ?_; rintro e w1 ⟨rfl, rfl⟩) | (go_at_call 70; with_reducible refine cb.mono ?_; rintro e w1 ⟨rfl, rfl⟩))
    go_ret
    exact ⟨rfl, rfl⟩
theorem isList_any (s : Value) (l : List Sp) (W0 : World) (h : SpAt W0 s l) (hl : l.length ≤ 9223372036854775807) : Calls Tryz.prog 98 #[s] W0 fun e w' => e = .returned (.bool (spansB l)) ∧ Below W0.heap.size W0 w' := by
  obtain ⟨A, c, rfl, _⟩ := id h
  obtain ⟨n, hn⟩ : ∃ n, Hid (l.length = n) := ⟨_, Lib.hid rfl⟩
  rw [hn.out] at h hl ⊢
  have HL := Lib.hid h
  clear h
  by_cases h60 : n ≤ 60
  · have h60b : decide ((60 : Int) < (n : Int)) = false := decide_eq_false (by omega)
    go_enter Tryz.func98, Tryz.ntmps98
    go_wp2
    go_loopw [10] (fun u10 wr => ∃ k : Nat, k ≤ n ∧ u10 = .int .i64 k ∧ Hid (∀ (i : Nat) (p : Sp), i < k → l[i]? = some p → spanB p.1 p.2 = true) ∧ Below W0.heap.size W0 wr) (fun u10 _ => n - (intOf u10).toNat)
    case atStart => exact ⟨0, by omega, rfl, Lib.hid fun i p hi => by omega, Below.refl _ _⟩
    case round =>
      obtain ⟨k, hk0, rfl, hall, hbw⟩ := hrel
      by_cases hlt : k < n
      · obtain ⟨p, hp⟩ : ∃ p, l[k]? = some p := ⟨_, List.getElem?_eq_getElem (by have := hn.out; omega)⟩
        obtain ⟨g, o, rfl, hg, c0, c1⟩ := (HL.out.below hbw (Nat.le_refl _)).get hp
        have HP := Lib.hid hp
        clear hp
        obtain ⟨q, hk⟩ : ∃ q, Hid (spanB p.1 p.2 = q) := ⟨_, Lib.hid rfl⟩
        have hbw1 := hbw.alloc hbw.size (.cells #[.int .i64 p.1, .int .i64 p.2] 48)
        go_wp2_with fail
        refine (spanP p.1 p.2 q _ hk.out).mono ?_
        rintro e w1 ⟨rfl, b1⟩
        have hbw2 := hbw1.trans (b1.mono hbw1.size)
        clear b1 hbw hbw1 c0 c1
        cases q with
        | true =>
          go_wp2
          go_roundw
          case rel =>
            refine ⟨k + 1, by omega, by go_num, Lib.hid fun i p' hi hp' => ?_, hbw2⟩
            by_cases hik : i = k
            · subst hik; rw [HP.out] at hp'; cases hp'; exact hk.out
            · exact hall.out i p' (by omega) hp'
          case measure => simp [intOf]; omega
        | false =>
          go_wp2
          go_ret
          exact ⟨ret_b (spansB_no HP.out hk.out).symm, hbw2⟩
      · go_wp2
        go_ret
        exact ⟨ret_b (spansB_yes (by rw [hn.out]; exact h60) fun i p hp => hall.out i p (by have := (List.getElem?_eq_some_iff.1 hp).1; have := hn.out; omega) hp).symm, hbw⟩
  · have h60b : decide ((60 : Int) < (n : Int)) = true := decide_eq_true (by omega)
    go_enter Tryz.func98, Tryz.ntmps98
    go_wp2
    go_ret
    exact ⟨ret_b (by unfold spansB; rw [decide_eq_false (by rw [hn.out]; exact h60), Bool.false_and]), Below.refl _ _⟩
end Go.Proofs.YtfhljcpicdabmaaGreatDoor

/- The seat: normal lists of spans, on both sides. -/
namespace Go.Proofs.YtfhljcpicdabmaaGreatDoor
open Go Go.RowKit Go.Ev Go.WayM
open Go.SetM hiding Sp
set_option maxRecDepth 100000
set_option maxHeartbeats 1000000
def gapB (l : List Sp) (k : Nat) : Bool := (List.range k).all fun i => decide (i = 0) || decide ((WayM.nth l (i - 1)).2 < (WayM.nth l i).1)
def normB (l : List Sp) : Bool := spansB l && gapB l l.length
theorem gapB_next (l : List Sp) (k : Nat) : gapB l (k + 1) = (gapB l k && (decide (k = 0) || decide ((WayM.nth l (k - 1)).2 < (WayM.nth l k).1))) := all_succ _ k
theorem gapB_le {l : List Sp} {j k : Nat} (h : gapB l k = true) (hj : j ≤ k) : gapB l j = true := by
  unfold gapB at h ⊢
  rw [List.all_eq_true] at h ⊢
  exact fun i hi => h i (List.mem_range.2 (by have := List.mem_range.1 hi; omega))
theorem gapB_no {l : List Sp} {k : Nat} (hk : k < l.length) (h : (decide (k = 0) || decide ((WayM.nth l (k - 1)).2 < (WayM.nth l k).1)) = false) : gapB l l.length = false := by
  unfold gapB
  exact List.all_eq_false.2 ⟨k, List.mem_range.2 hk, by rw [h]; exact Bool.false_ne_true⟩
theorem isNormal_any (s : Value) (l : List Sp) (W0 : World) (h : SpAt W0 s l) (hl : l.length ≤ 9223372036854775807) : Calls Tryz.prog 158 #[s] W0 fun e w' => e = .returned (.bool (normB l)) ∧ Below W0.heap.size W0 w' := by
  have cL := isList_any s l W0 h hl
  obtain ⟨A, c, rfl, _⟩ := id h
  obtain ⟨n, hn⟩ : ∃ n, Hid (l.length = n) := ⟨_, Lib.hid rfl⟩
  rw [hn.out] at h hl cL ⊢
  have HL := Lib.hid h
  clear h
  cases hq : spansB l with
  | false =>
    rw [hq] at cL
    have HQ := Lib.hid hq
    clear hq
    go_enter Tryz.func158, Tryz.ntmps158
    go_wp2_with fail
    refine cL.mono ?_
    rintro e w1 ⟨rfl, b1⟩
    go_wp2
    go_ret
    exact ⟨ret_b (by unfold normB; rw [HQ.out]; rfl), b1⟩
  | true =>
    rw [hq] at cL
    have HQ := Lib.hid hq
    have h60 : n ≤ 60 := by
      unfold spansB at hq
      rw [Bool.and_eq_true, decide_eq_true_eq, hn.out] at hq
      exact hq.1
    clear hq
    go_enter Tryz.func158, Tryz.ntmps158
    go_wp2_with fail
    refine cL.mono ?_
    rintro e w1 ⟨rfl, b1⟩
    go_wp2
    go_loopw [3] (fun u3 wr => ∃ j : Nat, j ≤ n ∧ u3 = .int .i64 ((j : Int) + 1) ∧ Hid (gapB l (j + 1) = true) ∧ Below W0.heap.size W0 wr) (fun u3 _ => n + 2 - (intOf u3).toNat)
    case atStart => exact ⟨0, by omega, rfl, Lib.hid rfl, b1⟩
    case round =>
      obtain ⟨j, hj, rfl, hgap, hbw⟩ := hrel
      by_cases hlt : j + 1 < n
      · have hp := nth_get (l := l) (i := j + 1) (by have := hn.out; omega)
        have hq := nth_get (l := l) (i := j) (by have := hn.out; omega)
        obtain ⟨p, hpp⟩ : ∃ p, Hid (WayM.nth l (j + 1) = p) := ⟨_, Lib.hid rfl⟩
        obtain ⟨q, hqq⟩ : ∃ q, Hid (WayM.nth l j = q) := ⟨_, Lib.hid rfl⟩
        rw [hpp.out] at hp
        rw [hqq.out] at hq
        have hl1 := HL.out.below hbw (Nat.le_refl _)
        obtain ⟨g, o, rfl, hg, c0, c1⟩ := hl1.get hp
        obtain ⟨g', o', he, _, e0, e1⟩ := hl1.get hq
        cases he
        have hstep : Hid ((decide (j + 1 = 0) || decide ((WayM.nth l (j + 1 - 1)).2 < (WayM.nth l (j + 1)).1)) = decide (q.2 < p.1)) := Lib.hid (by rw [show j + 1 - 1 = j by omega, hpp.out, hqq.out]; simp)
        clear hp hq hl1
        have bj1 : (0 : Int) ≤ j := by omega
        have bj2 : (j : Int) + 1 < n := by omega
        have bj3 : (j : Int) < n := by omega
        by_cases hc : q.2 < p.1
        · have hcb : decide (p.1 ≤ q.2) = false := decide_eq_false (by omega)
          go_wp2
          go_quiet (fail)
          go_wp2
          go_roundw
          case rel =>
            refine ⟨j + 1, by omega, by go_num, Lib.hid ?_, drewN_below hbw _⟩
            rw [gapB_next, hgap.out, hstep.out, decide_eq_true hc]; rfl
          case measure => simp [intOf]; omega
        · have hcb : decide (p.1 ≤ q.2) = true := decide_eq_true (by omega)
          go_wp2
          go_quiet (fail)
          go_wp2
          go_ret
          exact ⟨ret_b (by unfold normB; rw [gapB_no (k := j + 1) (by have := hn.out; omega) (by rw [hstep.out]; exact decide_eq_false (by omega)), Bool.and_false]), drewN_below hbw _⟩
      · go_wp2
        go_ret
        exact ⟨ret_b (by unfold normB; rw [HQ.out, gapB_le hgap.out (by have := hn.out; omega)]; rfl), hbw⟩
abbrev PairAt (W1 : World) (g a b : Nat) (p q : Sp) (w : World) : Prop := w.cell? ⟨g, a, none⟩ = some (.int .i64 p.1) ∧ w.cell? ⟨g, a + 1, none⟩ = some (.int .i64 p.2) ∧ w.cell? ⟨g, b + 1, none⟩ = some (.int .i64 q.2) ∧ Below W1.heap.size W1 w
theorem pairAt_below {W1 : World} {g a b : Nat} {p q : Sp} {w : World} (h : PairAt W1 g a b p q w) : Below W1.heap.size W1 w := h.2.2.2
theorem spansN_any (s : Value) (l : List Sp) (W0 : World) (h : SpAt W0 s l) (hl : l.length ≤ 9223372036854775807) : Calls Tryz.prog 68 #[s, .bool true] W0 fun e w' => e = .returned (.bool (normB l)) ∧ Below W0.heap.size W0 w' := by
  obtain ⟨A, c, rfl, _⟩ := id h
  obtain ⟨n, hn⟩ : ∃ n, Hid (l.length = n) := ⟨_, Lib.hid rfl⟩
  rw [hn.out] at h hl ⊢
  have HL := Lib.hid h
  clear h
  by_cases h60 : n ≤ 60
  · have h60b : decide ((60 : Int) < (n : Int)) = false := decide_eq_false (by omega)
    go_enter Tryz.func68, Tryz.ntmps68
    go_wp2
    go_loopw [5] (fun u5 wr => ∃ k : Nat, k ≤ n ∧ u5 = .int .i64 k ∧ Hid (∀ (i : Nat) (p : Sp), i < k → l[i]? = some p → spanB p.1 p.2 = true) ∧ Hid (gapB l k = true) ∧ Below W0.heap.size W0 wr) (fun u5 _ => n - (intOf u5).toNat)
    case atStart => exact ⟨0, by omega, rfl, Lib.hid fun i p hi => by omega, Lib.hid rfl, Below.refl _ _⟩
    case round =>
      obtain ⟨k, hk0, rfl, hall, hgap, hbw⟩ := hrel
      by_cases hlt : k < n
      · have hp := nth_get (l := l) (i := k) (by have := hn.out; omega)
        obtain ⟨p, hpp⟩ : ∃ p, Hid (WayM.nth l k = p) := ⟨_, Lib.hid rfl⟩
        rw [hpp.out] at hp
        obtain ⟨g, o, rfl, hg, c0, c1⟩ := (HL.out.below hbw (Nat.le_refl _)).get hp
        have HP := Lib.hid hp
        clear hp
        obtain ⟨q, hk⟩ : ∃ q, Hid (spanB p.1 p.2 = q) := ⟨_, Lib.hid rfl⟩
        cases q with
        | false =>
          have bi1 : (0 : Int) ≤ k := by omega
          have bi2 : (k : Int) < n := by omega
          go_wp2
          have hS0 : LoadAt wr g (o + k * 2) p wr.drew := ⟨c0, c1, Below.drew (Below.refl _ _)⟩
          refine wp_region_noPanic ?_
          refine wp_region_held (S := LoadAt wr g (o + k * 2) p) (by kernel_rfl) ?_
          refine wpAnyH_take_at 0 (some 15) (.slice (some ⟨g, o, none⟩) n c) rfl rfl (by kernel_rfl) (by kernel_rfl) (by kernel_rfl) (fun _ _ _ h => h) (.inl ⟨by rfl, fun wz hSw => ?_⟩) hS0 ?_
          · (try dsimp only at hSw); go_simp
          try simp only [Act.put, List.setIfInBounds_toArray, List.set_cons_zero, List.set_cons_succ]
          refine wpAnyH_take_at 1 (some 16) (.int .i64 k) rfl rfl (by kernel_rfl) (by kernel_rfl) (by kernel_rfl) (fun _ _ _ h => h) (.inl ⟨by rfl, fun wz hSw => ?_⟩) hS0 ?_
          · (try dsimp only at hSw); go_simp
          try simp only [Act.put, List.setIfInBounds_toArray, List.set_cons_zero, List.set_cons_succ]
          refine wpAnyH_take_at 2 (some 17) (.pointer (some ⟨g, o + k * 2, none⟩)) rfl rfl (by kernel_rfl) (by kernel_rfl) (by kernel_rfl) (fun _ _ _ h => h) (.inl ⟨by rfl, fun wz hSw => ?_⟩) hS0 ?_
          · (try dsimp only at hSw); go_simp
          try simp only [Act.put, List.setIfInBounds_toArray, List.set_cons_zero, List.set_cons_succ]
          refine wpAnyH_take_at 3 (some 18) (.agg #[.int .i64 p.1, .int .i64 p.2]) rfl rfl (by kernel_rfl) (by kernel_rfl) (by kernel_rfl) (fun _ _ _ h => h) (.inl ⟨by rfl, fun wz hSw => ?_⟩) hS0 ?_
          · (try dsimp only at hSw); go_simp
          try simp only [Act.put, List.setIfInBounds_toArray, List.set_cons_zero, List.set_cons_succ]
          refine wpAnyH_one (j := 4) (by kernel_rfl) ?_
          refine wpOp_yes' rfl rfl ?_
          go_simp
          go_at_call 111
          with_reducible refine (spanR p.1 p.2 false _ hk.out).mono ?_
          rintro e w5 ⟨rfl, hb5⟩
          have bw5 : Below wr.heap.size wr w5 := (Below.drew (Below.refl _ _)).trans (hb5.mono (Nat.le_refl _))
          have hS5 : LoadAt wr g (o + k * 2) p w5 := loadAt_of hg c0 c1 bw5
          refine ⟨hS5, ?_⟩
          try simp only [Act.put, List.setIfInBounds_toArray, List.set_cons_zero, List.set_cons_succ]
          refine wpAnyH_take_at 5 (some 20) (.bool true) rfl rfl (by kernel_rfl) (by kernel_rfl) (by kernel_rfl) (fun _ _ _ h => h) (.inl ⟨by rfl, fun wz hSw => ?_⟩) hS5 ?_
          · (try dsimp only at hSw); go_simp
          try simp only [Act.put, List.setIfInBounds_toArray, List.set_cons_zero, List.set_cons_succ]
          refine wpAnyH_take_at 6 (some 21) (.bool true) rfl rfl (by kernel_rfl) (by kernel_rfl) (by kernel_rfl) (fun _ _ _ h => h) (.inl ⟨by rfl, fun wz hSw => ?_⟩) hS5 ?_
          · (try dsimp only at hSw); go_simp
          try simp only [Act.put, List.setIfInBounds_toArray, List.set_cons_zero, List.set_cons_succ]
          refine wpAnyH_take_at 7 (some 22) (undef) rfl rfl (by kernel_rfl) (by kernel_rfl) (by kernel_rfl) (fun _ _ _ h => h) (.inr ⟨by rfl, rfl⟩) hS5 ?_
          try simp only [Act.put, List.setIfInBounds_toArray, List.set_cons_zero, List.set_cons_succ]
          refine wpAnyH_take_at 8 (some 23) (undef) rfl rfl (by kernel_rfl) (by kernel_rfl) (by kernel_rfl) (fun _ _ _ h => h) (.inr ⟨by rfl, rfl⟩) hS5 ?_
          try simp only [Act.put, List.setIfInBounds_toArray, List.set_cons_zero, List.set_cons_succ]
          refine wpAnyH_take_at 9 (some 24) (undef) rfl rfl (by kernel_rfl) (by kernel_rfl) (by kernel_rfl) (fun _ _ _ h => h) (.inr ⟨by rfl, rfl⟩) hS5 ?_
          try simp only [Act.put, List.setIfInBounds_toArray, List.set_cons_zero, List.set_cons_succ]
          refine wpAnyH_take_at 10 (some 25) (undef) rfl rfl (by kernel_rfl) (by kernel_rfl) (by kernel_rfl) (fun _ _ _ h => h) (.inr ⟨by rfl, rfl⟩) hS5 ?_
          try simp only [Act.put, List.setIfInBounds_toArray, List.set_cons_zero, List.set_cons_succ]
          refine wpAnyH_take_at 11 (some 26) (undef) rfl rfl (by kernel_rfl) (by kernel_rfl) (by kernel_rfl) (fun _ _ _ h => h) (.inr ⟨by rfl, rfl⟩) hS5 ?_
          try simp only [Act.put, List.setIfInBounds_toArray, List.set_cons_zero, List.set_cons_succ]
          refine wpAnyH_take_at 12 (some 27) (undef) rfl rfl (by kernel_rfl) (by kernel_rfl) (by kernel_rfl) (fun _ _ _ h => h) (.inr ⟨by rfl, rfl⟩) hS5 ?_
          try simp only [Act.put, List.setIfInBounds_toArray, List.set_cons_zero, List.set_cons_succ]
          refine wpAnyH_take_at 13 (some 28) (undef) rfl rfl (by kernel_rfl) (by kernel_rfl) (by kernel_rfl) (fun _ _ _ h => h) (.inr ⟨by rfl, rfl⟩) hS5 ?_
          try simp only [Act.put, List.setIfInBounds_toArray, List.set_cons_zero, List.set_cons_succ]
          refine wpAnyH_take_at 14 (some 29) (undef) rfl rfl (by kernel_rfl) (by kernel_rfl) (by kernel_rfl) (fun _ _ _ h => h) (.inr ⟨by rfl, rfl⟩) hS5 ?_
          try simp only [Act.put, List.setIfInBounds_toArray, List.set_cons_zero, List.set_cons_succ]
          refine wpAnyH_take_at 15 (some 30) (undef) rfl rfl (by kernel_rfl) (by kernel_rfl) (by kernel_rfl) (fun _ _ _ h => h) (.inr ⟨by rfl, rfl⟩) hS5 ?_
          try simp only [Act.put, List.setIfInBounds_toArray, List.set_cons_zero, List.set_cons_succ]
          refine wpAnyH_take_at 16 (some 31) (undef) rfl rfl (by kernel_rfl) (by kernel_rfl) (by kernel_rfl) (fun _ _ _ h => h) (.inr ⟨by rfl, rfl⟩) hS5 ?_
          try simp only [Act.put, List.setIfInBounds_toArray, List.set_cons_zero, List.set_cons_succ]
          refine wpAnyH_take_at 17 (some 32) (undef) rfl rfl (by kernel_rfl) (by kernel_rfl) (by kernel_rfl) (fun _ _ _ h => h) (.inr ⟨by rfl, rfl⟩) hS5 ?_
          try simp only [Act.put, List.setIfInBounds_toArray, List.set_cons_zero, List.set_cons_succ]
          refine wpAnyH_take_at 18 (some 33) (undef) rfl rfl (by kernel_rfl) (by kernel_rfl) (by kernel_rfl) (fun _ _ _ h => h) (.inr ⟨by rfl, rfl⟩) hS5 ?_
          try simp only [Act.put, List.setIfInBounds_toArray, List.set_cons_zero, List.set_cons_succ]
          refine wpAnyH_take_at 19 (some 34) (undef) rfl rfl (by kernel_rfl) (by kernel_rfl) (by kernel_rfl) (fun _ _ _ h => h) (.inr ⟨by rfl, rfl⟩) hS5 ?_
          try simp only [Act.put, List.setIfInBounds_toArray, List.set_cons_zero, List.set_cons_succ]
          refine wpAnyH_take_at 20 (some 35) (undef) rfl rfl (by kernel_rfl) (by kernel_rfl) (by kernel_rfl) (fun _ _ _ h => h) (.inr ⟨by rfl, rfl⟩) hS5 ?_
          try simp only [Act.put, List.setIfInBounds_toArray, List.set_cons_zero, List.set_cons_succ]
          refine wpAnyH_take_at 21 (some 36) (undef) rfl rfl (by kernel_rfl) (by kernel_rfl) (by kernel_rfl) (fun _ _ _ h => h) (.inr ⟨by rfl, rfl⟩) hS5 ?_
          try simp only [Act.put, List.setIfInBounds_toArray, List.set_cons_zero, List.set_cons_succ]
          refine wpAnyH_take_at 22 (some 37) (undef) rfl rfl (by kernel_rfl) (by kernel_rfl) (by kernel_rfl) (fun _ _ _ h => h) (.inr ⟨by rfl, rfl⟩) hS5 ?_
          try simp only [Act.put, List.setIfInBounds_toArray, List.set_cons_zero, List.set_cons_succ]
          refine wpAnyH_take_at 23 (some 38) (undef) rfl rfl (by kernel_rfl) (by kernel_rfl) (by kernel_rfl) (fun _ _ _ h => h) (.inr ⟨by rfl, rfl⟩) hS5 ?_
          try simp only [Act.put, List.setIfInBounds_toArray, List.set_cons_zero, List.set_cons_succ]
          refine wpAnyH_take_at 24 (some 39) (undef) rfl rfl (by kernel_rfl) (by kernel_rfl) (by kernel_rfl) (fun _ _ _ h => h) (.inr ⟨by rfl, rfl⟩) hS5 ?_
          try simp only [Act.put, List.setIfInBounds_toArray, List.set_cons_zero, List.set_cons_succ]
          refine wpAnyH_take_at 25 (some 40) (undef) rfl rfl (by kernel_rfl) (by kernel_rfl) (by kernel_rfl) (fun _ _ _ h => h) (.inr ⟨by rfl, rfl⟩) hS5 ?_
          try simp only [Act.put, List.setIfInBounds_toArray, List.set_cons_zero, List.set_cons_succ]
          refine wpAnyH_take_at 26 (some 41) (.bool true) rfl rfl (by kernel_rfl) (by kernel_rfl) (by kernel_rfl) (fun _ _ _ h => h) (.inl ⟨by rfl, fun wz hSw => ?_⟩) hS5 ?_
          · (try dsimp only at hSw); go_simp
          try simp only [Act.put, List.setIfInBounds_toArray, List.set_cons_zero, List.set_cons_succ]
          refine wpAnyH_done (by kernel_rfl) ?_ _
          simp only [NoPanic]
          go_wp2
          go_ret
          exact ⟨ret_b (by unfold normB; rw [spansB_no HP.out hk.out, Bool.false_and]), hbw.trans (bw5.mono hbw.size)⟩
        | true =>
          have hall' : Hid (∀ (i : Nat) (p : Sp), i < k + 1 → l[i]? = some p → spanB p.1 p.2 = true) := Lib.hid fun i p' hi hp' => by
            by_cases hik : i = k
            · subst hik; rw [HP.out] at hp'; cases hp'; exact hk.out
            · exact hall.out i p' (by omega) hp'
          cases k with
          | zero =>
            simp only [Nat.zero_mul, Nat.add_zero] at c0 c1
            go_wp2
            have hS0 : LoadAt wr g o p wr.drew := ⟨c0, c1, Below.drew (Below.refl _ _)⟩
            refine wp_region_noPanic ?_
            refine wp_region_held (S := LoadAt wr g o p) (by kernel_rfl) ?_
            refine wpAnyH_take_at 0 (some 15) (.slice (some ⟨g, o, none⟩) n c) rfl rfl (by kernel_rfl) (by kernel_rfl) (by kernel_rfl) (fun _ _ _ h => h) (.inl ⟨by rfl, fun wz hSw => ?_⟩) hS0 ?_
            · (try dsimp only at hSw); go_simp
            try simp only [Act.put, List.setIfInBounds_toArray, List.set_cons_zero, List.set_cons_succ]
            refine wpAnyH_take_at 1 (some 16) (.int .i64 0) rfl rfl (by kernel_rfl) (by kernel_rfl) (by kernel_rfl) (fun _ _ _ h => h) (.inl ⟨by rfl, fun wz hSw => ?_⟩) hS0 ?_
            · (try dsimp only at hSw); go_simp
            try simp only [Act.put, List.setIfInBounds_toArray, List.set_cons_zero, List.set_cons_succ]
            refine wpAnyH_take_at 2 (some 17) (.pointer (some ⟨g, o, none⟩)) rfl rfl (by kernel_rfl) (by kernel_rfl) (by kernel_rfl) (fun _ _ _ h => h) (.inl ⟨by rfl, fun wz hSw => ?_⟩) hS0 ?_
            · (try dsimp only at hSw); go_simp
            try simp only [Act.put, List.setIfInBounds_toArray, List.set_cons_zero, List.set_cons_succ]
            refine wpAnyH_take_at 3 (some 18) (.agg #[.int .i64 p.1, .int .i64 p.2]) rfl rfl (by kernel_rfl) (by kernel_rfl) (by kernel_rfl) (fun _ _ _ h => h) (.inl ⟨by rfl, fun wz hSw => ?_⟩) hS0 ?_
            · (try dsimp only at hSw); go_simp
            try simp only [Act.put, List.setIfInBounds_toArray, List.set_cons_zero, List.set_cons_succ]
            refine wpAnyH_one (j := 4) (by kernel_rfl) ?_
            refine wpOp_yes' rfl rfl ?_
            go_simp
            go_at_call 111
            with_reducible refine (spanR p.1 p.2 true _ hk.out).mono ?_
            rintro e w5 ⟨rfl, hb5⟩
            have bw5 : Below wr.heap.size wr w5 := (Below.drew (Below.refl _ _)).trans (hb5.mono (Nat.le_refl _))
            have hS5 : LoadAt wr g (o) p w5 := loadAt_of hg c0 c1 bw5
            refine ⟨hS5, ?_⟩
            try simp only [Act.put, List.setIfInBounds_toArray, List.set_cons_zero, List.set_cons_succ]
            refine wpAnyH_take_at 5 (some 20) (.bool false) rfl rfl (by kernel_rfl) (by kernel_rfl) (by kernel_rfl) (fun _ _ _ h => h) (.inl ⟨by rfl, fun wz hSw => ?_⟩) hS5 ?_
            · (try dsimp only at hSw); go_simp
            try simp only [Act.put, List.setIfInBounds_toArray, List.set_cons_zero, List.set_cons_succ]
            refine wpAnyH_take_at 6 (some 21) (.bool false) rfl rfl (by kernel_rfl) (by kernel_rfl) (by kernel_rfl) (fun _ _ _ h => h) (.inl ⟨by rfl, fun wz hSw => ?_⟩) hS5 ?_
            · (try dsimp only at hSw); go_simp
            try simp only [Act.put, List.setIfInBounds_toArray, List.set_cons_zero, List.set_cons_succ]
            refine wpAnyH_take_at 7 (some 22) (.bool true) rfl rfl (by kernel_rfl) (by kernel_rfl) (by kernel_rfl) (fun _ _ _ h => h) (.inl ⟨by rfl, fun wz hSw => ?_⟩) hS5 ?_
            · (try dsimp only at hSw); go_simp
            try simp only [Act.put, List.setIfInBounds_toArray, List.set_cons_zero, List.set_cons_succ]
            refine wpAnyH_take_at 8 (some 23) (.bool true) rfl rfl (by kernel_rfl) (by kernel_rfl) (by kernel_rfl) (fun _ _ _ h => h) (.inl ⟨by rfl, fun wz hSw => ?_⟩) hS5 ?_
            · (try dsimp only at hSw); go_simp
            try simp only [Act.put, List.setIfInBounds_toArray, List.set_cons_zero, List.set_cons_succ]
            refine wpAnyH_take_at 9 (some 24) (.int .i64 0) rfl rfl (by kernel_rfl) (by kernel_rfl) (by kernel_rfl) (fun _ _ _ h => h) (.inl ⟨by rfl, fun wz hSw => ?_⟩) hS5 ?_
            · (try dsimp only at hSw); go_simp
            try simp only [Act.put, List.setIfInBounds_toArray, List.set_cons_zero, List.set_cons_succ]
            refine wpAnyH_take_at 10 (some 25) (.bool false) rfl rfl (by kernel_rfl) (by kernel_rfl) (by kernel_rfl) (fun _ _ _ h => h) (.inl ⟨by rfl, fun wz hSw => ?_⟩) hS5 ?_
            · (try dsimp only at hSw); go_simp
            try simp only [Act.put, List.setIfInBounds_toArray, List.set_cons_zero, List.set_cons_succ]
            refine wpAnyH_take_at 11 (some 26) (.bool false) rfl rfl (by kernel_rfl) (by kernel_rfl) (by kernel_rfl) (fun _ _ _ h => h) (.inl ⟨by rfl, fun wz hSw => ?_⟩) hS5 ?_
            · (try dsimp only at hSw); go_simp
            try simp only [Act.put, List.setIfInBounds_toArray, List.set_cons_zero, List.set_cons_succ]
            refine wpAnyH_take_at 12 (some 27) (.bool false) rfl rfl (by kernel_rfl) (by kernel_rfl) (by kernel_rfl) (fun _ _ _ h => h) (.inl ⟨by rfl, fun wz hSw => ?_⟩) hS5 ?_
            · (try dsimp only at hSw); go_simp
            try simp only [Act.put, List.setIfInBounds_toArray, List.set_cons_zero, List.set_cons_succ]
            refine wpAnyH_take_at 13 (some 28) (undef) rfl rfl (by kernel_rfl) (by kernel_rfl) (by kernel_rfl) (fun _ _ _ h => h) (.inr ⟨by rfl, rfl⟩) hS5 ?_
            try simp only [Act.put, List.setIfInBounds_toArray, List.set_cons_zero, List.set_cons_succ]
            refine wpAnyH_take_at 14 (some 29) (undef) rfl rfl (by kernel_rfl) (by kernel_rfl) (by kernel_rfl) (fun _ _ _ h => h) (.inr ⟨by rfl, rfl⟩) hS5 ?_
            try simp only [Act.put, List.setIfInBounds_toArray, List.set_cons_zero, List.set_cons_succ]
            refine wpAnyH_take_at 15 (some 30) (undef) rfl rfl (by kernel_rfl) (by kernel_rfl) (by kernel_rfl) (fun _ _ _ h => h) (.inr ⟨by rfl, rfl⟩) hS5 ?_
            try simp only [Act.put, List.setIfInBounds_toArray, List.set_cons_zero, List.set_cons_succ]
            refine wpAnyH_take_at 16 (some 31) (undef) rfl rfl (by kernel_rfl) (by kernel_rfl) (by kernel_rfl) (fun _ _ _ h => h) (.inr ⟨by rfl, rfl⟩) hS5 ?_
            try simp only [Act.put, List.setIfInBounds_toArray, List.set_cons_zero, List.set_cons_succ]
            refine wpAnyH_take_at 17 (some 32) (undef) rfl rfl (by kernel_rfl) (by kernel_rfl) (by kernel_rfl) (fun _ _ _ h => h) (.inr ⟨by rfl, rfl⟩) hS5 ?_
            try simp only [Act.put, List.setIfInBounds_toArray, List.set_cons_zero, List.set_cons_succ]
            refine wpAnyH_take_at 18 (some 33) (undef) rfl rfl (by kernel_rfl) (by kernel_rfl) (by kernel_rfl) (fun _ _ _ h => h) (.inr ⟨by rfl, rfl⟩) hS5 ?_
            try simp only [Act.put, List.setIfInBounds_toArray, List.set_cons_zero, List.set_cons_succ]
            refine wpAnyH_take_at 19 (some 34) (undef) rfl rfl (by kernel_rfl) (by kernel_rfl) (by kernel_rfl) (fun _ _ _ h => h) (.inr ⟨by rfl, rfl⟩) hS5 ?_
            try simp only [Act.put, List.setIfInBounds_toArray, List.set_cons_zero, List.set_cons_succ]
            refine wpAnyH_take_at 20 (some 35) (undef) rfl rfl (by kernel_rfl) (by kernel_rfl) (by kernel_rfl) (fun _ _ _ h => h) (.inr ⟨by rfl, rfl⟩) hS5 ?_
            try simp only [Act.put, List.setIfInBounds_toArray, List.set_cons_zero, List.set_cons_succ]
            refine wpAnyH_take_at 21 (some 36) (undef) rfl rfl (by kernel_rfl) (by kernel_rfl) (by kernel_rfl) (fun _ _ _ h => h) (.inr ⟨by rfl, rfl⟩) hS5 ?_
            try simp only [Act.put, List.setIfInBounds_toArray, List.set_cons_zero, List.set_cons_succ]
            refine wpAnyH_take_at 22 (some 37) (undef) rfl rfl (by kernel_rfl) (by kernel_rfl) (by kernel_rfl) (fun _ _ _ h => h) (.inr ⟨by rfl, rfl⟩) hS5 ?_
            try simp only [Act.put, List.setIfInBounds_toArray, List.set_cons_zero, List.set_cons_succ]
            refine wpAnyH_take_at 23 (some 38) (undef) rfl rfl (by kernel_rfl) (by kernel_rfl) (by kernel_rfl) (fun _ _ _ h => h) (.inr ⟨by rfl, rfl⟩) hS5 ?_
            try simp only [Act.put, List.setIfInBounds_toArray, List.set_cons_zero, List.set_cons_succ]
            refine wpAnyH_take_at 24 (some 39) (undef) rfl rfl (by kernel_rfl) (by kernel_rfl) (by kernel_rfl) (fun _ _ _ h => h) (.inr ⟨by rfl, rfl⟩) hS5 ?_
            try simp only [Act.put, List.setIfInBounds_toArray, List.set_cons_zero, List.set_cons_succ]
            refine wpAnyH_take_at 25 (some 40) (.bool false) rfl rfl (by kernel_rfl) (by kernel_rfl) (by kernel_rfl) (fun _ _ _ h => h) (.inl ⟨by rfl, fun wz hSw => ?_⟩) hS5 ?_
            · (try dsimp only at hSw); go_simp
            try simp only [Act.put, List.setIfInBounds_toArray, List.set_cons_zero, List.set_cons_succ]
            refine wpAnyH_take_at 26 (some 41) (.bool false) rfl rfl (by kernel_rfl) (by kernel_rfl) (by kernel_rfl) (fun _ _ _ h => h) (.inl ⟨by rfl, fun wz hSw => ?_⟩) hS5 ?_
            · (try dsimp only at hSw); go_simp
            try simp only [Act.put, List.setIfInBounds_toArray, List.set_cons_zero, List.set_cons_succ]
            refine wpAnyH_done (by kernel_rfl) ?_ _
            simp only [NoPanic]
            go_wp2
            go_roundw
            case rel => exact ⟨1, by omega, by go_num, hall', Lib.hid rfl, hbw.trans (bw5.mono hbw.size)⟩
            case measure => simp [intOf]; omega
          | succ j =>
            have hq := nth_get (l := l) (i := j) (by have := hn.out; omega)
            obtain ⟨q, hqq⟩ : ∃ q, Hid (WayM.nth l j = q) := ⟨_, Lib.hid rfl⟩
            rw [hqq.out] at hq
            obtain ⟨g', o', he, _, e0, e1⟩ := (HL.out.below hbw (Nat.le_refl _)).get hq
            cases he
            have hstep : Hid ((decide (j + 1 = 0) || decide ((WayM.nth l (j + 1 - 1)).2 < (WayM.nth l (j + 1)).1)) = decide (q.2 < p.1)) := Lib.hid (by rw [show j + 1 - 1 = j by omega, hpp.out, hqq.out]; simp)
            clear hq
            have bj1 : (0 : Int) ≤ j := by omega
            have bj2 : (j : Int) + 1 < n := by omega
            have bj3 : (j : Int) < n := by omega
            have bj4 : (0 : Int) < (j : Int) + 1 := by omega
            have bj5 : (0 : Int) ≤ (j : Int) + 1 := by omega
            have bj6 : ((j : Int) + 1).toNat = j + 1 := by omega
            have bj7 : IntKind.i64.wrap (j : Int) = j := IntWalk.i64_in _ (by omega)
            have bj8 : IntKind.i64.wrap ((j : Int) + 1 - 1) = j := by rw [show (j : Int) + 1 - 1 = j by omega]; exact bj7
            have kb : Below wr.heap.size wr wr := Below.refl _ _
            obtain ⟨r, hr⟩ : ∃ r, Hid (decide (p.1 ≤ q.2) = r) := ⟨_, Lib.hid rfl⟩
            go_wp2
            go_region_held3 (PairAt wr g (o + (j + 1) * 2) (o + j * 2) p q)
              ((refine ⟨?_, ?_, ?_, ?_⟩ <;> (first | go_keep | omega | assumption | exact Below.drew (by assumption) | (rw [hcc _ _ (by first | exact hg | omega)]; first | exact c0 | exact c1 | exact e1 | go_keep) | (have := hb.size; omega))))
              (first | (go_at_call 111; with_reducible refine (spanR p.1 p.2 true _ hk.out).mono ?_; rintro e w' ⟨rfl, hb⟩; have hbW : Below wr.heap.size wr w' := Below.trans (by first | assumption | exact pairAt_below (by assumption) | exact Below.drew (by assumption)) (hb.mono (by first | omega | (simp; done) | (simp; omega))); have hsz := hbW.size; obtain ⟨hcc, hff⟩ := bcell' hb))
            have bw : Below wr.heap.size wr w' := pairAt_below (by assumption)
            have hbw2 : Below W0.heap.size W0 w' := hbw.trans (bw.mono hbw.size)
            clear bw hbw c0 c1 e0 e1 bj5 bj6 bj7 bj8
            by_cases hc : q.2 < p.1
            · have hcb : decide (p.1 ≤ q.2) = false := decide_eq_false (by omega)
              have HC := Lib.hid hc
              go_wp2
              go_roundw
              case rel =>
                refine ⟨j + 1 + 1, by omega, by go_num, hall', Lib.hid ?_, hbw2⟩
                rw [gapB_next, hgap.out, hstep.out, decide_eq_true HC.out]; rfl
              case measure => simp [intOf]; omega
            · have hcb : decide (p.1 ≤ q.2) = true := decide_eq_true (by omega)
              have HC := Lib.hid hc
              go_wp2
              go_ret
              exact ⟨ret_b (by unfold normB; rw [gapB_no (k := j + 1) (by have := hn.out; omega) (by rw [hstep.out]; exact decide_eq_false (by have := HC.out; omega)), Bool.and_false]), hbw2⟩
      · go_wp2
        go_ret
        have hsb := spansB_yes (l := l) (by rw [hn.out]; exact h60) fun i p hp => hall.out i p (by have := (List.getElem?_eq_some_iff.1 hp).1; have := hn.out; omega) hp
        exact ⟨ret_b (by unfold normB; rw [hsb, gapB_le hgap.out (by have := hn.out; omega)]; rfl), hbw⟩
  · have h60b : decide ((60 : Int) < (n : Int)) = true := decide_eq_true (by omega)
    go_enter Tryz.func68, Tryz.ntmps68
    go_wp2
    go_ret
    exact ⟨ret_b (by unfold normB spansB; rw [decide_eq_false (by rw [hn.out]; exact h60), Bool.false_and, Bool.false_and]), Below.refl _ _⟩
end Go.Proofs.YtfhljcpicdabmaaGreatDoor

/- The seat: the ends of spans, the specification's side. -/
namespace Go.Proofs.YtfhljcpicdabmaaGreatDoor
open Go Go.RowKit Go.Ev Go.WayM
open Go.SetM hiding Sp
set_option maxRecDepth 100000
set_option maxHeartbeats 1000000
theorem info3i : (Tryz.prog.info? 3).map (fun i => (i.zero, i.size, i.bytes)) = some (some (.int .i64 0), 1, 8) := by kernel_rfl
/-- The least end behind a number. -/
def LeastB (l : List Sp) (last nx : Int) : Prop := last < nx ∧ nx ≤ 5000001 ∧ (nx = 5000001 ∨ nx ∈ vals l) ∧ ∀ v ∈ vals l, last < v → nx ≤ v
theorem vals_snoc (l : List Sp) (p : Sp) : vals (l ++ [p]) = vals l ++ [p.1, p.2] := by
  unfold vals; rw [List.flatMap_append]; rfl
theorem least_step {l : List Sp} {p : Sp} {last nx nx' : Int} (h : LeastB l last nx) (h1 : last < nx') (h2 : nx' ≤ nx) (h3 : nx' = nx ∨ nx' = p.1 ∨ nx' = p.2) (h4 : last < p.1 → nx' ≤ p.1) (h5 : last < p.2 → nx' ≤ p.2) : LeastB (l ++ [p]) last nx' := by
  obtain ⟨a1, a2, a3, a4⟩ := h
  refine ⟨h1, by omega, ?_, fun v hv hl => ?_⟩
  · rw [vals_snoc]
    rcases h3 with e | e | e
    · rcases a3 with e3 | e3
      · exact .inl (by omega)
      · exact .inr (List.mem_append.2 (.inl (by rw [e]; exact e3)))
    · exact .inr (List.mem_append.2 (.inr (by rw [e]; simp)))
    · exact .inr (List.mem_append.2 (.inr (by rw [e]; simp)))
  · rw [vals_snoc, List.mem_append] at hv
    rcases hv with hv | hv
    · have := a4 v hv hl; omega
    · simp only [List.mem_cons, List.not_mem_nil, or_false] at hv
      rcases hv with rfl | rfl
      · exact h4 hl
      · exact h5 hl
/-- The ends up to a number. -/
def EndsTo (l : List Sp) (last : Int) (E : List Int) : Prop := Inc E ∧ ∀ x, x ∈ E ↔ x ∈ vals l ∧ x ≤ last
theorem ends_more {l : List Sp} {last nx : Int} {E : List Int} (h : EndsTo l last E) (hn : LeastB l last nx) (h5 : nx ≤ 5000000) : EndsTo l nx (E ++ [nx]) := by
  obtain ⟨h1, h2⟩ := h
  obtain ⟨a1, a2, a3, a4⟩ := hn
  have hm : nx ∈ vals l := a3.resolve_left (by omega)
  refine ⟨List.pairwise_append.2 ⟨h1, by simp, fun x hx y hy => ?_⟩, fun x => ?_⟩
  · rw [List.mem_singleton] at hy
    have := (h2 x).1 hx
    omega
  · rw [List.mem_append, List.mem_singleton, h2]
    constructor
    · rintro (⟨hx, hl⟩ | rfl)
      · exact ⟨hx, by omega⟩
      · exact ⟨hm, Int.le_refl _⟩
    · rintro ⟨hx, hl⟩
      by_cases hxl : x ≤ last
      · exact .inl ⟨hx, hxl⟩
      · have := a4 x hx (by omega)
        exact .inr (by omega)
def spansIn (l : List Sp) : Prop := ∀ p ∈ l, -5000000 ≤ p.1 ∧ p.1 < p.2 ∧ p.2 ≤ 5000000
theorem vals_in {l : List Sp} (h : spansIn l) : ∀ v ∈ vals l, -5000000 ≤ v ∧ v ≤ 5000000 := fun v hv => by
  obtain ⟨s, hs, e⟩ := (vals_mem l v).1 hv
  have := h s hs
  rcases e with rfl | rfl <;> omega
/-- What the specification's ends return: all ends, increasing. -/
def EndsBe (l : List Sp) (w : World) (e : Ending) (w' : World) : Prop := ∃ s E, e = .returned s ∧ w'.ownsRow w.heap.size 3 1 s E.length (E.map (Value.int .i64)) ∧ Inc E ∧ (∀ x, x ∈ E ↔ x ∈ vals l) ∧ Below w.heap.size w w'
theorem ends_any (s : Value) (l : List Sp) (W0 : World) (h : SpAt W0 s l) (hl : l.length ≤ 1000) (hin : Hid (spansIn l)) : Calls Tryz.prog 156 #[s] W0 (EndsBe l W0) := by
  obtain ⟨i0, hi0, hz0, hz1, hz2⟩ := info_parts info3i
  obtain ⟨A, c, rfl, _⟩ := id h
  obtain ⟨n, hn⟩ : ∃ n, Hid (l.length = n) := ⟨_, Lib.hid rfl⟩
  rw [hn.out] at h hl ⊢
  have HL := Lib.hid h
  clear h
  go_enter Tryz.func156, Tryz.ntmps156
  go_wp2
  go_loopw [3, 4] (fun u3 u4 wr => ∃ (E : List Int) (last : Int), u4 = .int .i64 last ∧ -5000001 ≤ last ∧ last ≤ 5000000 ∧ E.length ≤ (last + 5000001).toNat ∧ Hid (EndsTo l last E) ∧ wr.ownsRow W0.heap.size 3 1 u3 E.length (E.map (Value.int .i64)) ∧ Below W0.heap.size W0 wr) (fun _ u4 _ => (5000001 - intOf u4).toNat)
  case atStart => exact ⟨[], -5000001, rfl, by omega, by omega, by simp, Lib.hid ⟨by simp [Inc], fun x => ⟨(fun h => by cases h), fun ⟨h, h'⟩ => by have := vals_in hin.out x h; omega⟩⟩, World.ownsRow_nil _ _ _ _, Below.refl _ _⟩
  case round =>
    obtain ⟨E, last, rfl, hl1, hl2, hlen, hE, hown, hbw⟩ := hrel
    have HS := HL.out.below hbw (Nat.le_refl _)
    go_wp2
    go_loop [5, 6] (fun u5 u6 => ∃ (i : Nat) (nx : Int), i ≤ n ∧ u6 = .int .i64 i ∧ u5 = .int .i64 nx ∧ last < nx ∧ nx ≤ 5000001 ∧ Hid (LeastB (l.take i) last nx)) (fun _ u6 => n - (intOf u6).toNat)
    case atStart => exact ⟨0, 5000001, by omega, rfl, rfl, by omega, by omega, Lib.hid ⟨by omega, by omega, .inl rfl, fun v hv => by cases hv⟩⟩
    case round =>
      obtain ⟨i, nx, hi, rfl, rfl, hx1, hx2, hL⟩ := hrel
      by_cases hlt : i < n
      · obtain ⟨p, hp⟩ : ∃ p, l[i]? = some p := ⟨_, List.getElem?_eq_getElem (by have := hn.out; omega)⟩
        obtain ⟨g, o, rfl, hg, c0, c1⟩ := HS.get hp
        obtain ⟨b1, b2, b3⟩ := hin.out p (List.mem_of_getElem? hp)
        have ht := Lib.hid (take_next hp)
        clear hp
        by_cases t1 : last < p.1
        · have t2 : last < p.2 := by omega
          go_wp2
          go_round
          case rel =>
            refine ⟨i + 1, _, by omega, by go_num, rfl, by omega, by omega, Lib.hid ?_⟩
            rw [ht.out]
            exact least_step hL.out (by omega) (by omega) (by omega) (fun _ => by omega) (fun _ => by omega)
          case measure => simp [intOf]; omega
        · by_cases t2 : last < p.2
          · go_wp2
            go_round
            case rel =>
              refine ⟨i + 1, _, by omega, by go_num, rfl, by omega, by omega, Lib.hid ?_⟩
              rw [ht.out]
              exact least_step hL.out (by omega) (by omega) (by omega) (fun h => absurd h t1) (fun _ => by omega)
            case measure => simp [intOf]; omega
          · go_wp2
            go_round
            case rel =>
              refine ⟨i + 1, _, by omega, by go_num, rfl, by omega, by omega, Lib.hid ?_⟩
              rw [ht.out]
              exact least_step hL.out (by omega) (by omega) (.inl rfl) (fun h => absurd h t1) (fun h => absurd h t2)
            case measure => simp [intOf]; omega
      · have hin' : i = n := by omega
        have HI := Lib.hid hin'
        clear hin'
        have hL2 : Hid (LeastB l last nx) := Lib.hid (by have := hL.out; rw [HI.out, ← hn.out, List.take_length] at this; exact this)
        clear HS
        by_cases h5 : 5000000 < nx
        · go_wp2
          go_ret
          exact ⟨u3, E, rfl, hown, hE.out.1, fun x => ⟨fun hx => ((hE.out.2 x).1 hx).1, fun hx => (hE.out.2 x).2 ⟨hx, by
            have hv := vals_in hin.out x hx
            by_cases hc : last < x
            · have := hL2.out.2.2.2 x hx hc; omega
            · omega⟩⟩, hbw⟩
        · go_wp2_with (at_builtin; refine wpList_append_own _ rfl (.tmp 44) (.tmp 46) 66 rfl W0.heap.size 3 i0 (.int .i64 0) 1 8 Tryz.underlying66 hi0 hz0 hz1 hz2 rfl (by decide) _ _ _ rfl (hown.alloc _) ⟨_, 0, none⟩ 1 1 [.int .i64 nx] rfl rfl ?k1 ?k2 ?k3 ?k4 ?k5 ?_)
          case k2 => rfl
          case k3 => unfold maxLen; omega
          case k4 => omega
          case k5 => have := hbw.size; (try simp); omega
          intro v' w3 hown3 hg3 _
          have hbw3 : Below W0.heap.size W0 w3 := (hbw.alloc hbw.size _).grown hg3 (by simp; have := hbw.size; omega) (fun k hk => (hown.lt k hk).1)
          clear hown hbw hg3
          go_wp2
          go_roundw
          case rel =>
            refine ⟨E ++ [nx], nx, rfl, by omega, by omega, by rw [List.length_append]; simp; omega, Lib.hid (ends_more hE.out hL2.out (by omega)), ?_, hbw3⟩
            rw [List.map_append, List.length_append]
            exact hown3
          case measure => simp [intOf]; omega
end Go.Proofs.YtfhljcpicdabmaaGreatDoor

/- The seat: two lists of spans, mixed, the specification's side. -/
namespace Go.Proofs.YtfhljcpicdabmaaGreatDoor
open Go Go.RowKit Go.Ev Go.WayM
open Go.SetM hiding Sp
set_option maxRecDepth 100000
set_option maxHeartbeats 2000000
theorem run_append_spL {w : World} {base ty : Nat} {v : Value} {n : Nat} {xs : List Value} (hown : w.ownsRow base 48 2 v n xs) {A : Option Addr} {m c : Nat} {l : List Sp} (hsp : SpAt w (.slice A m c) l) (hn : n ≤ 100000) (hm : m ≤ 100000) (hb : base ≤ w.heap.size) :
    ∃ v' w', (Builtin.append_ #[42, 42] ty #[v, .slice A m c]).run Tryz.prog w = .ok v' w' ∧ w'.ownsRow base 48 2 v' (n + m) (xs ++ spCells l) ∧ w.grownBy w' v.ownBlock ∧ (v'.ownBlock = v.ownBlock ∨ v'.ownBlock = some w.heap.size) := by
  obtain ⟨i0, hi0, hz0, hz1, hz2⟩ := info_parts info48
  have hl := hsp.len
  obtain ⟨A0, c0, he, hc⟩ := hsp
  cases he
  have h1 : ∀ u ∈ spCells l, u.oneCell' = true := fun u hu => by
    unfold spCells at hu
    obtain ⟨p, _, hp⟩ := List.mem_flatMap.1 hu
    simp at hp
    rcases hp with rfl | rfl <;> rfl
  rcases A with _ | ad
  · have h0 : l = [] := by
      rcases Nat.eq_zero_or_pos l.length with h | h
      · exact List.eq_nil_of_length_eq_zero h
      · obtain ⟨g, o, he, _⟩ := hc h; cases he
    subst h0
    refine ⟨v, w, ?_, by simpa [spCells] using hown, World.grownBy.refl w _, .inl rfl⟩
    rcases hown.2 with ⟨rfl, rfl⟩ | ⟨g, cap, cur, rfl, _, _, hnc, _⟩
    · simp [Builtin.append_, run_underlying Tryz.underlying42, sizeOf, typeInfo, hi0, Builtin.lenOf, Builtin.firstCells]
    · simp [Builtin.append_, run_underlying Tryz.underlying42, sizeOf, typeInfo, hi0, Builtin.lenOf, Builtin.firstCells, hnc, storeCells]
  · obtain ⟨v', w', hr, h2, h3, _, h5⟩ := run_append_own_at (P := Tryz.prog) w base 42 ty 48 i0 (.agg #[.int .i64 0, .int .i64 0]) 2 16 Tryz.underlying42 hi0 hz0 hz1 hz2 rfl (by decide) v n xs hown ad l.length _ (spCells l) (spCells_len l)
      (fun j u hj => by
        have hjl : j < (spCells l).length := (List.getElem?_eq_some_iff.1 hj).1
        rw [spCells_len] at hjl
        obtain ⟨g, o, he, hg, hx⟩ := hc (by omega)
        cases he
        obtain ⟨q, hq⟩ : ∃ q, l[j / 2]? = some q := ⟨_, List.getElem?_eq_getElem (by omega)⟩
        have hcc := hx (j / 2) q hq
        have hsc := spCells_at l (j / 2) q hq
        have ea : (⟨g, o, none⟩ : Addr).add j = ⟨g, o + j, none⟩ := by
          unfold Addr.add
          by_cases h0 : j = 0 <;> simp [h0]
        rw [ea]
        by_cases hp : j % 2 = 0
        · have e2 : j / 2 * 2 = j := by omega
          rw [e2] at hcc hsc
          rw [hsc.1] at hj
          cases hj
          exact hcc.1
        · have e2 : j / 2 * 2 + 1 = j := by omega
          have e3 : o + j / 2 * 2 + 1 = o + j := by omega
          rw [e2] at hsc
          rw [e3] at hcc
          rw [hsc.2] at hj
          cases hj
          exact hcc.2) h1 (by unfold maxLen; omega) (by omega) hb
    exact ⟨v', w', hr, h2, h3, h5⟩
theorem wp_append_spL {o : Oper} {a : Act} {w : World} {K : Act → World → Prop} {Q : Exit → Act → World → Prop} (s x : Operand)
    (ho : o.op = .call { callee := .builtin .append, args := #[s, x], argTypes := #[42, 42] }) {base : Nat} {v : Value} {n : Nat} {xs : List Value} (hs : a.eval s = v) (hown : w.ownsRow base 48 2 v n xs)
    {A : Option Addr} {m c : Nat} {l : List Sp} (hx : a.eval x = .slice A m c) (hsp : SpAt w (.slice A m c) l) (hn : n ≤ 100000) (hm : m ≤ 100000) (hb : base ≤ w.heap.size)
    (h : ∀ v' w', w'.ownsRow base 48 2 v' (n + m) (xs ++ spCells l) → w.grownBy w' v.ownBlock → (v'.ownBlock = v.ownBlock ∨ v'.ownBlock = some w.heap.size) → K (a.put o.dst v') w') : o.wp Tryz.prog a w K Q := by
  obtain ⟨v', w', hr, h2, h3, h4⟩ := run_append_spL (ty := o.type) hown hsp hn hm hb
  unfold Oper.wp execOp
  simp only [ho, resolve, invoke, builtin, Sem.run_bind, Sem.run_pure, Result.andThen_ok, List.map_toArray, List.map_cons, List.map_nil, hs, hx, hr]
  exact h v' w' h2 h3 h4
theorem wpList_append_sp {ops : Array Oper} {rest : List Oper} {o : Oper} {a : Act} {w : World} {Q : Exit → Act → World → Prop} (hgd : o.guard = none) (s x : Operand)
    (ho : o.op = .call { callee := .builtin .append, args := #[s, x], argTypes := #[42, 42] }) {base : Nat} {v : Value} {n : Nat} {xs : List Value} (hs : a.eval s = v) (hown : w.ownsRow base 48 2 v n xs)
    {A : Option Addr} {m c : Nat} {l : List Sp} (hx : a.eval x = .slice A m c) (hsp : SpAt w (.slice A m c) l) (hn : n ≤ 100) (hm : m ≤ 100) (hb : base ≤ w.heap.size)
    (h : ∀ v' w', w'.ownsRow base 48 2 v' (n + m) (xs ++ spCells l) → w.grownBy w' v.ownBlock → (v'.ownBlock = v.ownBlock ∨ v'.ownBlock = some w.heap.size) → wpList Tryz.prog ops Q rest (a.put o.dst v') w') : wpList Tryz.prog ops Q (o :: rest) a w :=
  wpList_plain hgd fun _ hK => wp_append_sp s x ho hs hown hx hsp hn hm hb fun v' w' h1 h2 h3 => hK _ _ (h v' w' h1 h2 h3)
theorem own_set {w : World} {base : Nat} {e : TypeId} {size g cap n j : Nat} {xs : List Value} (h : w.ownsRow base e size (.slice (some ⟨g, 0, none⟩) n cap) n xs) (_hj : j < n * size) (v : Value) : (w.setCell ⟨g, j, none⟩ v).ownsRow base e size (.slice (some ⟨g, 0, none⟩) n cap) n (xs.set j v) := by
  obtain ⟨hl, h0⟩ := h
  refine ⟨by rw [List.length_set, hl], .inr ?_⟩
  rcases h0 with ⟨h0, _⟩ | ⟨g', cap', cur, hv, a1, a2, a3, a4, a5, a6⟩
  · cases h0
  · cases hv
    refine ⟨g, cap, cur.setIfInBounds j v, rfl, a1, ?_, a3, a4, by rw [Array.size_setIfInBounds]; exact a5, ?_⟩
    · simp [World.setCell, Array.getElem?_modify, a2]
    · rw [Array.toList_setIfInBounds, List.take_set, a6]
theorem ne_row {w : World} {B B' n n' c ge : Nat} {v : Value} {xs xs' : List Value} (h : w.ownsRow B 48 2 v n xs) (h' : w.ownsRow B' 3 1 (.slice (some ⟨ge, 0, none⟩) n' c) n' xs') : some ge ≠ v.ownBlock := by
  rcases h.2 with ⟨rfl, _⟩ | ⟨g, cap, cur, rfl, _, hh, _⟩
  · simp [Value.ownBlock]
  · rcases h'.2 with ⟨h0, _⟩ | ⟨g', cap', cur', hv, _, hh', _⟩
    · cases h0
    · cases hv
      intro he
      have : ge = g := by simpa [Value.ownBlock] using he
      subst this
      rw [hh] at hh'
      injection hh' with hh'
      injection hh' with _ ht
      exact absurd ht (by decide)
theorem rowI_at {w : World} {B n ge c i : Nat} {E : List Int} {x : Int} (h : w.ownsRow B 3 1 (.slice (some ⟨ge, 0, none⟩) n c) n (E.map (Value.int .i64))) (hx : E[i]? = some x) : w.cell? ⟨ge, i, none⟩ = some (.int .i64 x) := by
  have hc := h.cells (g := ge) (by simp [Value.ownBlock]) i (.int .i64 x) (by rw [List.getElem?_map, hx]; rfl)
  rwa [show (⟨ge, 0, none⟩ : Addr).add i = ⟨ge, i, none⟩ by unfold Addr.add; by_cases h : i = 0 <;> simp [h]] at hc
abbrev TwoI (ge i : Nat) (x y : Int) (w : World) : Prop := w.cell? ⟨ge, i, none⟩ = some (.int .i64 x) ∧ w.cell? ⟨ge, i + 1, none⟩ = some (.int .i64 y)
theorem twoI_of {w w' : World} {ge i : Nat} {x y : Int} (h0 : w.cell? ⟨ge, i, none⟩ = some (.int .i64 x)) (h1 : w.cell? ⟨ge, i + 1, none⟩ = some (.int .i64 y)) (hg : ge < w.heap.size) (hb : Below w.heap.size w w') : TwoI ge i x y w' :=
  ⟨(hb.cell (p := ⟨ge, i, none⟩) hg).trans h0, (hb.cell (p := ⟨ge, i + 1, none⟩) hg).trans h1⟩
theorem mix_step (In : Int → Bool) {E : List Int} {i : Nat} {x y : Int} {out : List Sp} (hx : E[i]? = some x) (hy : E[i + 1]? = some y) :
    mixL In (E.drop i) out = mixL In (E.drop (i + 1)) (if In x then (if lastTo out x then out.dropLast ++ [((out.getLastD (0, 0)).1, y)] else out ++ [(x, y)]) else out) := by
  have h1 : i < E.length := (List.getElem?_eq_some_iff.1 hx).1
  have h2 : i + 1 < E.length := (List.getElem?_eq_some_iff.1 hy).1
  have e2 : E.drop (i + 1) = y :: E.drop (i + 1 + 1) := by rw [List.drop_eq_getElem_cons h2, (List.getElem?_eq_some_iff.1 hy).2]
  have e1 : E.drop i = x :: y :: E.drop (i + 1 + 1) := by rw [List.drop_eq_getElem_cons h1, (List.getElem?_eq_some_iff.1 hx).2, e2]
  rw [e1, e2]
  rfl
theorem mix_end (In : Int → Bool) {E : List Int} {i : Nat} {out : List Sp} (h : E.length ≤ i + 1) : mixL In (E.drop i) out = out := by
  rcases hd : E.drop i with _ | ⟨x, _ | ⟨y, r⟩⟩
  · rfl
  · rfl
  · have := congrArg List.length hd
    rw [List.length_drop] at this
    simp at this
    omega
theorem lastTo_snoc (out : List Sp) (p : Sp) (x : Int) : lastTo (out ++ [p]) x = decide (p.2 = x) := by
  unfold lastTo; simp
theorem spCells_setTo (out : List Sp) (p : Sp) (y : Int) : (spCells (out ++ [p])).set (out.length * 2 + 1) (.int .i64 y) = spCells (out ++ [(p.1, y)]) := by
  rw [spCells_snoc, spCells_snoc, List.set_append_right _ _ (by rw [spCells_len]; omega), spCells_len]
  rw [show out.length * 2 + 1 - out.length * 2 = 1 by omega]
  rfl
/-- What the specification's Mixed returns. -/
def MixBe (m : Int) (a b : List Sp) (w : World) (e : Ending) (w' : World) : Prop := ∃ s E, e = .returned s ∧ Inc E ∧ (∀ x, x ∈ E ↔ x ∈ vals (a ++ b)) ∧ w'.ownsRow w.heap.size 48 2 s (mixL (fun x => mixG m (hasD a x) (hasD b x)) E []).length (spCells (mixL (fun x => mixG m (hasD a x) (hasD b x)) E [])) ∧ Below w.heap.size w w'
theorem name_world {P : Program} {c : Code} {Q : Exit → Act → World → Prop} {a : Act} {w : World} (h : ∀ wq, wq = w → Code.wp P c Q a wq) : Code.wp P c Q a w := h w rfl
theorem add_at0 (b j : Nat) : (⟨b, 0, none⟩ : Addr).add j = ⟨b, j, none⟩ := by
  unfold Addr.add
  by_cases h : j = 0 <;> simp [h]
theorem own_free {w : World} {base : Nat} {e : TypeId} {size g cap n v : Nat} {xs : List Value} (h : w.ownsRow base e size (.slice (some ⟨g, 0, none⟩) v cap) n xs) (j : Nat) : w.frozen? ⟨g, j, none⟩ = false := by
  rcases h.2 with ⟨h0, _⟩ | ⟨g', cap', cur, hv, _, hh, _⟩
  · cases h0
  · cases hv
    simp [World.frozen?, hh]
theorem inc_len : ∀ (E v : List Int), Inc E → (∀ x ∈ E, x ∈ v) → E.length ≤ v.length
  | [], _, _, _ => Nat.zero_le _
  | x :: E, v, hi, h => by
    have hx := h x (by simp)
    have ih := inc_len E (v.erase x) (List.pairwise_cons.1 hi).2 fun y hy => by
      have hne : y ≠ x := fun e => by have := (List.pairwise_cons.1 hi).1 y hy; omega
      exact (List.mem_erase_of_ne hne).2 (h y (by simp [hy]))
    rw [List.length_erase_of_mem hx] at ih
    have := List.length_pos_of_mem hx
    simp only [List.length_cons]
    omega
theorem vals_len (l : List Sp) : (vals l).length = 2 * l.length := by
  induction l with
  | nil => rfl
  | cons s l ih =>
    have e : vals (s :: l) = [s.1, s.2] ++ vals l := rfl
    rw [e, List.length_append, ih]
    simp; omega
theorem mixed_any (s1 s2 : Value) (a b : List Sp) (m : Int) (W0 : World) (h1 : SpAt W0 s1 a) (h2 : SpAt W0 s2 b) (l1 : a.length ≤ 60) (l2 : b.length ≤ 60) (i1 : Hid (spansIn a)) (i2 : Hid (spansIn b)) (hm : Hid (m = 1 ∨ m = 2 ∨ m = 3)) :
    Calls Tryz.prog 103 #[s1, s2, .int .i64 m] W0 (MixBe m a b W0) := by
  obtain ⟨A, c, rfl, _⟩ := id h1
  obtain ⟨B, d, rfl, _⟩ := id h2
  obtain ⟨na, hna⟩ : ∃ n, Hid (a.length = n) := ⟨_, Lib.hid rfl⟩
  obtain ⟨nb, hnb⟩ : ∃ n, Hid (b.length = n) := ⟨_, Lib.hid rfl⟩
  rw [hna.out] at h1 l1 ⊢
  rw [hnb.out] at h2 l2 ⊢
  have H1 := Lib.hid h1
  have H2 := Lib.hid h2
  clear h1 h2
  go_enter Tryz.func103, Tryz.ntmps103
  have hE0 : (W0.alloc (.cells #[] 48)).ownsRow W0.heap.size 48 2 (.slice (some ⟨W0.heap.size, 0, none⟩) 0 0) 0 [] := World.ownsRow_made W0 #[] 0 (Nat.le_refl _) (by unfold maxLen; omega) rfl
  have k0 := below_new W0 (.cells #[] 48)
  go_wp2_with (first
    | (at_builtin; refine wpList_append_sp rfl (.tmp 10) (.tmp 11) rfl rfl hE0 rfl (H1.out.below k0 (Nat.le_refl _)) (by decide) (by omega) k0.size ?_; intro v1 w1 own1 g1 ha1; clear ha1; have k1 : Below W0.heap.size W0 w1 := k0.grown g1 k0.size (fun k hk => (hE0.lt k hk).1))
    | (at_builtin; refine wpList_append_sp rfl (.tmp 12) (.tmp 13) rfl rfl own1 rfl (H2.out.below k1 (Nat.le_refl _)) (by omega) (by omega) k1.size ?_; intro v2 w2 own2 g2 ha2; clear ha2; have k2 : Below W0.heap.size W0 w2 := k1.grown g2 k1.size (fun k hk => (own1.lt k hk).1)))
  clear hE0 k0
  have sp2 : SpAt w2 v2 (a ++ b) := spAt_own (by
    have e1 : ([] ++ spCells a ++ spCells b : List Value) = spCells (a ++ b) := by unfold spCells; rw [List.flatMap_append]; rfl
    have e2 : 0 + na + nb = (a ++ b).length := by rw [List.length_append, hna.out, hnb.out]; omega
    rw [e1, e2] at own2
    exact own2)
  have cE := ends_any v2 (a ++ b) w2 sp2 (by rw [List.length_append, hna.out, hnb.out]; omega) (Lib.hid fun p hp => (List.mem_append.1 hp).elim (i1.out p) (i2.out p))
  clear own1 own2 g1 g2 k1 sp2
  refine cE.mono ?_
  rintro e w3 ⟨s8, E, rfl, ownE, hInc, hmem, b3⟩
  clear cE
  have hEl : E.length ≤ 240 := by
    have := inc_len E (vals (a ++ b)) hInc (fun x hx => (hmem x).1 hx)
    rw [vals_len, List.length_append, hna.out, hnb.out] at this
    omega
  have k3 : Below W0.heap.size W0 w3 := k2.trans (b3.mono k2.size)
  have HInc := Lib.hid hInc
  have HMem := Lib.hid hmem
  clear hInc hmem k2 b3
  obtain ⟨B8, hB8⟩ : ∃ B8, w2.heap.size = B8 := ⟨_, rfl⟩
  rw [hB8] at ownE
  clear hB8
  obtain ⟨In, hIn⟩ : ∃ In : Int → Bool, Hid ((fun x => mixG m (hasD a x) (hasD b x)) = In) := ⟨_, Lib.hid rfl⟩
  obtain ⟨R, hR⟩ : ∃ R, Hid (mixL In E [] = R) := ⟨_, Lib.hid rfl⟩
  obtain ⟨n, hnE⟩ : ∃ n, Hid (E.length = n) := ⟨_, Lib.hid rfl⟩
  rw [hnE.out] at ownE hEl
  obtain ⟨Ae, ce, rfl⟩ : ∃ Ae ce, s8 = .slice Ae n ce := by
    rcases ownE.2 with ⟨rfl, h0⟩ | ⟨g, cap, cur, rfl, _⟩
    · subst h0; exact ⟨_, _, rfl⟩
    · exact ⟨_, _, rfl⟩
  go_wp2
  go_loopw [7, 9] (fun u7 u9 wr => ∃ (i : Nat) (out : List Sp), u9 = .int .i64 i ∧ i ≤ n ∧ out.length ≤ i ∧ Hid (mixL In (E.drop i) out = R) ∧ wr.ownsRow W0.heap.size 48 2 u7 out.length (spCells out) ∧ wr.ownsRow B8 3 1 (.slice Ae n ce) n (E.map (Value.int .i64)) ∧ Below W0.heap.size W0 wr) (fun _ u9 _ => n - (intOf u9).toNat)
  case atStart => exact ⟨0, [], rfl, by omega, by simp, hR, World.ownsRow_nil _ _ _ _, ownE, k3⟩
  case round =>
    obtain ⟨i, out, rfl, hi, hol, hmix, hown, hEr, hbw⟩ := hrel
    clear ownE k3
    by_cases hlt : i + 1 < n
    · obtain ⟨ge, rfl⟩ : ∃ ge, Ae = some ⟨ge, 0, none⟩ := by
        rcases hEr.2 with ⟨_, h0⟩ | ⟨g, cap, cur, hv, _⟩
        · omega
        · cases hv; exact ⟨_, rfl⟩
      obtain ⟨x, hx⟩ : ∃ x, E[i]? = some x := ⟨_, List.getElem?_eq_getElem (by have := hnE.out; omega)⟩
      obtain ⟨y, hy⟩ : ∃ y, E[i + 1]? = some y := ⟨_, List.getElem?_eq_getElem (by have := hnE.out; omega)⟩
      have c0 := rowI_at hEr hx
      have c1 := rowI_at hEr hy
      have hge : ge < wr.heap.size := (hEr.lt ge (by simp [Value.ownBlock])).2
      have hstep := Lib.hid (mix_step In (out := out) hx hy)
      have hxi := Lib.hid hx
      have hyi := Lib.hid hy
      obtain ⟨q, hq⟩ : ∃ q, Hid (In x = q) := ⟨_, Lib.hid rfl⟩
      have cI := in_any _ _ a b m x wr (H1.out.below hbw (Nat.le_refl _)) (H2.out.below hbw (Nat.le_refl _)) (by rw [hna.out]; omega) (by rw [hnb.out]; omega) hm.out
      rw [show mixG m (hasD a x) (hasD b x) = q by rw [← hq.out, ← hIn.out]] at cI
      clear hx hy
      have bi1 : (0 : Int) ≤ i := by omega
      have bi2 : (i : Int) + 1 < n := by omega
      have bi3 : (i : Int) < n := by omega
      have bi4 : (0 : Int) ≤ (i : Int) + 1 := by omega
      have bi5 : ((i : Int) + 1).toNat = i + 1 := by omega
      have bi6 : IntKind.i64.wrap ((i : Int) + 1) = (i : Int) + 1 := IntWalk.i64_in _ (by omega)
      cases q with
      | false =>
        go_wp2_with (go_at_call 157; refine cI.mono ?_; rintro e w4 ⟨rfl, rfl⟩)
        go_roundw
        case rel =>
          refine ⟨i + 1, out, by go_num, by omega, by omega, Lib.hid ?_, hown, hEr, hbw⟩
          have := hstep.out
          rw [hq.out, if_neg Bool.false_ne_true] at this
          rw [← this]; exact hmix.out
        case measure => simp [intOf]; omega
      | true =>
        obtain ⟨A7, c7, rfl⟩ : ∃ A7 c7, u7 = .slice A7 out.length c7 := by
          rcases hown.2 with ⟨rfl, h0⟩ | ⟨g, cap, cur, rfl, _⟩
          · rw [h0]; exact ⟨_, _, rfl⟩
          · exact ⟨_, _, rfl⟩
        obtain ⟨mo, hmo⟩ : ∃ mo, Hid (out.length = mo) := ⟨_, Lib.hid rfl⟩
        have hown' := hown
        rw [show (Value.slice A7 out.length c7) = .slice A7 mo c7 by rw [hmo.out]] at hown'
        clear hown
        have hown := hown'
        clear hown'
        rw [hmo.out] at hol ⊢
        by_cases h0 : mo = 0
        · subst h0
          have hn0 : out = [] := List.eq_nil_of_length_eq_zero hmo.out
          have hlast : Hid (¬ lastTo out x = true) := Lib.hid (by rw [hn0]; unfold lastTo; simp)
          clear hn0
          go_wp2_with (go_at_call 157; refine cI.mono ?_; rintro e w4 ⟨rfl, rfl⟩)
          go_quiet (fail)
          go_wp2
          refine name_world ?_
          intro wq hwq
          have hown : wq.ownsRow W0.heap.size 48 2 (.slice A7 0 c7) out.length (spCells out) := by rw [hwq]; exact hown
          have hEr : wq.ownsRow B8 3 1 (.slice (some ⟨ge, 0, none⟩) n ce) n (E.map (Value.int .i64)) := by rw [hwq]; exact hEr
          have c0 : wq.cell? ⟨ge, i, none⟩ = some (.int .i64 x) := rowI_at hEr hxi.out
          have c1 : wq.cell? ⟨ge, i + 1, none⟩ = some (.int .i64 y) := rowI_at hEr hyi.out
          have hge : ge < wq.heap.size := (hEr.lt ge (by simp [Value.ownBlock])).2
          have hbw : Below W0.heap.size W0 wq := by rw [hwq]; exact drewN_below hbw _
          clear hwq
          have hS0 : TwoI ge i x y wq.drew := ⟨c0, c1⟩
          refine wp_region_noPanic ?_
          refine wp_region_held (S := TwoI ge i x y) (by kernel_rfl) ?_
          refine wpAnyH_take_at 0 (some 60) (.slice A7 0 c7) rfl rfl (by kernel_rfl) (by kernel_rfl) (by kernel_rfl) (fun _ _ _ h => h) (.inl ⟨by rfl, fun wz hSw => ?_⟩) hS0 ?_
          · (try dsimp only at hSw); go_simp
          try simp only [Act.put, List.setIfInBounds_toArray, List.set_cons_zero, List.set_cons_succ]
          refine wpAnyH_take_at 1 (some 61) (.slice (some ⟨ge, 0, none⟩) n ce) rfl rfl (by kernel_rfl) (by kernel_rfl) (by kernel_rfl) (fun _ _ _ h => h) (.inl ⟨by rfl, fun wz hSw => ?_⟩) hS0 ?_
          · (try dsimp only at hSw); go_simp
          try simp only [Act.put, List.setIfInBounds_toArray, List.set_cons_zero, List.set_cons_succ]
          refine wpAnyH_take_at 2 (some 62) (.int .i64 i) rfl rfl (by kernel_rfl) (by kernel_rfl) (by kernel_rfl) (fun _ _ _ h => h) (.inl ⟨by rfl, fun wz hSw => ?_⟩) hS0 ?_
          · (try dsimp only at hSw); go_simp
          try simp only [Act.put, List.setIfInBounds_toArray, List.set_cons_zero, List.set_cons_succ]
          refine wpAnyH_take_at 3 (some 63) (.pointer (some ⟨ge, i, none⟩)) rfl rfl (by kernel_rfl) (by kernel_rfl) (by kernel_rfl) (fun _ _ _ h => h) (.inl ⟨by rfl, fun wz hSw => ?_⟩) hS0 ?_
          · (try dsimp only at hSw); go_simp
          try simp only [Act.put, List.setIfInBounds_toArray, List.set_cons_zero, List.set_cons_succ]
          refine wpAnyH_take_at 4 (some 64) (.int .i64 x) rfl rfl (by kernel_rfl) (by kernel_rfl) (by kernel_rfl) (fun _ _ _ h => h) (.inl ⟨by rfl, fun wz hSw => ?_⟩) hS0 ?_
          · (try dsimp only at hSw); go_simp
          try simp only [Act.put, List.setIfInBounds_toArray, List.set_cons_zero, List.set_cons_succ]
          refine wpAnyH_take_at 5 (some 65) (.slice (some ⟨ge, 0, none⟩) n ce) rfl rfl (by kernel_rfl) (by kernel_rfl) (by kernel_rfl) (fun _ _ _ h => h) (.inl ⟨by rfl, fun wz hSw => ?_⟩) hS0 ?_
          · (try dsimp only at hSw); go_simp
          try simp only [Act.put, List.setIfInBounds_toArray, List.set_cons_zero, List.set_cons_succ]
          refine wpAnyH_take_at 6 (some 66) (.int .i64 i) rfl rfl (by kernel_rfl) (by kernel_rfl) (by kernel_rfl) (fun _ _ _ h => h) (.inl ⟨by rfl, fun wz hSw => ?_⟩) hS0 ?_
          · (try dsimp only at hSw); go_simp
          try simp only [Act.put, List.setIfInBounds_toArray, List.set_cons_zero, List.set_cons_succ]
          refine wpAnyH_take_at 7 (some 67) (.int .i64 ((i : Int) + 1)) rfl rfl (by kernel_rfl) (by kernel_rfl) (by kernel_rfl) (fun _ _ _ h => h) (.inl ⟨by rfl, fun wz hSw => ?_⟩) hS0 ?_
          · (try dsimp only at hSw); go_simp
          try simp only [Act.put, List.setIfInBounds_toArray, List.set_cons_zero, List.set_cons_succ]
          refine wpAnyH_take_at 8 (some 68) (.pointer (some ⟨ge, i + 1, none⟩)) rfl rfl (by kernel_rfl) (by kernel_rfl) (by kernel_rfl) (fun _ _ _ h => h) (.inl ⟨by rfl, fun wz hSw => ?_⟩) hS0 ?_
          · (try dsimp only at hSw); go_simp
          try simp only [Act.put, List.setIfInBounds_toArray, List.set_cons_zero, List.set_cons_succ]
          refine wpAnyH_take_at 9 (some 69) (.int .i64 y) rfl rfl (by kernel_rfl) (by kernel_rfl) (by kernel_rfl) (fun _ _ _ h => h) (.inl ⟨by rfl, fun wz hSw => ?_⟩) hS0 ?_
          · (try dsimp only at hSw); go_simp
          try simp only [Act.put, List.setIfInBounds_toArray, List.set_cons_zero, List.set_cons_succ]
          refine wpAnyH_take_at 10 (some 70) (.agg #[.int .i64 x, .int .i64 y]) rfl rfl (by kernel_rfl) (by kernel_rfl) (by kernel_rfl) (fun _ _ _ h => h) (.inl ⟨by rfl, fun wz hSw => ?_⟩) hS0 ?_
          · (try dsimp only at hSw); go_simp
          try simp only [Act.put, List.setIfInBounds_toArray, List.set_cons_zero, List.set_cons_succ]
          refine wpAnyH_one (j := 11) (by kernel_rfl) ?_
          refine wpOp_yes' rfl rfl ?_
          go_simp
          have boxE := Box.new wq (x, y) 48
          have bq : Below wq.heap.size wq ((wq.alloc (.cells #[.int .i64 x, .int .i64 y] 48)).drew) := Below.drew (below_new wq _)
          have hE : ((wq.alloc (.cells #[.int .i64 x, .int .i64 y] 48)).drew).ownsRow W0.heap.size 48 2 (.slice A7 0 c7) out.length (spCells out) := hown.alloc _
          refine ⟨twoI_of c0 c1 hge bq, ?_⟩
          try simp only [Act.put, List.setIfInBounds_toArray, List.set_cons_zero, List.set_cons_succ]
          refine wpAnyH_one (j := 12) (by kernel_rfl) ?_
          refine wpOp_yes' rfl rfl ?_
          refine wp_append_spL (.tmp 60) (.tmp 71) rfl rfl hE rfl (sp_one boxE) (by have := hmo.out; omega) (by decide) (by have := bq.size; have := hbw.size; omega) ?_
          intro v2 w9 own9 g9 _
          have hb9 : Below W0.heap.size W0 w9 := (hbw.trans (bq.mono hbw.size)).grown g9 (by have := bq.size; have := hbw.size; omega) (fun k hk => (hE.lt k hk).1)
          have he9 : w9.ownsRow B8 3 1 (.slice (some ⟨ge, 0, none⟩) n ce) n (E.map (Value.int .i64)) := ((hEr.alloc (.cells #[.int .i64 x, .int .i64 y] 48)).kept (show ((wq.alloc (.cells #[.int .i64 x, .int .i64 y] 48))).grownBy w9 (Value.slice A7 0 c7).ownBlock from ⟨g9.os, g9.tape, g9.output, g9.size, g9.block⟩) (.inr (ne_row hE (hEr.alloc (.cells #[.int .i64 x, .int .i64 y] 48)))))
          have c9 : w9.cell? ⟨ge, i, none⟩ = some (.int .i64 x) := rowI_at he9 hxi.out
          have d9 : w9.cell? ⟨ge, i + 1, none⟩ = some (.int .i64 y) := rowI_at he9 hyi.out
          have own9' : w9.ownsRow W0.heap.size 48 2 v2 (out ++ [(x, y)]).length (spCells (out ++ [(x, y)])) := by rw [spCells_snoc, List.length_append]; exact own9
          have hS9 : TwoI ge i x y w9 := ⟨c9, d9⟩
          refine ⟨hS9, ?_⟩
          try simp only [Act.put, List.setIfInBounds_toArray]
          refine wpAnyH_take_at 13 (some 7) (v2) rfl rfl (by kernel_rfl) (by kernel_rfl) (by kernel_rfl) (fun _ _ _ h => h) (.inl ⟨by rfl, fun wz hSw => ?_⟩) hS9 ?_
          · (try dsimp only at hSw); go_simp
          try simp only [Act.put]
          refine wpAnyH_done (by kernel_rfl) ?_ _
          simp only [NoPanic]
          go_wp2
          go_roundw
          case rel =>
            refine ⟨i + 1, out ++ [(x, y)], by go_num, by omega, by rw [List.length_append]; simp; (have := hmo.out; omega), Lib.hid ?_, own9', he9, hb9⟩
            have := hstep.out
            rw [hq.out, if_pos rfl, if_neg hlast.out] at this
            rw [← this]; exact hmix.out
          case measure => simp [intOf]; omega
        · obtain ⟨out', p, hop⟩ : ∃ out' p, Hid (out = out' ++ [p]) := by
            rcases List.eq_nil_or_concat out with h | ⟨out', p, h⟩
            · exact absurd (by have := hmo.out; rw [h] at this; simpa using this.symm) h0
            · exact ⟨out', p, Lib.hid (by rw [h, List.concat_eq_append])⟩
          have hol' : Hid (out'.length + 1 = mo) := Lib.hid (by have := hmo.out; rw [hop.out, List.length_append] at this; simpa using this)
          obtain ⟨g7, hA7, hc7⟩ : ∃ g, A7 = some ⟨g, 0, none⟩ ∧ mo ≤ c7 := by
            rcases hown.2 with ⟨_, h1⟩ | ⟨g, cap, cur, hv, _, _, hc, _⟩
            · have := hmo.out; omega
            · cases hv; exact ⟨g, rfl, by have := hmo.out; omega⟩
          subst hA7
          have l0 : wr.cell? ⟨g7, (mo - 1) * 2 + 1, none⟩ = some (.int .i64 p.2) := by
            have hc := hown.cells (g := g7) (by simp [Value.ownBlock]) ((mo - 1) * 2 + 1) (.int .i64 p.2) (by
              rw [hop.out, spCells_snoc, List.getElem?_append_right (by rw [spCells_len]; have := hol'.out; omega), spCells_len, show (mo - 1) * 2 + 1 - out'.length * 2 = 1 by have := hol'.out; omega]; rfl)
            rwa [add_at0] at hc
          have hg7 : g7 < wr.heap.size := (hown.lt g7 (by simp [Value.ownBlock])).2
          have hlt2 : Hid (lastTo out x = decide (p.2 = x)) := Lib.hid (by rw [hop.out, lastTo_snoc])
          have bm1 : (1 : Int) ≤ mo := by omega
          have bm2 : ((mo : Int) - 1).toNat = mo - 1 := by omega
          have bm3 : (0 : Int) ≤ (mo : Int) - 1 := by omega
          have bm4 : (mo : Int) - 1 < mo := by omega
          have bm5 : (0 : Int) < mo := by omega
          have bm7 : 0 < mo := by omega
          have bm8 : decide (0 < mo) = true := decide_eq_true bm7
          have bm6 : IntKind.i64.wrap ((mo : Int) - 1) = (mo : Int) - 1 := IntWalk.i64_in _ (by omega)
          by_cases hpx : p.2 = x
          · subst hpx
            have hlast : Hid (lastTo out p.2 = true) := Lib.hid (by rw [hlt2.out]; exact decide_eq_true rfl)
            have fz : wr.frozen? ⟨g7, (mo - 1) * 2 + 1, none⟩ = false := own_free hown _
            go_wp2_with (go_at_call 157; refine cI.mono ?_; rintro e w4 ⟨rfl, rfl⟩)
            go_quiet (fail)
            go_wp2
            go_roundw
            case rel =>
              have hm1 : mo - 1 = out'.length := by have := hol'.out; omega
              have hnew : wr.ownsRow W0.heap.size 48 2 (.slice (some ⟨g7, 0, none⟩) mo c7) mo (spCells (out' ++ [p])) := by rw [← hop.out]; rw [hmo.out] at hown; exact hown
              have hset := own_set hnew (j := (mo - 1) * 2 + 1) (by omega) (.int .i64 y)
              have hsp : (spCells (out' ++ [p])).set ((mo - 1) * 2 + 1) (.int .i64 y) = spCells (out' ++ [(p.1, y)]) := by rw [hm1, spCells_setTo]
              rw [hsp] at hset
              have hlen2 : (out' ++ [(p.1, y)]).length = mo := by rw [List.length_append]; simp; exact hol'.out
              have hgs := grown_set wr g7 ((mo - 1) * 2 + 1) (.int .i64 y)
              have hEr2 := hEr.kept hgs (.inr (ne_row hown hEr))
              have hbw2 := hbw.setCell (p := ⟨g7, (mo - 1) * 2 + 1, none⟩) (hown.lt g7 (by simp [Value.ownBlock])).1 (.int .i64 y)
              refine ⟨i + 1, out' ++ [(p.1, y)], by go_num, by omega, by rw [List.length_append]; simp; (have := hol'.out; omega), Lib.hid ?_, ?_, ?_, ?_⟩
              · have := hstep.out
                rw [hq.out, if_pos rfl, if_pos hlast.out, hop.out, List.dropLast_concat] at this
                rw [show (out' ++ [p]).getLastD (0, 0) = p by simp] at this
                rw [← this, ← hop.out]; exact hmix.out
              · rw [hlen2]; exact hset
              · exact hEr2
              · exact drewN_below hbw2 _
            case measure => simp [intOf]; omega
          · have hpb : (p.2 == x) = false := by simpa using hpx
            have hlast : Hid (¬ lastTo out x = true) := Lib.hid (by rw [hlt2.out, decide_eq_false hpx]; exact Bool.false_ne_true)
            go_wp2_with (go_at_call 157; refine cI.mono ?_; rintro e w4 ⟨rfl, rfl⟩)
            go_quiet (fail)
            go_wp2
            refine name_world ?_
            intro wq hwq
            have hown : wq.ownsRow W0.heap.size 48 2 (.slice (some ⟨g7, 0, none⟩) mo c7) out.length (spCells out) := by rw [hwq]; exact hown
            have hEr : wq.ownsRow B8 3 1 (.slice (some ⟨ge, 0, none⟩) n ce) n (E.map (Value.int .i64)) := by rw [hwq]; exact hEr
            have c0 : wq.cell? ⟨ge, i, none⟩ = some (.int .i64 x) := rowI_at hEr hxi.out
            have c1 : wq.cell? ⟨ge, i + 1, none⟩ = some (.int .i64 y) := rowI_at hEr hyi.out
            have hge : ge < wq.heap.size := (hEr.lt ge (by simp [Value.ownBlock])).2
            have hbw : Below W0.heap.size W0 wq := by rw [hwq]; exact drewN_below hbw _
            clear hwq
            have hS0 : TwoI ge i x y wq.drew := ⟨c0, c1⟩
            refine wp_region_noPanic ?_
            refine wp_region_held (S := TwoI ge i x y) (by kernel_rfl) ?_
            refine wpAnyH_take_at 0 (some 60) (.slice (some ⟨g7, 0, none⟩) mo c7) rfl rfl (by kernel_rfl) (by kernel_rfl) (by kernel_rfl) (fun _ _ _ h => h) (.inl ⟨by rfl, fun wz hSw => ?_⟩) hS0 ?_
            · (try dsimp only at hSw); go_simp
            try simp only [Act.put, List.setIfInBounds_toArray, List.set_cons_zero, List.set_cons_succ]
            refine wpAnyH_take_at 1 (some 61) (.slice (some ⟨ge, 0, none⟩) n ce) rfl rfl (by kernel_rfl) (by kernel_rfl) (by kernel_rfl) (fun _ _ _ h => h) (.inl ⟨by rfl, fun wz hSw => ?_⟩) hS0 ?_
            · (try dsimp only at hSw); go_simp
            try simp only [Act.put, List.setIfInBounds_toArray, List.set_cons_zero, List.set_cons_succ]
            refine wpAnyH_take_at 2 (some 62) (.int .i64 i) rfl rfl (by kernel_rfl) (by kernel_rfl) (by kernel_rfl) (fun _ _ _ h => h) (.inl ⟨by rfl, fun wz hSw => ?_⟩) hS0 ?_
            · (try dsimp only at hSw); go_simp
            try simp only [Act.put, List.setIfInBounds_toArray, List.set_cons_zero, List.set_cons_succ]
            refine wpAnyH_take_at 3 (some 63) (.pointer (some ⟨ge, i, none⟩)) rfl rfl (by kernel_rfl) (by kernel_rfl) (by kernel_rfl) (fun _ _ _ h => h) (.inl ⟨by rfl, fun wz hSw => ?_⟩) hS0 ?_
            · (try dsimp only at hSw); go_simp
            try simp only [Act.put, List.setIfInBounds_toArray, List.set_cons_zero, List.set_cons_succ]
            refine wpAnyH_take_at 4 (some 64) (.int .i64 x) rfl rfl (by kernel_rfl) (by kernel_rfl) (by kernel_rfl) (fun _ _ _ h => h) (.inl ⟨by rfl, fun wz hSw => ?_⟩) hS0 ?_
            · (try dsimp only at hSw); go_simp
            try simp only [Act.put, List.setIfInBounds_toArray, List.set_cons_zero, List.set_cons_succ]
            refine wpAnyH_take_at 5 (some 65) (.slice (some ⟨ge, 0, none⟩) n ce) rfl rfl (by kernel_rfl) (by kernel_rfl) (by kernel_rfl) (fun _ _ _ h => h) (.inl ⟨by rfl, fun wz hSw => ?_⟩) hS0 ?_
            · (try dsimp only at hSw); go_simp
            try simp only [Act.put, List.setIfInBounds_toArray, List.set_cons_zero, List.set_cons_succ]
            refine wpAnyH_take_at 6 (some 66) (.int .i64 i) rfl rfl (by kernel_rfl) (by kernel_rfl) (by kernel_rfl) (fun _ _ _ h => h) (.inl ⟨by rfl, fun wz hSw => ?_⟩) hS0 ?_
            · (try dsimp only at hSw); go_simp
            try simp only [Act.put, List.setIfInBounds_toArray, List.set_cons_zero, List.set_cons_succ]
            refine wpAnyH_take_at 7 (some 67) (.int .i64 ((i : Int) + 1)) rfl rfl (by kernel_rfl) (by kernel_rfl) (by kernel_rfl) (fun _ _ _ h => h) (.inl ⟨by rfl, fun wz hSw => ?_⟩) hS0 ?_
            · (try dsimp only at hSw); go_simp
            try simp only [Act.put, List.setIfInBounds_toArray, List.set_cons_zero, List.set_cons_succ]
            refine wpAnyH_take_at 8 (some 68) (.pointer (some ⟨ge, i + 1, none⟩)) rfl rfl (by kernel_rfl) (by kernel_rfl) (by kernel_rfl) (fun _ _ _ h => h) (.inl ⟨by rfl, fun wz hSw => ?_⟩) hS0 ?_
            · (try dsimp only at hSw); go_simp
            try simp only [Act.put, List.setIfInBounds_toArray, List.set_cons_zero, List.set_cons_succ]
            refine wpAnyH_take_at 9 (some 69) (.int .i64 y) rfl rfl (by kernel_rfl) (by kernel_rfl) (by kernel_rfl) (fun _ _ _ h => h) (.inl ⟨by rfl, fun wz hSw => ?_⟩) hS0 ?_
            · (try dsimp only at hSw); go_simp
            try simp only [Act.put, List.setIfInBounds_toArray, List.set_cons_zero, List.set_cons_succ]
            refine wpAnyH_take_at 10 (some 70) (.agg #[.int .i64 x, .int .i64 y]) rfl rfl (by kernel_rfl) (by kernel_rfl) (by kernel_rfl) (fun _ _ _ h => h) (.inl ⟨by rfl, fun wz hSw => ?_⟩) hS0 ?_
            · (try dsimp only at hSw); go_simp
            try simp only [Act.put, List.setIfInBounds_toArray, List.set_cons_zero, List.set_cons_succ]
            refine wpAnyH_one (j := 11) (by kernel_rfl) ?_
            refine wpOp_yes' rfl rfl ?_
            go_simp
            have boxE := Box.new wq (x, y) 48
            have bq : Below wq.heap.size wq ((wq.alloc (.cells #[.int .i64 x, .int .i64 y] 48)).drew) := Below.drew (below_new wq _)
            have hE : ((wq.alloc (.cells #[.int .i64 x, .int .i64 y] 48)).drew).ownsRow W0.heap.size 48 2 (.slice (some ⟨g7, 0, none⟩) mo c7) out.length (spCells out) := hown.alloc _
            refine ⟨twoI_of c0 c1 hge bq, ?_⟩
            try simp only [Act.put, List.setIfInBounds_toArray, List.set_cons_zero, List.set_cons_succ]
            refine wpAnyH_one (j := 12) (by kernel_rfl) ?_
            refine wpOp_yes' rfl rfl ?_
            refine wp_append_spL (.tmp 60) (.tmp 71) rfl rfl hE rfl (sp_one boxE) (by have := hmo.out; omega) (by decide) (by have := bq.size; have := hbw.size; omega) ?_
            intro v2 w9 own9 g9 _
            have hb9 : Below W0.heap.size W0 w9 := (hbw.trans (bq.mono hbw.size)).grown g9 (by have := bq.size; have := hbw.size; omega) (fun k hk => (hE.lt k hk).1)
            have he9 : w9.ownsRow B8 3 1 (.slice (some ⟨ge, 0, none⟩) n ce) n (E.map (Value.int .i64)) := ((hEr.alloc (.cells #[.int .i64 x, .int .i64 y] 48)).kept (show ((wq.alloc (.cells #[.int .i64 x, .int .i64 y] 48))).grownBy w9 (Value.slice (some ⟨g7, 0, none⟩) mo c7).ownBlock from ⟨g9.os, g9.tape, g9.output, g9.size, g9.block⟩) (.inr (ne_row hE (hEr.alloc (.cells #[.int .i64 x, .int .i64 y] 48)))))
            have c9 : w9.cell? ⟨ge, i, none⟩ = some (.int .i64 x) := rowI_at he9 hxi.out
            have d9 : w9.cell? ⟨ge, i + 1, none⟩ = some (.int .i64 y) := rowI_at he9 hyi.out
            have own9' : w9.ownsRow W0.heap.size 48 2 v2 (out ++ [(x, y)]).length (spCells (out ++ [(x, y)])) := by rw [spCells_snoc, List.length_append]; exact own9
            have hS9 : TwoI ge i x y w9 := ⟨c9, d9⟩
            refine ⟨hS9, ?_⟩
            try simp only [Act.put, List.setIfInBounds_toArray]
            refine wpAnyH_take_at 13 (some 7) (v2) rfl rfl (by kernel_rfl) (by kernel_rfl) (by kernel_rfl) (fun _ _ _ h => h) (.inl ⟨by rfl, fun wz hSw => ?_⟩) hS9 ?_
            · (try dsimp only at hSw); go_simp
            try simp only [Act.put]
            refine wpAnyH_done (by kernel_rfl) ?_ _
            simp only [NoPanic]
            go_wp2
            go_roundw
            case rel =>
              refine ⟨i + 1, out ++ [(x, y)], by go_num, by omega, by rw [List.length_append]; simp; (have := hmo.out; omega), Lib.hid ?_, own9', he9, hb9⟩
              have := hstep.out
              rw [hq.out, if_pos rfl, if_neg hlast.out] at this
              rw [← this]; exact hmix.out
            case measure => simp [intOf]; omega
    · go_wp2
      go_ret
      have := hmix.out
      rw [mix_end In (by rw [hnE.out]; omega)] at this
      subst this
      rw [← hR.out, ← hIn.out] at hown
      exact ⟨_, E, rfl, HInc.out, HMem.out, hown, hbw⟩
end Go.Proofs.YtfhljcpicdabmaaGreatDoor

/- The seat: what is made of two lists, the specification's side. -/
namespace Go.Proofs.YtfhljcpicdabmaaGreatDoor
open Go Go.RowKit Go.Ev Go.WayM
open Go.SetM hiding Sp
set_option maxRecDepth 100000
set_option maxHeartbeats 1000000
/-- The normal list of two sets, mixed. -/
def MixIs (m : Int) (a b L : List Sp) : Prop := normal L ∧ (∀ x, hasD L x = mixG m (hasD a x) (hasD b x)) ∧ L.length ≤ a.length + b.length
theorem MixIs.one {m : Int} {a b L L' : List Sp} (h : MixIs m a b L) (h' : MixIs m a b L') : L = L' := norm_eq L L' h.1 h'.1 fun x => by rw [h.2.1, h'.2.1]
theorem vals_app (a b : List Sp) : vals (a ++ b) = vals a ++ vals b := by unfold vals; rw [List.flatMap_append]
theorem mixG_none (m : Int) : mixG m false false = false := by
  unfold mixG
  split
  · rfl
  · split <;> rfl
theorem runs_is {m : Int} {a b : List Sp} {E : List Int} (hi : Inc E) (hE : ∀ x, x ∈ E ↔ x ∈ vals (a ++ b)) : MixIs m a b (runs (fun x => mixG m (hasD a x) (hasD b x)) E false 0 []) := by
  have h := mix_all (mixG m) (mixG_none m) a b E hi fun v => by rw [hE, vals_app, List.mem_append]
  refine ⟨h.2.1, h.1, ?_⟩
  have hl := h.2.2
  have he := inc_len E (vals (a ++ b)) hi fun x hx => (hE x).1 hx
  rw [vals_len, List.length_append] at he
  have e : (runs (mixIn (mixG m) a b) E false 0 []).length = (runs (fun x => mixG m (hasD a x) (hasD b x)) E false 0 []).length := rfl
  omega
theorem mixL_is {m : Int} {a b : List Sp} {E : List Int} (hi : Inc E) (hE : ∀ x, x ∈ E ↔ x ∈ vals (a ++ b)) : MixIs m a b (mixL (fun x => mixG m (hasD a x) (hasD b x)) E []) := by
  by_cases h0 : E = []
  · have := runs_is (m := m) hi hE
    rw [h0] at this ⊢
    exact this
  · have h := runs_mix (fun x => mixG m (hasD a x) (hasD b x)) E false 0 [] [] hi (fun x hx => ?_) h0 (fun x r _ => by rw [if_neg Bool.false_ne_true]; exact ⟨rfl, fun s hs => by simp at hs⟩)
    · rw [← h]; exact runs_is hi hE
    · have key : ∀ l : List Sp, (∀ v ∈ vals l, v ∈ vals (a ++ b)) → hasD l x = false := fun l hl => has_last fun s hs => inc_last hi hx s.2 ((hE _).2 (hl _ ((vals_mem l s.2).2 ⟨s, hs, .inr rfl⟩)))
      show mixG m (hasD a x) (hasD b x) = false
      rw [key a fun v hv => by rw [vals_app]; exact List.mem_append.2 (.inl hv), key b fun v hv => by rw [vals_app]; exact List.mem_append.2 (.inr hv)]
      exact mixG_none m
theorem spansB_in {l : List Sp} (h : spansB l = true) : spansIn l ∧ l.length ≤ 60 := by
  unfold spansB at h
  rw [Bool.and_eq_true, decide_eq_true_eq, List.all_eq_true] at h
  refine ⟨fun p hp => ?_, h.1⟩
  have := h.2 p hp
  unfold spanB at this
  rw [decide_eq_true_eq] at this
  exact this
theorem normB_in {l : List Sp} (h : normB l = true) : spansIn l ∧ l.length ≤ 60 := by
  unfold normB at h
  rw [Bool.and_eq_true] at h
  exact spansB_in h.1
def RetIs (m : Int) (a b L : List Sp) (E : Int) : Prop := ((normB a && normB b) = false ∧ L = [] ∧ E = 2) ∨ ((normB a && normB b) = true ∧ ∃ L', MixIs m a b L' ∧ ((60 < L'.length ∧ L = [] ∧ E = 3) ∨ (L'.length ≤ 60 ∧ L = L' ∧ E = 0)))
theorem RetIs.one {m : Int} {a b L L2 : List Sp} {E E2 : Int} (h : RetIs m a b L E) (h2 : RetIs m a b L2 E2) : L = L2 ∧ E = E2 := by
  rcases h with ⟨n1, rfl, rfl⟩ | ⟨n1, L', h1, h3⟩
  · rcases h2 with ⟨_, rfl, rfl⟩ | ⟨n2, _⟩
    · exact ⟨rfl, rfl⟩
    · rw [n1] at n2; cases n2
  · rcases h2 with ⟨n2, _⟩ | ⟨_, L2', h2, h4⟩
    · rw [n1] at n2; cases n2
    · obtain rfl := h1.one h2
      rcases h3 with ⟨a1, rfl, rfl⟩ | ⟨a1, rfl, rfl⟩ <;> rcases h4 with ⟨a2, rfl, rfl⟩ | ⟨a2, rfl, rfl⟩
      · exact ⟨rfl, rfl⟩
      · omega
      · omega
      · exact ⟨rfl, rfl⟩
def MixRet (m : Int) (a b : List Sp) (w : World) (e : Ending) (w' : World) : Prop := ∃ s L E, e = .returned (.tuple #[s, .int .i64 E]) ∧ SpAt w' s L ∧ Below w.heap.size w w' ∧ RetIs m a b L E
def NormIs (a L : List Sp) (E : Int) : Prop := (spansB a = false ∧ L = [] ∧ E = 2) ∨ (spansB a = true ∧ MixIs 1 a [] L ∧ E = 0)
theorem NormIs.one {a L L2 : List Sp} {E E2 : Int} (h : NormIs a L E) (h2 : NormIs a L2 E2) : L = L2 ∧ E = E2 := by
  rcases h with ⟨n1, rfl, rfl⟩ | ⟨n1, h1, rfl⟩ <;> rcases h2 with ⟨n2, rfl, rfl⟩ | ⟨n2, h2, rfl⟩
  · exact ⟨rfl, rfl⟩
  · rw [n1] at n2; cases n2
  · rw [n1] at n2; cases n2
  · exact ⟨h1.one h2, rfl⟩
def NormRet (a : List Sp) (w : World) (e : Ending) (w' : World) : Prop := ∃ s L E, e = .returned (.tuple #[s, .int .i64 E]) ∧ SpAt w' s L ∧ Below w.heap.size w w' ∧ NormIs a L E
theorem normalR_any (s : Value) (a : List Sp) (W0 : World) (h : SpAt W0 s a) (hl : a.length ≤ 9223372036854775807) : Calls Tryz.prog 35 #[s] W0 (NormRet a W0) := by
  have cS := spansR_any s a W0 h hl
  cases hb : spansB a with
  | false =>
    rw [hb] at cS
    have HB := Lib.hid hb
    clear hb
    go_enter Tryz.func35, Tryz.ntmps35
    go_wp2_with fail
    refine cS.mono ?_
    rintro e w1 ⟨rfl, b1⟩
    go_wp2
    go_ret2
    exact ⟨_, [], 2, rfl, sp_nil _, b1, .inl ⟨HB.out, rfl, rfl⟩⟩
  | true =>
    rw [hb] at cS
    obtain ⟨i1, l1⟩ := spansB_in hb
    have HB := Lib.hid hb
    have HH := Lib.hid h
    clear hb h
    go_enter Tryz.func35, Tryz.ntmps35
    go_wp2_with fail
    refine cS.mono ?_
    rintro e w1 ⟨rfl, b1⟩
    go_wp2_with fail
    refine (mixed_any s _ a [] 1 w1 (HH.out.below b1 (Nat.le_refl _)) (sp_nil w1) l1 (by simp) (Lib.hid i1) (Lib.hid fun p hp => by cases hp) (Lib.hid (.inl rfl))).mono ?_
    rintro e w2 ⟨s', E, rfl, hi, hm, hown, b2⟩
    have hsp := spAt_own hown
    have hmix := Lib.hid (mixL_is (m := 1) hi hm)
    clear hown hi hm
    obtain ⟨L, hL⟩ : ∃ L, Hid (mixL (fun x => mixG 1 (hasD a x) (hasD [] x)) E [] = L) := ⟨_, Lib.hid rfl⟩
    rw [hL.out] at hsp hmix
    go_wp2
    go_ret2
    exact ⟨_, L, 0, rfl, hsp, b1.trans (b2.mono b1.size), .inr ⟨HB.out, hmix.out, rfl⟩⟩
theorem mixedR_any (s1 s2 : Value) (a b : List Sp) (m : Int) (W0 : World) (h1 : SpAt W0 s1 a) (h2 : SpAt W0 s2 b) (l1 : a.length ≤ 9223372036854775807) (l2 : b.length ≤ 9223372036854775807) (hm : Hid (m = 1 ∨ m = 2 ∨ m = 3)) :
    Calls Tryz.prog 108 #[s1, s2, .int .i64 m] W0 (MixRet m a b W0) := by
  have cA := spansN_any s1 a W0 h1 l1
  have H1 := Lib.hid h1
  have H2 := Lib.hid h2
  clear h1 h2
  cases ha : normB a with
  | false =>
    rw [ha] at cA
    have HA := Lib.hid ha
    clear ha
    go_enter Tryz.func108, Tryz.ntmps108
    go_wp2_with fail
    refine cA.mono ?_
    rintro e w1 ⟨rfl, b1⟩
    go_wp2
    go_ret2
    exact ⟨_, [], 2, rfl, sp_nil _, b1, .inl ⟨by rw [HA.out]; rfl, rfl, rfl⟩⟩
  | true =>
    rw [ha] at cA
    obtain ⟨i1, k1⟩ := normB_in ha
    have HA := Lib.hid ha
    clear ha
    obtain ⟨nb, hnb⟩ : ∃ nb, Hid (normB b = nb) := ⟨_, Lib.hid rfl⟩
    go_enter Tryz.func108, Tryz.ntmps108
    go_wp2_with fail
    refine cA.mono ?_
    rintro e w1 ⟨rfl, b1⟩
    have cB := spansN_any s2 b w1 (H2.out.below b1 (Nat.le_refl _)) l2
    rw [hnb.out] at cB
    go_wp2_with fail
    refine cB.mono ?_
    rintro e w2 ⟨rfl, b2⟩
    have k2 : Below W0.heap.size W0 w2 := b1.trans (b2.mono b1.size)
    clear cA cB
    cases nb with
    | false =>
      go_wp2
      go_ret2
      exact ⟨_, [], 2, rfl, sp_nil _, k2, .inl ⟨by rw [hnb.out, Bool.and_false], rfl, rfl⟩⟩
    | true =>
      obtain ⟨i2, kk2⟩ := normB_in hnb.out
      go_wp2_with fail
      refine (mixed_any s1 s2 a b m w2 (H1.out.below k2 (Nat.le_refl _)) (H2.out.below k2 (Nat.le_refl _)) k1 kk2 (Lib.hid i1) (Lib.hid i2) hm).mono ?_
      rintro e w3 ⟨s', E, rfl, hi, hmm, hown, b3⟩
      have hsp := spAt_own hown
      have hmix := Lib.hid (mixL_is (m := m) hi hmm)
      clear hown hi hmm
      obtain ⟨L, hL⟩ : ∃ L, Hid (mixL (fun x => mixG m (hasD a x) (hasD b x)) E [] = L) := ⟨_, Lib.hid rfl⟩
      rw [hL.out] at hsp hmix
      have k3 : Below W0.heap.size W0 w3 := k2.trans (b3.mono k2.size)
      obtain ⟨A5, c5, rfl, _⟩ := id hsp
      obtain ⟨nl, hnl⟩ : ∃ nl, Hid (L.length = nl) := ⟨_, Lib.hid rfl⟩
      have hsp' := hsp
      rw [hnl.out] at hsp' ⊢
      by_cases h60 : nl ≤ 60
      · have h60b : decide ((60 : Int) < (nl : Int)) = false := decide_eq_false (by omega)
        go_wp2
        go_ret2
        exact ⟨_, L, 0, rfl, hsp', k3, .inr ⟨by rw [HA.out, hnb.out]; rfl, L, hmix.out, .inr ⟨by rw [hnl.out]; exact h60, rfl, rfl⟩⟩⟩
      · have h60b : decide ((60 : Int) < (nl : Int)) = true := decide_eq_true (by omega)
        go_wp2
        go_ret2
        exact ⟨_, [], 3, rfl, sp_nil _, k3, .inr ⟨by rw [HA.out, hnb.out]; rfl, L, hmix.out, .inl ⟨by rw [hnl.out]; omega, rfl, rfl⟩⟩⟩
theorem joinR_any (s1 s2 : Value) (a b : List Sp) (W0 : World) (h1 : SpAt W0 s1 a) (h2 : SpAt W0 s2 b) (l1 : a.length ≤ 9223372036854775807) (l2 : b.length ≤ 9223372036854775807) : Calls Tryz.prog 40 #[s1, s2] W0 (MixRet 1 a b W0) := by
  have c := mixedR_any s1 s2 a b 1 W0 h1 h2 l1 l2 (Lib.hid (.inl rfl))
  clear h1 h2
  go_enter Tryz.func40, Tryz.ntmps40
  go_wp2_with fail
  refine c.mono ?_
  rintro e w1 ⟨s, L, E, rfl, h⟩
  go_wp2
  go_ret2
  exact ⟨s, L, E, rfl, h⟩
theorem meetR_any (s1 s2 : Value) (a b : List Sp) (W0 : World) (h1 : SpAt W0 s1 a) (h2 : SpAt W0 s2 b) (l1 : a.length ≤ 9223372036854775807) (l2 : b.length ≤ 9223372036854775807) : Calls Tryz.prog 41 #[s1, s2] W0 (MixRet 2 a b W0) := by
  have c := mixedR_any s1 s2 a b 2 W0 h1 h2 l1 l2 (Lib.hid (.inr (.inl rfl)))
  clear h1 h2
  go_enter Tryz.func41, Tryz.ntmps41
  go_wp2_with fail
  refine c.mono ?_
  rintro e w1 ⟨s, L, E, rfl, h⟩
  go_wp2
  go_ret2
  exact ⟨s, L, E, rfl, h⟩
theorem cutR_any (s1 s2 : Value) (a b : List Sp) (W0 : World) (h1 : SpAt W0 s1 a) (h2 : SpAt W0 s2 b) (l1 : a.length ≤ 9223372036854775807) (l2 : b.length ≤ 9223372036854775807) : Calls Tryz.prog 42 #[s1, s2] W0 (MixRet 3 a b W0) := by
  have c := mixedR_any s1 s2 a b 3 W0 h1 h2 l1 l2 (Lib.hid (.inr (.inr rfl)))
  clear h1 h2
  go_enter Tryz.func42, Tryz.ntmps42
  go_wp2_with fail
  refine c.mono ?_
  rintro e w1 ⟨s, L, E, rfl, h⟩
  go_wp2
  go_ret2
  exact ⟨s, L, E, rfl, h⟩
end Go.Proofs.YtfhljcpicdabmaaGreatDoor

/- The seat: the ends of spans as edges, the project's side. -/
namespace Go.Proofs.YtfhljcpicdabmaaGreatDoor
open Go Go.RowKit Go.Ev Go.WayM
open Go.SetM hiding Sp
set_option maxRecDepth 100000
set_option maxHeartbeats 1000000
def eCells (l : List SetM.Edge) : List Value := l.flatMap fun e => [.int .i64 e.1, .bool e.2.1, .bool e.2.2]
theorem eCells_app (a b : List SetM.Edge) : eCells (a ++ b) = eCells a ++ eCells b := by unfold eCells; rw [List.flatMap_append]
theorem eCells_len (l : List SetM.Edge) : (eCells l).length = l.length * 3 := by
  induction l with
  | nil => rfl
  | cons p l ih =>
    have e : eCells (p :: l) = [.int .i64 p.1, .bool p.2.1, .bool p.2.2] ++ eCells l := rfl
    rw [e, List.length_append, ih]; simp; omega
theorem eCells_at : ∀ (l : List SetM.Edge) (i : Nat) (e : SetM.Edge), l[i]? = some e → (eCells l)[i * 3]? = some (.int .i64 e.1) ∧ (eCells l)[i * 3 + 1]? = some (.bool e.2.1) ∧ (eCells l)[i * 3 + 2]? = some (.bool e.2.2)
  | [], i, e, h => by simp at h
  | q :: l, 0, e, h => by
    simp only [List.getElem?_cons_zero, Option.some.injEq] at h
    subst h
    exact ⟨rfl, rfl, rfl⟩
  | q :: l, i + 1, e, h => by
    have ih := eCells_at l i e (by simpa using h)
    have e1 : eCells (q :: l) = .int .i64 q.1 :: .bool q.2.1 :: .bool q.2.2 :: eCells l := rfl
    rw [e1, show (i + 1) * 3 = i * 3 + 1 + 1 + 1 by omega]
    exact ⟨by simpa using ih.1, by simpa using ih.2.1, by simpa using ih.2.2⟩
theorem info151 : (Tryz.prog.info? 151).map (fun i => (i.zero, i.size, i.bytes)) = some (some (.agg #[.int .i64 0, .bool false, .bool false]), 3, 16) := by kernel_rfl
theorem cells_new (w : World) (cs : List Value) (t : TypeId) : ∀ j u, cs[j]? = some u → (w.alloc (.cells cs.toArray t)).cell? ((⟨w.heap.size, 0, none⟩ : Addr).add j) = some u := by
  intro j u h
  rw [add_at0]
  unfold World.cell?
  rw [heap_alloc_new]
  simpa using h
theorem edges_next {l : List Sp} {i : Nat} {p : Sp} (k : Bool) (h : l[i]? = some p) : edges (l.take (i + 1)) k = edges (l.take i) k ++ [(p.1, k, true), (p.2, k, false)] := by
  unfold edges; rw [take_next h, List.flatMap_append]; rfl
theorem edges_len (l : List Sp) (k : Bool) : (edges l k).length = 2 * l.length := by
  induction l with
  | nil => rfl
  | cons p l ih =>
    have e : edges (p :: l) k = [(p.1, k, true), (p.2, k, false)] ++ edges l k := rfl
    rw [e, List.length_append, ih]; simp; omega
def EdgesBe (L0 : List SetM.Edge) (l : List Sp) (k : Bool) (B : Nat) (w : World) (e : Ending) (w' : World) : Prop := ∃ v, e = .returned v ∧ w'.ownsRow B 151 3 v (L0 ++ edges l k).length (eCells (L0 ++ edges l k)) ∧ Below B w w'
theorem edges_any (u s : Value) (L0 : List SetM.Edge) (l : List Sp) (k : Bool) (B : Nat) (W0 : World) (hown : W0.ownsRow B 151 3 u L0.length (eCells L0)) (hB : B ≤ W0.heap.size) (HS : Hid (∀ w, Below B W0 w → SpAt w s l)) (hl : l.length ≤ 60) (hL : L0.length ≤ 200) :
    Calls Tryz.prog 100 #[u, s, .bool k] W0 (EdgesBe L0 l k B W0) := by
  obtain ⟨i0, hi0, hz0, hz1, hz2⟩ := info_parts info151
  obtain ⟨A, c, rfl, _⟩ := HS.out W0 (Below.refl _ _)
  obtain ⟨n, hn⟩ : ∃ n, Hid (l.length = n) := ⟨_, Lib.hid rfl⟩
  rw [hn.out] at HS hl ⊢
  go_enter Tryz.func100, Tryz.ntmps100
  go_wp2
  go_loopw [0, 11] (fun u0 u11 wr => ∃ i : Nat, i ≤ n ∧ u11 = .int .i64 i ∧ wr.ownsRow B 151 3 u0 (L0 ++ edges (l.take i) k).length (eCells (L0 ++ edges (l.take i) k)) ∧ Below B W0 wr) (fun _ u11 _ => n - (intOf u11).toNat)
  case atStart => exact ⟨0, by omega, rfl, by rw [show l.take 0 = [] by simp, show edges [] k = [] from rfl, List.append_nil]; exact hown, Below.refl _ _⟩
  case round =>
    obtain ⟨i, hi, rfl, hr, hbw⟩ := hrel
    clear hown
    have hBr : B ≤ wr.heap.size := by have := hbw.size; omega
    by_cases hlt : i < n
    · obtain ⟨p, hp⟩ : ∃ p, l[i]? = some p := ⟨_, List.getElem?_eq_getElem (by have := hn.out; omega)⟩
      obtain ⟨g, o, rfl, hg, c0, c1⟩ := (HS.out wr hbw).get hp
      have hln : (L0 ++ edges (l.take i) k).length ≤ 320 := by
        rw [List.length_append, edges_len, List.length_take]; have := hn.out; omega
      have hnx := Lib.hid (edges_next k hp)
      have hr1 := hr.alloc (.cells #[.int .i64 p.1, .int .i64 p.2] 48)
      clear hp hr
      go_wp2_with (at_builtin; refine wpList_append_own _ rfl (.tmp 15) (.tmp 24) 108 rfl B 151 i0 (.agg #[.int .i64 0, .bool false, .bool false]) 3 16 Tryz.underlying108 hi0 hz0 hz1 hz2 rfl (by decide) _ _ _ rfl (hr1.alloc _) ⟨_, 0, none⟩ 2 2 [.int .i64 p.1, .bool k, .bool true, .int .i64 p.2, .bool k, .bool false] rfl rfl ?k1 ?k2 ?k3 ?k4 ?k5 ?_)
      case k1 =>
        have hc := cells_new (wr.alloc (.cells #[.int .i64 p.1, .int .i64 p.2] 48)) [.int .i64 p.1, .bool k, .bool true, .int .i64 p.2, .bool k, .bool false] 151
        rw [show (wr.alloc (.cells #[.int .i64 p.1, .int .i64 p.2] 48)).heap.size = wr.heap.size + 1 by simp] at hc
        exact hc
      case k2 =>
        intro u hu
        simp only [List.mem_cons, List.not_mem_nil, or_false] at hu
        rcases hu with rfl | rfl | rfl | rfl | rfl | rfl <;> rfl
      case k3 => unfold maxLen; omega
      case k4 => omega
      case k5 => simp; omega
      intro v' w3 hown3 hg3 _
      go_wp2
      go_roundw
      case rel =>
        have e1 : L0 ++ edges (l.take (i + 1)) k = (L0 ++ edges (l.take i) k) ++ [(p.1, k, true), (p.2, k, false)] := by rw [hnx.out, List.append_assoc]
        refine ⟨i + 1, by omega, by go_num, ?_, ?_⟩
        · rw [e1, eCells_app, List.length_append, List.length_append]
          exact hown3
        · exact ((hbw.alloc hBr _).alloc (by simp; omega) _).grown hg3 (by simp; omega) (fun j hj => (hr1.lt j hj).1)
      case measure => simp [intOf]; omega
    · have hin : i = n := by omega
      have HI := Lib.hid hin
      clear hin
      go_wp2
      go_ret
      rw [HI.out, ← hn.out, List.take_length] at hr
      exact ⟨u0, rfl, hr, hbw⟩
end Go.Proofs.YtfhljcpicdabmaaGreatDoor
