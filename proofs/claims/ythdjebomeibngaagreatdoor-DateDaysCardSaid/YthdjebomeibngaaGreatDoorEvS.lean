/- A checked interpreter for closed calls, part 19: how a plan is made. -/
import Derived.Test.YthdjebomeibngaaGreatDoorEvR
namespace Go.Ev
open Go Go.MapKept

theorem ok_lt {i : Nat} (h : ok i = true) : i < 2 ^ deep - 1 := by
  have : i ≤ 1000000000000 := Nat.le_of_ble_eq_true h
  simp only [deep]
  omega

/-! What must come before what: a row of bits an operation. -/

def bindA : Ground → Bool
  | .textOnly _ | .gcOnly _ => false
  | _ => true

theorem bindA_eq (e : Edge) : Region.binds .any e = bindA e.ground := by
  unfold Region.binds bindA
  cases e.ground <;> rfl

def maskT (t : T Nat) : List Edge → Nat
  | [] => 0
  | e :: es => cond (bindA e.ground) (Nat.lor (Nat.lor (Nat.shiftLeft 1 e.on) ((t.get e.on).getD 0)) (maskT t es)) (maskT t es)

def masksT : List Oper → Nat → T Nat → T Nat
  | [], _, t => t
  | o :: rest, i, t => masksT rest (i + 1) (t.set deep i (some (maskT t o.after.toList)))

def backEdges (i : Nat) : List Edge → Bool
  | [] => true
  | e :: es => cond (bindA e.ground) (Nat.ble (e.on + 1) i) true && backEdges i es

def chkMasks (t : T Nat) : List Oper → Nat → Bool
  | [], _ => true
  | o :: rest, i => (match t.get i with | some m => Nat.beq m (maskT t o.after.toList) | none => false) && backEdges i o.after.toList && chkMasks t rest (i + 1)

def tb (m k : Nat) : Bool := Nat.beq (Nat.land (Nat.shiftRight m k) 1) 1

theorem tb_eq (m k : Nat) : tb m k = m.testBit k := by
  have e : Nat.land (Nat.shiftRight m k) 1 = (m >>> k) % 2 := Nat.and_one_is_mod _
  unfold tb
  rw [e, Nat.testBit_eq_decide_div_mod_eq, Nat.shiftRight_eq_div_pow]
  cases h : Nat.beq (m / 2 ^ k % 2) 1 with
  | true => have := Nat.eq_of_beq_eq_true h; simp [this]
  | false => have := Nat.ne_of_beq_eq_false h; simp; omega

def ancT (t : T Nat) (i k : Nat) : Bool := tb ((t.get i).getD 0) k

theorem maskT_bit (t : T Nat) : ∀ (es : List Edge) (k : Nat), (maskT t es).testBit k = true ↔ ∃ e ∈ es, bindA e.ground = true ∧ (k = e.on ∨ ancT t e.on k = true)
  | [], k => by simp [maskT]
  | e :: es, k => by
    unfold maskT
    have ih := maskT_bit t es k
    cases hb : bindA e.ground with
    | false => simp [hb, ih]
    | true =>
      simp only [cond_true]
      have e1 : Nat.lor (Nat.lor (Nat.shiftLeft 1 e.on) ((t.get e.on).getD 0)) (maskT t es) = ((1 <<< e.on) ||| ((t.get e.on).getD 0)) ||| maskT t es := rfl
      rw [e1, Nat.testBit_or, Nat.testBit_or, Nat.one_shiftLeft, Nat.testBit_two_pow]
      simp only [Bool.or_eq_true, decide_eq_true_eq, ih, ancT, tb_eq, List.mem_cons, exists_eq_or_imp, hb, true_and]
      constructor
      · rintro ((h | h) | h)
        · exact .inl (.inl h.symm)
        · exact .inl (.inr h)
        · exact .inr h
      · rintro ((h | h) | h)
        · exact .inl (.inl h.symm)
        · exact .inl (.inr h)
        · exact .inr h

theorem backEdges_spec {i : Nat} : ∀ {es : List Edge}, backEdges i es = true → ∀ e ∈ es, bindA e.ground = true → e.on < i
  | [], _, e, he, _ => by cases he
  | x :: es, h, e, he, hb => by
    unfold backEdges at h
    rw [Bool.and_eq_true] at h
    rcases List.mem_cons.1 he with rfl | he
    · have := h.1
      rw [hb] at this
      exact Nat.le_of_ble_eq_true this
    · exact backEdges_spec h.2 e he hb

theorem chkMasks_spec {t : T Nat} : ∀ (l : List Oper) (i : Nat), chkMasks t l i = true → ∀ (j : Nat) (o : Oper), l[j]? = some o → (∃ m, t.get (i + j) = some m ∧ m = maskT t o.after.toList) ∧ backEdges (i + j) o.after.toList = true
  | [], _, _, j, o, h => by simp at h
  | x :: l, i, h, j, o, ho => by
    unfold chkMasks at h
    simp only [Bool.and_eq_true] at h
    obtain ⟨⟨h1, h2⟩, h3⟩ := h
    cases j with
    | zero =>
      simp at ho
      subst ho
      refine ⟨?_, h2⟩
      split at h1
      · rename_i m hm
        exact ⟨m, hm, Nat.eq_of_beq_eq_true h1⟩
      · cases h1
    | succ j =>
      have := chkMasks_spec l (i + 1) h3 j o (by simpa using ho)
      rw [show i + 1 + j = i + (j + 1) by omega] at this
      exact this

/-! Which operation writes a slot. -/

def dstT : List Oper → Nat → T Nat → T Nat
  | [], _, t => t
  | o :: rest, i, t => dstT rest (i + 1) (match o.dst with | some d => t.set deep d (some i) | none => t)

def chkDst (n : Nat) (t : T Nat) : List Oper → Nat → Bool
  | [], _ => true
  | o :: rest, i =>
    (match o.dst with
     | some d => (match t.get d with | some k => Nat.beq k i | none => false) && Nat.ble (d + 1) n && ok d
     | none => true) && chkDst n t rest (i + 1)

theorem chkDst_spec {n : Nat} {t : T Nat} : ∀ (l : List Oper) (i : Nat), chkDst n t l i = true → ∀ (j : Nat) (o : Oper) (d : Nat), l[j]? = some o → o.dst = some d → t.get d = some (i + j) ∧ d < n ∧ ok d = true
  | [], _, _, j, o, d, h, _ => by simp at h
  | x :: l, i, h, j, o, d, ho, hd => by
    unfold chkDst at h
    rw [Bool.and_eq_true] at h
    cases j with
    | zero =>
      simp at ho
      subst ho
      have h1 := h.1
      rw [hd] at h1
      simp only [Bool.and_eq_true] at h1
      obtain ⟨⟨h2, h3⟩, h4⟩ := h1
      split at h2
      · rename_i k hk
        have := Nat.eq_of_beq_eq_true h2
        subst this
        exact ⟨hk, Nat.le_of_ble_eq_true h3, h4⟩
      · cases h2
    | succ j =>
      have := chkDst_spec l (i + 1) h.2 j o d (by simpa using ho) hd
      rw [show i + 1 + j = i + (j + 1) by omega] at this
      exact this

theorem dstT_spec : ∀ (l : List Oper) (i : Nat) (t : T Nat) (d k : Nat), (∀ o ∈ l, ∀ d, o.dst = some d → ok d = true) → (dstT l i t).get d = some k → t.get d = some k ∨ (i ≤ k ∧ ∃ o, l[k - i]? = some o ∧ o.dst = some d)
  | [], _, _, _, _, _, h => .inl h
  | o :: l, i, t, d, k, hok, h => by
    unfold dstT at h
    rcases dstT_spec l (i + 1) _ d k (fun o ho => hok o (by simp [ho])) h with h1 | ⟨h1, o', h2, h3⟩
    · split at h1
      · rename_i d' hd'
        have hk := hok o (by simp) d' hd'
        rw [T.get_set _ _ _ _ _ (ok_lt hk)] at h1
        by_cases e : d = d'
        · rw [if_pos e] at h1
          cases h1
          subst e
          exact .inr ⟨Nat.le_refl _, o, by simp, hd'⟩
        · rw [if_neg e] at h1
          exact .inl h1
      · exact .inl h1
    · refine .inr ⟨by omega, o', ?_, h3⟩
      rw [show k - i = (k - (i + 1)) + 1 by omega]
      simpa using h2

/-! Blocks that an operation has made. -/

def addAll (h : T AObj) : List (Nat × AObj) → T AObj
  | [] => h
  | (i, o) :: d => (addAll h d).set deep i (some o)

theorem addAll_get {h : T AObj} : ∀ (d : List (Nat × AObj)) (id : Nat) (x : AObj), (∀ q ∈ d, ok q.1 = true) → (addAll h d).get id = some x → (id, x) ∈ d ∨ h.get id = some x
  | [], _, _, _, h => .inr h
  | (i, o) :: d, id, x, hok, h => by
    unfold addAll at h
    have : i ≤ 1000000000000 := Nat.le_of_ble_eq_true (hok (i, o) (by simp))
    rw [T.get_set _ _ _ _ _ (by simp only [deep]; omega)] at h
    by_cases e : id = i
    · rw [if_pos e] at h
      cases h
      subst e
      exact .inl (by simp)
    · rw [if_neg e] at h
      rcases addAll_get d id x (fun q hq => hok q (by simp [hq])) h with h1 | h1
      · exact .inl (by simp [h1])
      · exact .inr h1

theorem addAll_other {h : T AObj} : ∀ (d : List (Nat × AObj)) (id : Nat), (∀ q ∈ d, ok q.1 = true ∧ q.1 ≠ id) → (addAll h d).get id = h.get id
  | [], _, _ => rfl
  | (i, o) :: d, id, hok => by
    unfold addAll
    obtain ⟨h1, h2⟩ := hok (i, o) (by simp)
    have : i ≤ 1000000000000 := Nat.le_of_ble_eq_true h1
    rw [T.get_set _ _ _ _ _ (by simp only [deep]; omega), if_neg (fun e => h2 e.symm)]
    exact addAll_other d id fun q hq => hok q (by simp [hq])

/-- The blocks from a number on, so many. -/
def blocksFrom (h : T AObj) (a : Nat) : Nat → List (Nat × AObj)
  | 0 => []
  | k + 1 => match h.get (a + k), ok (a + k) with | some o, true => (a + k, o) :: blocksFrom h a k | _, _ => blocksFrom h a k

theorem blocksFrom_spec {h : T AObj} {a : Nat} : ∀ (k : Nat) (q : Nat × AObj), q ∈ blocksFrom h a k → h.get q.1 = some q.2 ∧ a ≤ q.1 ∧ q.1 < a + k ∧ ok q.1 = true
  | 0, q, hq => by simp [blocksFrom] at hq
  | k + 1, q, hq => by
    unfold blocksFrom at hq
    split at hq
    · rename_i o h1 h2
      rcases List.mem_cons.1 hq with rfl | hq
      · exact ⟨h1, by simp, by simp, h2⟩
      · obtain ⟨g1, g2, g3, g4⟩ := blocksFrom_spec k q hq
        exact ⟨g1, g2, by omega, g4⟩
    · obtain ⟨g1, g2, g3, g4⟩ := blocksFrom_spec k q hq
      exact ⟨g1, g2, by omega, g4⟩

end Go.Ev
