/- A checked interpreter for closed calls, part 21: the plan that is made is sound. -/
import Derived.Test.YthdjebomeibngaaGreatDoorEvT
namespace Go.Ev
open Go Go.MapKept

/-- The writers, and the state ahead of each. -/
def segs : List Rec → Nat → St → List (Nat × St)
  | [], _, _ => []
  | r :: rs, i, cur => cond (Nat.beq r.c 2) ((i, cur) :: segs rs (i + 1) r.st) (segs rs (i + 1) r.st)

def lastSt : St → List Rec → St
  | cur, [] => cur
  | _, r :: rs => lastSt r.st rs

def nth (sg : List (Nat × St)) (e : St) (j : Nat) : St := match sg[j]? with | some x => x.2 | none => e

def Frozen : St → List Rec → Prop
  | _, [] => True
  | cur, r :: rs => (r.c ≠ 2 → r.st = cur) ∧ Frozen r.st rs

def Tail : St → List Rec → Prop
  | _, [] => True
  | _, r :: rs => (r.c = 2 → Frozen r.st rs) ∧ (r.c ≠ 2 → Tail r.st rs)

theorem Frozen.first : ∀ (rs : List Rec) (i : Nat) (cur : St), Frozen cur rs → nth (segs rs i cur) (lastSt cur rs) 0 = cur
  | [], _, _, _ => rfl
  | r :: rs, i, cur, h => by
    unfold segs
    cases hc : Nat.beq r.c 2 with
    | true => rfl
    | false =>
      have hn := Nat.ne_of_beq_eq_false hc
      have := h.1 hn
      simp only [cond_false, lastSt]
      rw [Frozen.first rs (i + 1) r.st h.2, this]

theorem stAt_cons (cur : St) (r : Rec) (rs : List Rec) (k : Nat) (hk : k ≤ rs.length) : stAt cur (r :: rs) (k + 1) = stAt r.st rs k := by
  cases k with
  | zero => rfl
  | succ k =>
    have : k < rs.length := hk
    simp [stAt, List.getElem?_eq_getElem this]

theorem Frozen.tail : ∀ (rs : List Rec) (cur : St), Frozen cur rs → Tail cur rs
  | [], _, _ => trivial
  | _ :: rs, _, h => ⟨fun _ => h.2, fun _ => Frozen.tail rs _ h.2⟩

theorem Tail.spec : ∀ (rs : List Rec) (i : Nat) (cur : St), Tail cur rs → ∀ (j : Nat) (x : Nat × St), (segs rs i cur)[j]? = some x →
    i ≤ x.1 ∧ ∃ r, rs[x.1 - i]? = some r ∧ r.c = 2 ∧ x.2 = stAt cur rs (x.1 - i) ∧ nth (segs rs i cur) (lastSt cur rs) (j + 1) = r.st
  | [], _, _, _, j, x, h => by simp [segs] at h
  | r :: rs, i, cur, ht, j, x, h => by
    unfold segs at h ⊢
    cases hc : Nat.beq r.c 2 with
    | true =>
      have h2 := Nat.eq_of_beq_eq_true hc
      have hf := ht.1 h2
      rw [hc] at h
      simp only [cond_true] at h ⊢
      cases j with
      | zero =>
        simp at h
        subst h
        refine ⟨Nat.le_refl _, r, by simp, h2, by simp [stAt], ?_⟩
        have := Frozen.first rs (i + 1) r.st hf
        unfold nth at this ⊢
        simpa [lastSt] using this
      | succ j =>
        obtain ⟨h3, r', h4, h5, h6, h7⟩ := Tail.spec rs (i + 1) r.st (hf.tail) j x (by simpa using h)
        have e : x.1 - i = (x.1 - (i + 1)) + 1 := by omega
        have hlt : x.1 - (i + 1) < rs.length := by
          rcases Nat.lt_or_ge (x.1 - (i + 1)) rs.length with h' | h'
          · exact h'
          · simp [List.getElem?_eq_none h'] at h4
        refine ⟨by omega, r', by rw [e]; simpa using h4, h5, ?_, ?_⟩
        · rw [e, stAt_cons _ _ _ _ (by omega)]; exact h6
        · unfold nth at h7 ⊢
          simpa [lastSt] using h7
    | false =>
      have h2 := Nat.ne_of_beq_eq_false hc
      rw [hc] at h
      simp only [cond_false] at h ⊢
      obtain ⟨h3, r', h4, h5, h6, h7⟩ := Tail.spec rs (i + 1) r.st (ht.2 h2) j x h
      have e : x.1 - i = (x.1 - (i + 1)) + 1 := by omega
      have hlt : x.1 - (i + 1) < rs.length := by
        rcases Nat.lt_or_ge (x.1 - (i + 1)) rs.length with h' | h'
        · exact h'
        · simp [List.getElem?_eq_none h'] at h4
      refine ⟨by omega, r', by rw [e]; simpa using h4, h5, ?_, ?_⟩
      · rw [e, stAt_cons _ _ _ _ (by omega)]; exact h6
      · exact h7

theorem segs_mem : ∀ (rs : List Rec) (i : Nat) (cur : St) (k : Nat) (r : Rec), rs[k]? = some r → r.c = 2 → ∃ (j : Nat) (x : Nat × St), (segs rs i cur)[j]? = some x ∧ x.1 = i + k
  | [], _, _, k, r, h, _ => by simp at h
  | r0 :: rs, i, cur, k, r, h, hc => by
    unfold segs
    cases k with
    | zero =>
      simp at h
      subst h
      rw [hc]
      exact ⟨0, (i, cur), rfl, rfl⟩
    | succ k =>
      obtain ⟨j, x, h1, h2⟩ := segs_mem rs (i + 1) r0.st k r (by simpa using h) hc
      cases hb : Nat.beq r0.c 2 with
      | true => exact ⟨j + 1, x, by simpa using h1, by omega⟩
      | false => exact ⟨j, x, h1, by omega⟩

def chkReaders (ms : T Nat) (w : Nat) : List Rec → Nat → Bool
  | [], _ => true
  | r :: rs, k => cond (Nat.beq r.c 1) (ancT ms w k) true && chkReaders ms w rs (k + 1)

theorem chkReaders_spec {ms : T Nat} {w : Nat} : ∀ (rs : List Rec) (i : Nat), chkReaders ms w rs i = true → ∀ (k : Nat) (r : Rec), rs[k]? = some r → r.c = 1 → ancT ms w (i + k) = true
  | [], _, _, k, r, h, _ => by simp at h
  | r0 :: rs, i, h, k, r, hk, hc => by
    unfold chkReaders at h
    rw [Bool.and_eq_true] at h
    cases k with
    | zero =>
      simp at hk
      subst hk
      have h1 := h.1
      rw [hc] at h1
      exact h1
    | succ k =>
      have := chkReaders_spec rs (i + 1) h.2 k r (by simpa using hk) hc
      rw [show i + 1 + k = i + (k + 1) by omega] at this
      exact this

def chkChain (ms : T Nat) : List Nat → Bool
  | [] => true
  | w :: W => W.all (fun w' => ancT ms w' w) && chkChain ms W

theorem chkChain_spec {ms : T Nat} : ∀ (W : List Nat), chkChain ms W = true → ∀ (j j' i i' : Nat), W[j]? = some i → W[j']? = some i' → j < j' → ancT ms i' i = true
  | [], _, j, _, i, _, h, _, _ => by simp at h
  | w :: W, h, j, j', i, i', hj, hj', hlt => by
    unfold chkChain at h
    rw [Bool.and_eq_true] at h
    cases j' with
    | zero => omega
    | succ j' =>
      cases j with
      | zero =>
        simp at hj
        subst hj
        exact List.all_eq_true.1 h.1 i' (List.mem_of_getElem? (by simpa using hj'))
      | succ j => exact chkChain_spec W h.2 j j' i i' (by simpa using hj) (by simpa using hj') (by omega)

def putAll : List Oper → List Rec → T Value → T Value
  | o :: os, r :: rs, t => putAll os rs (match o.dst with | some d => t.set deep d (some r.v) | none => t)
  | _, _, t => t

theorem putAll_spec : ∀ (l : List Oper) (rs : List Rec) (t : T Value) (x : Nat) (u : Value), (∀ o ∈ l, ∀ d, o.dst = some d → ok d = true) → (putAll l rs t).get x = some u →
    (∃ (j : Nat) (o : Oper) (r : Rec), l[j]? = some o ∧ rs[j]? = some r ∧ o.dst = some x ∧ u = r.v) ∨ ((∀ (j : Nat) (o : Oper), l[j]? = some o → j < rs.length → o.dst ≠ some x) ∧ t.get x = some u)
  | [], _, _, _, _, _, h => .inr ⟨fun j o ho => by simp at ho, h⟩
  | _ :: _, [], _, _, _, _, h => .inr ⟨fun j o _ hj => by simp at hj, h⟩
  | o :: l, r :: rs, t, x, u, hok, h => by
    unfold putAll at h
    rcases putAll_spec l rs _ x u (fun o ho => hok o (by simp [ho])) h with ⟨j, o', r', h1, h2, h3, h4⟩ | ⟨h1, h2⟩
    · exact .inl ⟨j + 1, o', r', by simpa using h1, by simpa using h2, h3, h4⟩
    · by_cases hd : o.dst = some x
      · rw [hd] at h2
        simp only at h2
        rw [T.get_set _ _ _ _ _ (ok_lt (hok o (by simp) x hd)), if_pos rfl] at h2
        cases h2
        exact .inl ⟨0, o, r, rfl, rfl, hd, rfl⟩
      · refine .inr ⟨fun j o' ho' hj => ?_, ?_⟩
        · cases j with
          | zero => simp at ho'; subst ho'; exact hd
          | succ j => exact h1 j o' (by simpa using ho') (by simpa using hj)
        · split at h2
          · rename_i d hd'
            have hne : x ≠ d := fun e => hd (by rw [e]; exact hd')
            rw [T.get_set _ _ _ _ _ (ok_lt (hok o (by simp) d hd')), if_neg hne] at h2
            exact h2
          · exact h2

/-- A region that draws its order. -/
def evDraw (E : Env) (call : Nat → FuncId → List Value → St → Option (AE × St)) (fl : Nat) (ops : Array Oper) (A : AA) (s : St) : Option (AX × AA × St) :=
  let l := ops.toList
  let ms := masksT l 0 .e
  let D := dstT l 0 .e
  cond (chkMasks ms l 0 && chkDst A.n D l 0 && Nat.ble l.length 1000000)
    (match mkRecs E call fl ops A s ms D l 0 .e s false with
     | some rs =>
       let sg := segs rs 0 s
       let W := sg.map (·.1)
       cond (W.all (fun w => chkReaders ms w rs 0) && chkChain ms W) (some (.normal, { A with ts := putAll l rs A.ts }, lastSt s rs)) none
     | none => none)
    none

end Go.Ev
