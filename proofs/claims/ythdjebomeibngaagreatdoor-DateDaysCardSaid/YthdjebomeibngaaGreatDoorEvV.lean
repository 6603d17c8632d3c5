/- A checked interpreter for closed calls, part 22: what is made is a plan. -/
import Derived.Test.YthdjebomeibngaaGreatDoorEvU
namespace Go.Ev
open Go Go.MapKept

section
variable {E : Env} {call : Nat → FuncId → List Value → St → Option (AE × St)} {fl : Nat} {ops : Array Oper} {A : AA} {s : St} {ms D : T Nat}

/-- What a record says. -/
inductive RecIs (E : Env) (call : Nat → FuncId → List Value → St → Option (AE × St)) (fl : Nat) (A : AA) (s : St) (ms : T Nat) (p : Plan) (prev : T Rec) (i : Nat) (o : Oper) (cur : St) (wr : Bool) (r : Rec) : Prop
  | off (hg : r.g = false) (hc : r.c = 0) (hv : r.v = undef) (hd : r.d = []) (hs : r.st = cur)
  | pure (hg : r.g = true) (hc : r.c = 0) (hd : r.d = []) (hs : r.st = cur) (s1 : St) (hval : valA E (call s.nx) s.nx o.op (p.ev E.G A.ts i .e) ⟨.e, s.nx⟩ = some (r.v, s1)) (hn : s1.nx = s.nx)
  | write (hg : r.g = true) (hc : r.c = 2) (hd : r.d = []) (hval : valA E (call fl) fl o.op (p.ev E.G A.ts i cur.h) cur = some (r.v, r.st))
  | read (hg : r.g = true) (hc : r.c = 1) (hw : wr = false) (s1 : St) (hval : valA E (call cur.nx) cur.nx o.op (p.ev E.G A.ts i (heapAt prev ms i s.h i)) ⟨heapAt prev ms i s.h i, cur.nx⟩ = some (r.v, s1))
      (hlo : r.lo = cur.nx) (hhi : r.hi = s1.nx) (hs : r.st = ⟨addAll cur.h r.d, s1.nx⟩) (hd : ∀ q ∈ r.d, s1.h.get q.1 = some q.2 ∧ cur.nx ≤ q.1 ∧ q.1 < s1.nx ∧ ok q.1 = true)

theorem readRec_is {p : Plan} {prev : T Rec} {i : Nat} {o : Oper} {cur : St} {r : Rec} (h : readRec E call p A s.h ms prev i o cur = some r) : RecIs E call fl A s ms p prev i o cur false r := by
  unfold readRec at h
  split at h
  · rename_i v s1 hv
    simp only [Option.some.injEq] at h
    subst h
    refine .read rfl rfl rfl s1 hv rfl rfl rfl fun q hq => ?_
    cases hp : plainV v with
    | true => simp [hp] at hq
    | false =>
      simp only [hp, cond_false] at hq
      obtain ⟨h1, h2, h3, h4⟩ := blocksFrom_spec _ q hq
      exact ⟨h1, h2, by omega, h4⟩
  · cases h

theorem stepRec_is {prev : T Rec} {i : Nat} {o : Oper} {cur : St} {wr : Bool} {r : Rec} (h : stepRec E call fl ops A s ms D prev i o cur wr = some r) :
    (planOf ms D prev.get [] (fun _ => s)).guard A.ts ops i o = some r.g ∧ RecIs E call fl A s ms (planOf ms D prev.get [] (fun _ => s)) prev i o cur wr r := by
  have rd : ∀ {r}, cond wr none (readRec E call (planOf ms D prev.get [] (fun _ => s)) A s.h ms prev i o cur) = some r → r.g = true ∧ RecIs E call fl A s ms (planOf ms D prev.get [] (fun _ => s)) prev i o cur wr r := fun {r} hr => by
    cases hw : wr with
    | true => rw [hw] at hr; cases hr
    | false =>
      rw [hw] at hr
      have := readRec_is (fl := fl) (s := s) hr
      refine ⟨?_, this⟩
      unfold readRec at hr
      simp only [cond_false] at hr
      split at hr
      · simp only [Option.some.injEq] at hr; rw [← hr]
      · cases hr
  unfold stepRec at h
  simp only at h
  split at h
  · rename_i hg
    simp only [Option.some.injEq] at h
    subst h
    exact ⟨hg, .off rfl rfl rfl rfl rfl⟩
  · rename_i hg
    split at h
    · split at h
      · rename_i v st hv
        simp only [Option.some.injEq] at h
        subst h
        exact ⟨hg, .write rfl rfl rfl hv⟩
      · cases h
    · obtain ⟨h1, h2⟩ := rd h
      exact ⟨by rw [hg, h1], h2⟩
    · split at h
      · rename_i v s1 hv
        rcases cond_some h with ⟨hb, h⟩ | ⟨_, h⟩
        · simp only [Option.some.injEq] at h
          subst h
          exact ⟨hg, .pure rfl rfl rfl rfl s1 hv (Nat.eq_of_beq_eq_true hb)⟩
        · obtain ⟨h1, h2⟩ := rd h
          exact ⟨by rw [hg, h1], h2⟩
      · obtain ⟨h1, h2⟩ := rd h
        exact ⟨by rw [hg, h1], h2⟩
  · cases h

end

/-- All that is known of the records. -/
structure RecsOK (E : Env) (call : Nat → FuncId → List Value → St → Option (AE × St)) (fl : Nat) (ops : Array Oper) (A : AA) (s : St) (ms D : T Nat) (rs : List Rec) : Prop where
  len : rs.length = ops.size
  rec_ : ∀ (i : Nat) (o : Oper), ops[i]? = some o → ∃ r prev, rs[i]? = some r ∧ (∀ k, k < i → prev.get k = rs[k]?) ∧ (planOf ms D prev.get [] (fun _ => s)).guard A.ts ops i o = some r.g ∧
    RecIs E call fl A s ms (planOf ms D prev.get [] (fun _ => s)) prev i o (stAt s rs i) (anyW (rs.take i)) r

theorem recs_ok {E : Env} {call : Nat → FuncId → List Value → St → Option (AE × St)} {fl : Nat} {ops : Array Oper} {A : AA} {s : St} {ms D : T Nat} {rs : List Rec} (hn : ops.toList.length ≤ 1000000) (h : mkRecs E call fl ops A s ms D ops.toList 0 .e s false = some rs) :
    RecsOK E call fl ops A s ms D rs := by
  obtain ⟨h1, h2⟩ := mkRecs_spec ops.toList 0 .e s false rs (by omega) h
  refine ⟨by simpa using h1, fun i o ho => ?_⟩
  obtain ⟨r, prev, g1, g2, g3, _⟩ := h2 i o (by simpa using ho)
  rw [Nat.zero_add] at g2
  obtain ⟨k1, k2⟩ := stepRec_is g2
  rw [Bool.false_or] at k2
  exact ⟨r, prev, g1, fun k hk => by have := g3 k hk; rwa [Nat.zero_add] at this, k1, k2⟩

section
variable {E : Env} {call : Nat → FuncId → List Value → St → Option (AE × St)} {fl : Nat} {ops : Array Oper} {A : AA} {s : St} {ms D : T Nat} {rs : List Rec}

/-- Ancestors come before. -/
theorem anc_lt (hm : chkMasks ms ops.toList 0 = true) : ∀ (i : Nat), i < ops.size → ∀ k, ancT ms i k = true → k < i ∧ ∃ e ∈ (ops.getD i default).after.toList, bindA e.ground = true ∧ (k = e.on ∨ ancT ms e.on k = true) := by
  intro i
  induction i using Nat.strongRecOn with
  | _ i ih =>
    intro hi k hk
    have ho : ops.toList[i]? = some ops[i] := by simp [hi]
    obtain ⟨⟨m, hmg, hmm⟩, hbe⟩ := chkMasks_spec _ 0 hm i _ ho
    rw [Nat.zero_add] at hmg hbe
    have hg : ops.getD i default = ops[i] := by simp [Array.getD, hi]
    rw [hg]
    have hk' : (maskT ms ops[i].after.toList).testBit k = true := by
      unfold ancT at hk
      rw [hmg, Option.getD_some, tb_eq, hmm] at hk
      exact hk
    obtain ⟨e, he, hb, hke⟩ := (maskT_bit ms _ k).1 hk'
    have hlt := backEdges_spec hbe e he hb
    refine ⟨?_, e, he, hb, hke⟩
    rcases hke with rfl | hke
    · exact hlt
    · have := (ih e.on hlt (by omega) k hke).1
      omega

theorem up_step (hup : ∀ fi, CallUp (call fi)) (hR : RecsOK E call fl ops A s ms D rs) {i : Nat} (hi : i < ops.size) : (stAt s rs i).nx ≤ (stAt s rs (i + 1)).nx := by
  obtain ⟨r, prev, h1, _, _, hr⟩ := hR.rec_ i _ (Array.getElem?_eq_getElem hi)
  have e : stAt s rs (i + 1) = r.st := by simp [stAt, h1]
  rw [e]
  cases hr with
  | off _ _ _ _ hs => rw [hs]; exact Nat.le_refl _
  | pure _ _ _ hs _ _ _ => rw [hs]; exact Nat.le_refl _
  | write _ _ _ hval => exact valA_nx (hup fl) hval
  | read _ _ _ s1 hval _ _ hs _ =>
    have := valA_nx (hup _) hval
    rw [hs]; exact this

theorem up_all (hup : ∀ fi, CallUp (call fi)) (hR : RecsOK E call fl ops A s ms D rs) {i k : Nat} (h : i ≤ k) (hk : k ≤ ops.size) : (stAt s rs i).nx ≤ (stAt s rs k).nx := by
  induction k with
  | zero => have : i = 0 := by omega
            subst this; exact Nat.le_refl _
  | succ k ih =>
    by_cases e : i = k + 1
    · subst e; exact Nat.le_refl _
    · exact Nat.le_trans (ih (by omega) (by omega)) (up_step hup hR (by omega))

theorem anyW_false {rs : List Rec} {i : Nat} (h : anyW (rs.take i) = false) : ∀ k r, k < i → rs[k]? = some r → r.c ≠ 2 := fun k r hk hr hc => by
  have : r ∈ rs.take i := List.mem_of_getElem? (i := k) (by rw [List.getElem?_take, if_pos hk]; exact hr)
  have h2 : anyW (rs.take i) = true := List.any_eq_true.2 ⟨r, this, by rw [hc]; rfl⟩
  rw [h2] at h; cases h

theorem anyW_of {rs : List Rec} {i : Nat} (h : ∀ k r, k < i → rs[k]? = some r → r.c ≠ 2) : anyW (rs.take i) = false := by
  cases hw : anyW (rs.take i) with
  | false => rfl
  | true =>
    obtain ⟨r, hr, hc⟩ := List.any_eq_true.1 hw
    obtain ⟨k, hk⟩ := List.getElem?_of_mem hr
    rw [List.getElem?_take] at hk
    split at hk
    · exact absurd (Nat.eq_of_beq_eq_true hc) (h k r ‹_› hk)
    · cases hk

/-- Blocks of operations that read are new. -/
theorem d_ok (hR : RecsOK E call fl ops A s ms D rs) {k : Nat} {r : Rec} (hk : rs[k]? = some r) : ∀ q ∈ r.d, ok q.1 = true ∧ (stAt s rs k).nx ≤ q.1 ∧ r.c = 1 := fun q hq => by
  have hlt : k < ops.size := by
    rcases Nat.lt_or_ge k ops.size with h | h
    · exact h
    · rw [List.getElem?_eq_none (by rw [hR.len]; exact h)] at hk; cases hk
  obtain ⟨r', prev, h1, _, _, hr⟩ := hR.rec_ k _ (Array.getElem?_eq_getElem hlt)
  rw [hk] at h1
  cases h1
  cases hr with
  | off _ _ _ hd _ => rw [hd] at hq; cases hq
  | pure _ _ hd _ _ _ _ => rw [hd] at hq; cases hq
  | write _ _ hd _ => rw [hd] at hq; cases hq
  | read _ hc _ s1 _ _ _ _ hd =>
    obtain ⟨_, h2, _, h4⟩ := hd q hq
    exact ⟨h4, h2, hc⟩

/-- Ahead of all writers the state is the start's, with what has been made. -/
theorem head_get (hR : RecsOK E call fl ops A s ms D rs) : ∀ (i : Nat), i ≤ ops.size → anyW (rs.take i) = false → ∀ (id : Nat) (x : AObj), (stAt s rs i).h.get id = some x →
    s.h.get id = some x ∨ ∃ k r, k < i ∧ rs[k]? = some r ∧ r.c = 1 ∧ r.g = true ∧ (id, x) ∈ r.d
  | 0, _, _, _, _, h => .inl h
  | i + 1, hi, hw, id, x, h => by
    obtain ⟨r, prev, h1, _, _, hr⟩ := hR.rec_ i _ (Array.getElem?_eq_getElem (show i < ops.size by omega))
    have e : stAt s rs (i + 1) = r.st := by simp [stAt, h1]
    rw [e] at h
    have hw' : anyW (rs.take i) = false := anyW_of fun k r hk => anyW_false hw k r (by omega)
    have back : (stAt s rs i).h.get id = some x → s.h.get id = some x ∨ ∃ k r, k < i + 1 ∧ rs[k]? = some r ∧ r.c = 1 ∧ r.g = true ∧ (id, x) ∈ r.d := fun h => by
      rcases head_get hR i (by omega) hw' id x h with h | ⟨k, r, h1, h2⟩
      · exact .inl h
      · exact .inr ⟨k, r, by omega, h2⟩
    have hrr := hr
    cases hr with
    | off _ _ _ _ hs => rw [hs] at h; exact back h
    | pure _ _ _ hs _ _ _ => rw [hs] at h; exact back h
    | write _ hc _ _ => exact absurd hc (anyW_false hw i r (by omega) h1)
    | read hg hc _ s1 _ _ _ hs hd =>
      rw [hs] at h
      rcases addAll_get r.d id x (fun q hq => (d_ok hR h1 q hq).1) h with h2 | h2
      · exact .inr ⟨i, r, by omega, h1, hc, hg, h2⟩
      · exact back h2

theorem head_low (hR : RecsOK E call fl ops A s ms D rs) (hup : ∀ fi, CallUp (call fi)) : ∀ (i : Nat), i ≤ ops.size → anyW (rs.take i) = false → ∀ id, id < s.nx → (stAt s rs i).h.get id = s.h.get id
  | 0, _, _, _, _ => rfl
  | i + 1, hi, hw, id, hid => by
    obtain ⟨r, prev, h1, _, _, hr⟩ := hR.rec_ i _ (Array.getElem?_eq_getElem (show i < ops.size by omega))
    have e : stAt s rs (i + 1) = r.st := by simp [stAt, h1]
    have hw' : anyW (rs.take i) = false := anyW_of fun k r hk => anyW_false hw k r (by omega)
    have ih := head_low hR hup i (by omega) hw' id hid
    rw [e]
    cases hr with
    | off _ _ _ _ hs => rw [hs]; exact ih
    | pure _ _ _ hs _ _ _ => rw [hs]; exact ih
    | write _ hc _ _ => exact absurd hc (anyW_false hw i r (by omega) h1)
    | read hg hc _ s1 _ _ _ hs hd =>
      rw [hs]
      show (addAll (stAt s rs i).h r.d).get id = _
      rw [addAll_other r.d id fun q hq => ?_]
      · exact ih
      · obtain ⟨k1, k2, _⟩ := d_ok hR h1 q hq
        have := up_all hup hR (Nat.zero_le i) (by omega)
        have e0 : (stAt s rs 0).nx = s.nx := rfl
        exact ⟨k1, by omega⟩

end
end Go.Ev
