/- A checked interpreter for closed calls, part 23: regions that draw their order. -/
import Derived.Test.YthdjebomeibngaaGreatDoorEvV
namespace Go.Ev
open Go Go.MapKept

theorem head_state : ∀ (rs : List Rec) (i : Nat) (cur : St), ∃ i0, i0 ≤ rs.length ∧ nth (segs rs i cur) (lastSt cur rs) 0 = stAt cur rs i0 ∧ (∀ k r, k < i0 → rs[k]? = some r → r.c ≠ 2) ∧ (i0 = rs.length ∨ ∃ r, rs[i0]? = some r ∧ r.c = 2)
  | [], _, _ => ⟨0, Nat.le_refl _, rfl, fun _ _ h => by omega, .inl rfl⟩
  | r :: rs, i, cur => by
    unfold segs
    cases hc : Nat.beq r.c 2 with
    | true => exact ⟨0, Nat.zero_le _, rfl, fun _ _ h => by omega, .inr ⟨r, rfl, Nat.eq_of_beq_eq_true hc⟩⟩
    | false =>
      obtain ⟨i0, h1, h2, h3, h4⟩ := head_state rs (i + 1) r.st
      refine ⟨i0 + 1, by simpa using h1, ?_, fun k r' hk hr => ?_, ?_⟩
      · rw [stAt_cons _ _ _ _ h1]; exact h2
      · cases k with
        | zero => simp at hr; subst hr; exact Nat.ne_of_beq_eq_false hc
        | succ k => exact h3 k r' (by omega) (by simpa using hr)
      · rcases h4 with h4 | ⟨r', h4, h5⟩
        · exact .inl (by simp [h4])
        · exact .inr ⟨r', by simpa using h4, h5⟩

section
variable {E : Env} {call : Nat → FuncId → List Value → St → Option (AE × St)} {fl : Nat} {ops : Array Oper} {A : AA} {s : St} {ms D : T Nat} {rs : List Rec}

theorem frozen_from (hR : RecsOK E call fl ops A s ms D rs) : ∀ (n i : Nat), i + n = rs.length → anyW (rs.take i) = true → Frozen (stAt s rs i) (rs.drop i)
  | 0, i, h, _ => by rw [List.drop_eq_nil_of_le (by omega)]; trivial
  | n + 1, i, h, hw => by
    have hlt : i < ops.size := by rw [← hR.len]; omega
    obtain ⟨r, prev, h1, _, _, hr⟩ := hR.rec_ i _ (Array.getElem?_eq_getElem hlt)
    have hlt' : i < rs.length := by omega
    have e : rs[i] = r := by rw [List.getElem?_eq_getElem hlt'] at h1; exact Option.some.inj h1
    rw [List.drop_eq_getElem_cons hlt', e]
    have est : stAt s rs (i + 1) = r.st := by simp [stAt, h1]
    refine ⟨fun hc => ?_, ?_⟩
    · cases hr with
      | off _ _ _ _ hs => exact hs
      | pure _ _ _ hs _ _ _ => exact hs
      | write _ hc' _ _ => exact absurd hc' hc
      | read _ _ hw' _ _ _ _ _ _ => rw [hw] at hw'; cases hw'
    · rw [← est]
      refine frozen_from hR n (i + 1) (by omega) ?_
      obtain ⟨r', hr', hc⟩ := List.any_eq_true.1 hw
      obtain ⟨k, hk⟩ := List.getElem?_of_mem hr'
      rw [List.getElem?_take] at hk
      split at hk
      · exact List.any_eq_true.2 ⟨r', List.mem_of_getElem? (i := k) (by rw [List.getElem?_take, if_pos (by omega)]; exact hk), hc⟩
      · cases hk

theorem tail_from (hR : RecsOK E call fl ops A s ms D rs) : ∀ (n i : Nat), i + n = rs.length → anyW (rs.take i) = false → Tail (stAt s rs i) (rs.drop i)
  | 0, i, h, _ => by rw [List.drop_eq_nil_of_le (by omega)]; trivial
  | n + 1, i, h, hw => by
    have hlt : i < ops.size := by rw [← hR.len]; omega
    obtain ⟨r, prev, h1, _, _, hr⟩ := hR.rec_ i _ (Array.getElem?_eq_getElem hlt)
    have hlt' : i < rs.length := by omega
    have e : rs[i] = r := by rw [List.getElem?_eq_getElem hlt'] at h1; exact Option.some.inj h1
    rw [List.drop_eq_getElem_cons hlt', e]
    have est : stAt s rs (i + 1) = r.st := by simp [stAt, h1]
    refine ⟨fun hc => ?_, fun hc => ?_⟩
    · rw [← est]
      exact frozen_from hR n (i + 1) (by omega) (List.any_eq_true.2 ⟨r, List.mem_of_getElem? (i := i) (by rw [List.getElem?_take, if_pos (by omega)]; exact h1), by rw [hc]; rfl⟩)
    · rw [← est]
      refine tail_from hR n (i + 1) (by omega) (anyW_of fun k r' hk hr' => ?_)
      by_cases ek : k = i
      · subst ek
        rw [h1] at hr'
        cases hr'
        exact hc
      · exact anyW_false hw k r' (by omega) hr'

/-- The plan. -/
def thePlan (s : St) (ms D : T Nat) (rs : List Rec) : Plan := planOf ms D (fun k => rs[k]?) ((segs rs 0 s).map (·.1)) (nth (segs rs 0 s) (lastSt s rs))

theorem plan_mono (hup : ∀ fi, CallUp (call fi)) (hR : RecsOK E call fl ops A s ms D rs) (j : Nat) : ((thePlan s ms D rs).S j).nx ≤ ((thePlan s ms D rs).S (j + 1)).nx := by
  have ht : Tail s rs := by have := tail_from hR rs.length 0 (by omega) rfl; simpa [stAt] using this
  show (nth (segs rs 0 s) (lastSt s rs) j).nx ≤ (nth (segs rs 0 s) (lastSt s rs) (j + 1)).nx
  cases hj : (segs rs 0 s)[j]? with
  | none =>
    have : (segs rs 0 s)[j + 1]? = none := by
      rw [List.getElem?_eq_none_iff] at hj ⊢; omega
    simp [nth, hj, this]
  | some x =>
    obtain ⟨_, r, h1, h2, h3, h4⟩ := Tail.spec rs 0 s ht j x hj
    rw [Nat.sub_zero] at h1 h3
    have hlt : x.1 < ops.size := by
      rw [← hR.len]
      rcases Nat.lt_or_ge x.1 rs.length with h | h
      · exact h
      · rw [List.getElem?_eq_none h] at h1; cases h1
    have := up_step hup hR hlt
    have e : stAt s rs (x.1 + 1) = r.st := by simp [stAt, h1]
    rw [h4]
    simp only [nth, hj, h3]
    rw [e] at this
    exact this

theorem plan_ok (hup : ∀ fi, CallUp (call fi)) (hfit : Fit s) (hfs : fl ≤ s.nx) (hm : chkMasks ms ops.toList 0 = true) (hd : chkDst A.n (dstT ops.toList 0 .e) ops.toList 0 = true) (hR : RecsOK E call fl ops A s ms (dstT ops.toList 0 .e) rs)
    (hW : ((segs rs 0 s).map (·.1)).all (fun w => chkReaders ms w rs 0) = true) (hC : chkChain ms ((segs rs 0 s).map (·.1)) = true) : (thePlan s ms (dstT ops.toList 0 .e) rs).OK E call fl ops A s := by
  have ht : Tail s rs := by have := tail_from hR rs.length 0 (by omega) rfl; simpa [stAt] using this
  obtain ⟨i0, hi0, hS0, hpre, hat0⟩ := head_state rs 0 s
  have hS0' : (thePlan s ms (dstT ops.toList 0 .e) rs).S 0 = stAt s rs i0 := hS0
  have hi0' : i0 ≤ ops.size := by rw [← hR.len]; exact hi0
  have hw0 : anyW (rs.take i0) = false := anyW_of hpre
  have hmem : ∀ {i : Nat} {o : Oper}, ops[i]? = some o → ops.toList[i]? = some o := fun h => by simpa using h
  have hsz : ∀ {i : Nat} {o : Oper}, ops[i]? = some o → i < ops.size := fun {i o} h => by
    rcases Nat.lt_or_ge i ops.size with h' | h'
    · exact h'
    · rw [Array.getElem?_eq_none h'] at h; cases h
  have hokd : ∀ o ∈ ops.toList, ∀ d, o.dst = some d → ok d = true := fun o ho d hdd => by
    obtain ⟨j, hj⟩ := List.getElem?_of_mem ho
    exact (chkDst_spec _ 0 hd j o d hj hdd).2.2
  have hcong : ∀ {i : Nat} {prev : T Rec}, i < ops.size → (∀ k, k < i → prev.get k = rs[k]?) → ∀ k, ancT ms i k = true → prev.get k = (fun k => rs[k]?) k := fun {i prev} hi hp k hk => hp k (anc_lt hm i hi k hk).1
  -- readers lie ahead of all writers
  have hread : ∀ {k : Nat} {r : Rec}, rs[k]? = some r → r.c = 1 → k < i0 := fun {k r} hk hc => by
    have hlt : k < ops.size := by
      rw [← hR.len]
      rcases Nat.lt_or_ge k rs.length with h | h
      · exact h
      · rw [List.getElem?_eq_none h] at hk; cases hk
    obtain ⟨r', prev, h1, _, _, hr⟩ := hR.rec_ k _ (Array.getElem?_eq_getElem hlt)
    rw [hk] at h1
    cases h1
    cases hr with
    | off _ hc' _ _ _ => rw [hc] at hc'; cases hc'
    | pure _ hc' _ _ _ _ _ => rw [hc] at hc'; cases hc'
    | write _ hc' _ _ => rw [hc] at hc'; cases hc'
    | read _ _ hw _ _ _ _ _ _ =>
      rcases hat0 with h | ⟨r0, h, h2⟩
      · rw [h, hR.len]; exact hlt
      · rcases Nat.lt_trichotomy k i0 with h' | h' | h'
        · exact h'
        · subst h'
          rw [hk] at h
          cases h
          rw [hc] at h2; cases h2
        · exact absurd h2 (anyW_false hw i0 r0 h' h)
  have clsr : ∀ {k : Nat} {c : Nat}, (thePlan s ms (dstT ops.toList 0 .e) rs).cls k = c → c ≠ 0 → ∃ r, rs[k]? = some r ∧ r.c = c := fun {k c} h hc => by
    have h' : (match rs[k]? with | some r => r.c | none => 0) = c := h
    cases hk : rs[k]? with
    | none => rw [hk] at h'; exact absurd h'.symm hc
    | some r => rw [hk] at h'; exact ⟨r, rfl, h'⟩
  -- where the blocks lie that a reader has made
  have hrange : ∀ {k : Nat} {r : Rec}, rs[k]? = some r → r.c = 1 → r.lo = (stAt s rs k).nx ∧ r.hi = (stAt s rs (k + 1)).nx ∧ ∀ q ∈ r.d, q.1 < r.hi := fun {k r} hk hc => by
    have hlt : k < ops.size := by have := hread hk hc; omega
    obtain ⟨r', prev, h1, _, _, hr⟩ := hR.rec_ k _ (Array.getElem?_eq_getElem hlt)
    rw [hk] at h1
    cases h1
    have e : stAt s rs (k + 1) = r.st := by simp [stAt, hk]
    cases hr with
    | off _ hc' _ _ _ => rw [hc] at hc'; cases hc'
    | pure _ hc' _ _ _ _ _ => rw [hc] at hc'; cases hc'
    | write _ hc' _ _ => rw [hc] at hc'; cases hc'
    | read _ _ _ s1 _ hlo hhi hs hdd =>
      refine ⟨hlo, ?_, fun q hq => ?_⟩
      · rw [e, hs, hhi]
      · rw [hhi]; exact (hdd q hq).2.2.1
  constructor
  · -- edge
    intro i o ho e he hb
    obtain ⟨⟨m, hmg, hmm⟩, hbe⟩ := chkMasks_spec _ 0 hm i o (hmem ho)
    rw [Nat.zero_add] at hmg hbe
    rw [bindA_eq] at hb
    have key : ∀ k, (k = e.on ∨ ancT ms e.on k = true) → ancT ms i k = true := fun k hk => by
      unfold ancT
      rw [hmg, Option.getD_some, tb_eq, hmm]
      exact (maskT_bit ms _ k).2 ⟨e, he, hb, hk⟩
    exact ⟨backEdges_spec hbe e he hb, key _ (.inl rfl), fun k hk => key k (.inr hk)⟩
  · -- anc
    intro i o k ho hk
    obtain ⟨_, e, he, hb, h⟩ := anc_lt hm i (hsz ho) k hk
    have hg : ops.getD i default = o := by simp [Array.getD_eq_getD_getElem?, ho]
    rw [hg] at he
    exact ⟨e, he, by rw [bindA_eq]; exact hb, h⟩
  · -- own
    intro i o t ho hdt
    obtain ⟨h1, h2, _⟩ := chkDst_spec _ 0 hd i o t (hmem ho) hdt
    rw [Nat.zero_add] at h1
    exact ⟨h1, h2⟩
  · -- own'
    intro t k hk
    rcases dstT_spec _ 0 .e t k hokd hk with h | ⟨_, o, h1, h2⟩
    · simp [T.get] at h
    · rw [Nat.sub_zero] at h1
      exact ⟨o, by simpa using h1, h2⟩
  · -- gd
    intro i o ho
    obtain ⟨r, prev, h1, h2, h3, _⟩ := hR.rec_ i o ho
    have := plan_guard_congr (W' := (segs rs 0 s).map (·.1)) (S' := nth (segs rs 0 s) (lastSt s rs)) (D := dstT ops.toList 0 .e) (hcong (hsz ho) h2) (W := []) (S := fun _ => s) A.ts ops o
    show (planOf ms (dstT ops.toList 0 .e) (fun k => rs[k]?) _ _).guard A.ts ops i o = _
    rw [← this, h3]
    show some r.g = some (match rs[i]? with | some r => r.g | none => false)
    rw [h1]
  · -- off
    intro i o ho hg
    obtain ⟨r, prev, h1, _, _, hr⟩ := hR.rec_ i o ho
    have hg' : (match rs[i]? with | some r => r.g | none => false) = false := hg
    rw [h1] at hg'
    replace hg' : r.g = false := hg'
    show (match rs[i]? with | some r => r.v | none => undef) = undef ∧ (match rs[i]? with | some r => r.c | none => 0) = 0
    rw [h1]
    cases hr with
    | off _ hc hv _ _ => exact ⟨hv, hc⟩
    | pure hg2 _ _ _ _ _ _ => rw [hg2] at hg'; cases hg'
    | write hg2 _ _ _ => rw [hg2] at hg'; cases hg'
    | read hg2 _ _ _ _ _ _ _ _ => rw [hg2] at hg'; cases hg'
  · -- pure
    intro i o ho hg hc
    obtain ⟨r, prev, h1, h2, _, hr⟩ := hR.rec_ i o ho
    have hg' : (match rs[i]? with | some r => r.g | none => false) = true := hg
    have hc' : (match rs[i]? with | some r => r.c | none => 0) = 0 := hc
    rw [h1] at hg' hc'
    replace hg' : r.g = true := hg'
    replace hc' : r.c = 0 := hc'
    have hv : (thePlan s ms (dstT ops.toList 0 .e) rs).v i = r.v := by
      show (match rs[i]? with | some r => r.v | none => undef) = r.v
      rw [h1]
    cases hr with
    | off hg2 _ _ _ _ => rw [hg2] at hg'; cases hg'
    | pure _ _ _ _ s1 hval hn =>
      refine ⟨s1, ?_, hn⟩
      rw [hv, ← hval]
      congr 1
      funext x
      exact (plan_ev_congr (hcong (hsz ho) h2) _ _ _ _).symm
    | write _ hc2 _ _ => rw [hc2] at hc'; cases hc'
    | read _ hc2 _ _ _ _ _ _ _ => rw [hc2] at hc'; cases hc'
  · -- read
    intro i o ho hg hc
    obtain ⟨r, prev, h1, h2, _, hr⟩ := hR.rec_ i o ho
    have hc' : (match rs[i]? with | some r => r.c | none => 0) = 1 := hc
    rw [h1] at hc'
    replace hc' : r.c = 1 := hc'
    have hv : (thePlan s ms (dstT ops.toList 0 .e) rs).v i = r.v := by
      show (match rs[i]? with | some r => r.v | none => undef) = r.v
      rw [h1]
    have hlo' : (thePlan s ms (dstT ops.toList 0 .e) rs).lo i = r.lo := by
      show (match rs[i]? with | some r => r.lo | none => 0) = r.lo
      rw [h1]
    have hhi' : (thePlan s ms (dstT ops.toList 0 .e) rs).hi i = r.hi := by
      show (match rs[i]? with | some r => r.hi | none => 0) = r.hi
      rw [h1]
    have hd' : (thePlan s ms (dstT ops.toList 0 .e) rs).d i = r.d := by
      show (match rs[i]? with | some r => r.d | none => []) = r.d
      rw [h1]
    have hlt := hread h1 hc'
    obtain ⟨q1, q2, q3⟩ := hrange h1 hc'
    rw [hlo', hhi', hd', hv, hS0']
    cases hr with
    | off _ hc2 _ _ _ => rw [hc2] at hc'; cases hc'
    | pure _ hc2 _ _ _ _ _ => rw [hc2] at hc'; cases hc'
    | write _ hc2 _ _ => rw [hc2] at hc'; cases hc'
    | read _ _ _ s1 hval hlo hhi hs hdd =>
      have u1 := up_all hup hR (Nat.zero_le i) (by omega)
      have u0 : (stAt s rs 0).nx = s.nx := rfl
      have u2 := up_step hup hR (hsz ho)
      have u3 := up_all hup hR (show i + 1 ≤ i0 by omega) hi0'
      have hok : ∀ k r', k < i → prev.get k = some r' → ∀ q ∈ r'.d, ok q.1 = true := fun k r' hk hr' q hq => by
        rw [h2 k hk] at hr'
        exact (d_ok hR hr' q hq).1
      have hget := heapAt_get (prev := prev) (ms := ms) (i := i) (base := s.h) i hok
      refine ⟨by omega, by omega, by omega, heapAt prev ms i s.h i, s1, ?_, hhi.symm, fun id x hx => ?_, fun id hid => ?_, fun q hq => ⟨(hdd q hq).1, by rw [hlo]; exact (hdd q hq).2.1⟩⟩
      · rw [hlo, ← hval]
        congr 1
        funext x
        exact (plan_ev_congr (hcong (hsz ho) h2) _ _ _ _).symm
      · rcases hget id x hx with h | ⟨k, r', k1, k2, k3, k4, k5⟩
        · exact .inl h
        · rw [h2 k k1] at k3
          refine .inr ⟨k, k2, ?_, ?_⟩
          · show (match rs[k]? with | some r => r.c | none => 0) = 1
            rw [k3]; exact k4
          · show (id, x) ∈ (match rs[k]? with | some r => r.d | none => [])
            rw [k3]; exact k5
      · cases hx : (heapAt prev ms i s.h i).get id with
        | none => rfl
        | some x =>
          exfalso
          rcases hget id x hx with h | ⟨k, r', k1, k2, k3, k4, k5⟩
          · rw [hfit id (by omega)] at h; cases h
          · rw [h2 k k1] at k3
            obtain ⟨t1, t2, t3⟩ := hrange k3 k4
            have := t3 _ k5
            have u4 := up_all hup hR (show k + 1 ≤ i by omega) (by omega)
            have : id < r'.hi := this
            omega
  · -- apart
    intro i k hi hk hne
    obtain ⟨r, h1, h2⟩ := clsr hi (by decide)
    obtain ⟨r', h3, h4⟩ := clsr hk (by decide)
    obtain ⟨a1, a2, _⟩ := hrange h1 h2
    obtain ⟨b1, b2, _⟩ := hrange h3 h4
    have e1 : (thePlan s ms (dstT ops.toList 0 .e) rs).lo i = r.lo := by show (match rs[i]? with | some r => r.lo | none => 0) = r.lo; rw [h1]
    have e2 : (thePlan s ms (dstT ops.toList 0 .e) rs).hi i = r.hi := by show (match rs[i]? with | some r => r.hi | none => 0) = r.hi; rw [h1]
    have e3 : (thePlan s ms (dstT ops.toList 0 .e) rs).lo k = r'.lo := by show (match rs[k]? with | some r => r.lo | none => 0) = r'.lo; rw [h3]
    have e4 : (thePlan s ms (dstT ops.toList 0 .e) rs).hi k = r'.hi := by show (match rs[k]? with | some r => r.hi | none => 0) = r'.hi; rw [h3]
    rw [e1, e2, e3, e4, a1, a2, b1, b2]
    have l1 := hread h1 h2
    have l2 := hread h3 h4
    rcases Nat.lt_or_gt_of_ne hne with h | h
    · exact .inl (up_all hup hR (by omega) (by omega))
    · exact .inr (up_all hup hR (by omega) (by omega))
  · -- write
    intro j i hj
    have hj' : ((segs rs 0 s).map (·.1))[j]? = some i := hj
    rw [List.getElem?_map, Option.map_eq_some_iff] at hj'
    obtain ⟨x, hx, hxi⟩ := hj'
    obtain ⟨_, r, h1, h2, h3, h4⟩ := Tail.spec rs 0 s ht j x hx
    rw [Nat.sub_zero] at h1 h3
    rw [hxi] at h1 h3
    have hSj : (thePlan s ms (dstT ops.toList 0 .e) rs).S j = stAt s rs i := by
      show nth (segs rs 0 s) (lastSt s rs) j = _
      simp only [nth, hx]; exact h3
    have hSj1 : (thePlan s ms (dstT ops.toList 0 .e) rs).S (j + 1) = r.st := h4
    have hlt : i < ops.size := by
      rw [← hR.len]
      rcases Nat.lt_or_ge i rs.length with h | h
      · exact h
      · rw [List.getElem?_eq_none h] at h1; cases h1
    obtain ⟨r', prev, g1, g2, _, hr⟩ := hR.rec_ i _ (Array.getElem?_eq_getElem hlt)
    rw [h1] at g1
    cases g1
    have hcl : (thePlan s ms (dstT ops.toList 0 .e) rs).cls i = 2 := by show (match rs[i]? with | some r => r.c | none => 0) = 2; rw [h1]; exact h2
    have hgd : (thePlan s ms (dstT ops.toList 0 .e) rs).gd i = r.g := by show (match rs[i]? with | some r => r.g | none => false) = r.g; rw [h1]
    have hv : (thePlan s ms (dstT ops.toList 0 .e) rs).v i = r.v := by show (match rs[i]? with | some r => r.v | none => undef) = r.v; rw [h1]
    cases hr with
    | off _ hc2 _ _ _ => rw [h2] at hc2; cases hc2
    | pure _ hc2 _ _ _ _ _ => rw [h2] at hc2; cases hc2
    | read _ hc2 _ _ _ _ _ _ _ => rw [h2] at hc2; cases hc2
    | write hg _ _ hval =>
      refine ⟨hcl, by rw [hgd]; exact hg, fun o ho => ?_⟩
      have : o = ops[i] := by rw [Array.getElem?_eq_getElem hlt] at ho; exact (Option.some.inj ho).symm
      subst this
      rw [hSj, hSj1, hv, ← hval]
      congr 1
      funext x
      exact (plan_ev_congr (hcong hlt g2) _ _ _ _).symm
  · -- two
    intro i o ho hg h0 h1
    obtain ⟨r, prev, g1, _, _, hr⟩ := hR.rec_ i o ho
    have e : (thePlan s ms (dstT ops.toList 0 .e) rs).cls i = r.c := by show (match rs[i]? with | some r => r.c | none => 0) = r.c; rw [g1]
    rw [e] at h0 h1
    have hc : r.c = 2 := by
      cases hr with
      | off _ hc _ _ _ => exact absurd hc h0
      | pure _ hc _ _ _ _ _ => exact absurd hc h0
      | write _ hc _ _ => exact hc
      | read _ hc _ _ _ _ _ _ _ => exact absurd hc h1
    obtain ⟨j, x, h3, h4⟩ := segs_mem rs 0 s i r g1 hc
    refine ⟨j, ?_⟩
    show ((segs rs 0 s).map (·.1))[j]? = some i
    rw [List.getElem?_map, h3]
    simp [h4]
  · -- first
    intro id x hx
    rw [hS0'] at hx
    rcases head_get hR i0 hi0' hw0 id x hx with h | ⟨k, r, k1, k2, k3, k4, k5⟩
    · exact .inl h
    · refine .inr ⟨k, by omega, ?_, ?_, ?_⟩
      · show (match rs[k]? with | some r => r.c | none => 0) = 1; rw [k2]; exact k3
      · show (match rs[k]? with | some r => r.g | none => false) = true; rw [k2]; exact k4
      · show (id, x) ∈ (match rs[k]? with | some r => r.d | none => []); rw [k2]; exact k5
  · -- firstNx
    rw [hS0']
    exact up_all hup hR (Nat.zero_le i0) hi0'
  · -- firstFit
    intro id hid
    rw [hS0'] at hid ⊢
    cases hx : (stAt s rs i0).h.get id with
    | none => rfl
    | some x =>
      exfalso
      have u1 := up_all hup hR (Nat.zero_le i0) hi0'
      have u0 : (stAt s rs 0).nx = s.nx := rfl
      rcases head_get hR i0 hi0' hw0 id x hx with h | ⟨k, r, k1, k2, k3, k4, k5⟩
      · rw [hfit id (by omega)] at h; cases h
      · obtain ⟨t1, t2, t3⟩ := hrange k2 k3
        have h5 := t3 _ k5
        have u4 := up_all hup hR (show k + 1 ≤ i0 by omega) hi0'
        have : id < r.hi := h5
        omega
  · -- firstLow
    intro i hi
    rw [hS0']
    exact head_low hR hup i0 hi0' hw0 i (by omega)
  · -- later
    intro j i k hj hk hkn
    have hj' : ((segs rs 0 s).map (·.1))[j]? = some i := hj
    have := List.all_eq_true.1 hW i (List.mem_of_getElem? hj')
    obtain ⟨r, h1, h2⟩ := clsr hk (by decide)
    have := chkReaders_spec rs 0 this k r h1 h2
    rw [Nat.zero_add] at this
    exact this
  · -- chain
    intro j j' i i' hj hj' hlt
    exact chkChain_spec _ hC j j' i i' hj hj' hlt
  · -- inside
    intro j i hj
    have hj' : ((segs rs 0 s).map (·.1))[j]? = some i := hj
    rw [List.getElem?_map, Option.map_eq_some_iff] at hj'
    obtain ⟨x, hx, hxi⟩ := hj'
    obtain ⟨_, r, h1, _⟩ := Tail.spec rs 0 s ht j x hx
    rw [Nat.sub_zero, hxi] at h1
    rw [← hR.len]
    rcases Nat.lt_or_ge i rs.length with h | h
    · exact h
    · rw [List.getElem?_eq_none h] at h1; cases h1

end
end Go.Ev
