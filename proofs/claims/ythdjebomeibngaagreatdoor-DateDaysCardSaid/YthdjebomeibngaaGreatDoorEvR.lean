/- A checked interpreter for closed calls, part 18: a region that draws its order: every order leads to what the plan says. -/
import Derived.Test.YthdjebomeibngaaGreatDoorEvQ
namespace Go.Ev
open Go Go.MapKept

section
variable {P : Program} {E : Env} (hE : EnvOK P E) {fl : Nat} {call : Nat → FuncId → List Value → St → Option (AE × St)} {ops : Array Oper} {A : AA} {s : St} {p : Plan} {ρ₀ ρ : Ren} {w₀ w : World} {listed : Array Bool} {a : Act} {m : Nat}

theorem left_lt {i : Nat} (hr : i ∈ Region.ready .any ops listed) : left ops (listed.setIfInBounds i true) < left ops listed := by
  obtain ⟨o, ho, hin, hun, _⟩ := ready_spec hr
  have hl := getD_lt hun
  refine filter_lt _ (fun x hx => ?_) ⟨i, by simpa using hin, by simp [hun], by simp [getD_set hl]⟩
  rw [getD_set hl] at hx
  by_cases e : x = i
  · simp [e] at hx
  · rw [if_neg e] at hx; exact hx

/-- Where nothing is ready all is done. -/
theorem all_done (hp : p.OK E call fl ops A s) (hI : p.Inv E fl ops A s ρ₀ w₀ listed ρ a w m) (hr : Region.ready .any ops listed = []) : ∀ i, i < ops.size → listed.getD i false = true := by
  intro i
  induction i using Nat.strongRecOn with
  | _ i ih =>
    intro hi
    cases hl : listed.getD i false with
    | true => rfl
    | false =>
      have hl' : listed.getD i true = false := by
        have hs : i < listed.size := by rw [hI.sz]; exact hi
        simp [Array.getD, hs] at hl ⊢; exact hl
      have : i ∈ Region.ready .any ops listed := ready_of hi hl' fun e he hb => by
        have ho : ops[i]? = some ops[i] := Array.getElem?_eq_getElem hi
        obtain ⟨h1, _, _⟩ := hp.edge i _ ho e he hb
        exact ih e.on h1 (by omega)
      rw [hr] at this
      cases this

theorem done_ready (h : ∀ i, i < ops.size → listed.getD i false = true) : Region.ready .any ops listed = [] := by
  cases hr : Region.ready .any ops listed with
  | nil => rfl
  | cons i l =>
    have hi : i ∈ Region.ready .any ops listed := by rw [hr]; simp
    obtain ⟨o, _, hin, hun, _⟩ := ready_spec hi
    have := h i hin
    rw [getD_tf hun] at this
    cases this

/-- The slots behind a step. -/
theorem inv_slots (hp : p.OK E call fl ops A s) (hI : p.Inv E fl ops A s ρ₀ w₀ listed ρ a w m) {i : Nat} (hr : i ∈ Region.ready .any ops listed) {o : Oper} (ho : ops[i]? = some o) {ρ' : Ren} (hle : Le ρ ρ') {v' : Value} (hv : VR ρ' (p.v i) v') :
    (a.put o.dst v').tmps.size = A.n ∧
    (∀ t u, A.ts.get t = some u → (∀ k, p.own t = some k → (listed.setIfInBounds i true).getD k false = false) → ∃ u', (a.put o.dst v').tmps[t]? = some u' ∧ VR ρ' u u') ∧
    (∀ t k, p.own t = some k → (listed.setIfInBounds i true).getD k false = true → ∃ u', (a.put o.dst v').tmps[t]? = some u' ∧ VR ρ' (p.v k) u') ∧ DRs ρ' A.defers (a.put o.dst v').defers := by
  obtain ⟨_, _, hin, hun, _⟩ := ready_spec hr
  have hl := getD_lt hun
  have hput : ∀ t, (o.dst = some t → (a.put o.dst v').tmps[t]? = some v') ∧ (o.dst ≠ some t → (a.put o.dst v').tmps[t]? = a.tmps[t]?) := fun t => by
    rcases hd : o.dst with _ | d
    · exact ⟨(fun h => by cases h), fun _ => rfl⟩
    · have hlt := (hp.own i o d ho hd).2
      refine ⟨fun h => ?_, fun h => ?_⟩
      · have e : d = t := Option.some.inj h
        have : d < a.tmps.size := by rw [hI.tsz]; exact hlt
        subst e
        simp [Act.put, this]
      · have : d ≠ t := fun e => h (by rw [e])
        simp only [Act.put]
        rw [Array.getElem?_setIfInBounds_ne this]
  refine ⟨?_, ?_, ?_, ?_⟩
  · cases o.dst <;> simpa [Act.put] using hI.tsz
  · intro t u hu hno
    have hne : o.dst ≠ some t := fun e => by
      have := hno i (hp.own i o t ho e).1
      rw [getD_set hl, if_pos rfl] at this
      cases this
    rw [(hput t).2 hne]
    obtain ⟨u', h1, h2⟩ := hI.base t u hu fun k hk => by
      have h3 := hno k hk
      rw [getD_set hl] at h3
      by_cases e : k = i
      · rw [if_pos e] at h3; cases h3
      · rwa [if_neg e] at h3
    exact ⟨u', h1, h2.mono hle⟩
  · intro t k hk hd
    rw [getD_set hl] at hd
    by_cases e : k = i
    · subst e
      obtain ⟨o', ho', hd'⟩ := hp.own' t k hk
      rw [ho] at ho'
      cases ho'
      exact ⟨v', (hput t).1 hd', hv⟩
    · rw [if_neg e] at hd
      have hne : o.dst ≠ some t := fun e' => by
        have := (hp.own i o t ho e').1
        rw [hk] at this
        cases this
        exact e rfl
      rw [(hput t).2 hne]
      obtain ⟨u', h1, h2⟩ := hI.done t k hk hd
      exact ⟨u', h1, h2.mono hle⟩
  · have : (a.put o.dst v').defers = a.defers := by cases o.dst <;> rfl
    rw [this]
    exact hI.defers.mono hle

theorem inv_closed (hp : p.OK E call fl ops A s) (hI : p.Inv E fl ops A s ρ₀ w₀ listed ρ a w m) {i : Nat} (hr : i ∈ Region.ready .any ops listed) :
    ∀ j, (listed.setIfInBounds i true).getD j false = true → ∀ k, p.anc j k = true → (listed.setIfInBounds i true).getD k false = true := by
  obtain ⟨_, _, hin, hun, _⟩ := ready_spec hr
  have hl := getD_lt hun
  intro j hj k hk
  rw [getD_set hl] at hj ⊢
  by_cases ek : k = i
  · rw [if_pos ek]
  · rw [if_neg ek]
    by_cases ej : j = i
    · subst ej; exact anc_listed hp hI hr k hk
    · rw [if_neg ej] at hj; exact hI.closed j hj k hk

/-- A step that is no writer's. -/
theorem inv_read (hp : p.OK E call fl ops A s) (hI : p.Inv E fl ops A s ρ₀ w₀ listed ρ a w m) {i : Nat} (hr : i ∈ Region.ready .any ops listed) {o : Oper} (ho : ops[i]? = some o) {ρ' : Ren} {w' : World} {v' : Value} {h : T AObj} {n fi : Nat} {s' : St} {d : List (Nat × AObj)}
    (hrs : RS E.G ρ' s'.h w') (ht : Tr fi ρ ⟨h, n⟩ w ρ' s' w') (hno : ∀ i, fi ≤ i → h.get i = none) (hv : VR ρ' (p.v i) v') (hd : ∀ q ∈ d, s'.h.get q.1 = some q.2 ∧ fi ≤ q.1)
    (hcl : (p.cls i = 0 ∧ d = [] ∧ s'.nx = n) ∨ (p.cls i = 1 ∧ p.gd i = true ∧ d = p.d i ∧ p.lo i ≤ n ∧ s'.nx ≤ p.hi i ∧ m = 0)) :
    p.Inv E fl ops A s ρ₀ w₀ (listed.setIfInBounds i true) ρ' (a.put o.dst v') w' m := by
  obtain ⟨_, _, hin, hun, _⟩ := ready_spec hr
  have hl := getD_lt hun
  obtain ⟨g1, g2, g3, g4⟩ := inv_slots hp hI hr ho ht.le hv
  obtain ⟨k1, k2⟩ := step_read hI.heap hI.since hrs ht hno d hd
  have hsub : ∀ id x, p.has s (listed.setIfInBounds i true) m id x → p.has s listed m id x ∨ (id, x) ∈ d := fun id x hx => by
    unfold Plan.has at hx ⊢
    by_cases hm : m = 0
    · rw [if_pos hm] at hx ⊢
      rcases hx with hx | ⟨k, hk1, hk2, hk3⟩
      · exact .inl (.inl hx)
      · rw [getD_set hl] at hk1
        by_cases e : k = i
        · subst e
          rcases hcl with ⟨h0, _, _⟩ | ⟨_, _, hdd, _, _, _⟩
          · rw [h0] at hk2; cases hk2
          · right; rw [hdd]; exact hk3
        · rw [if_neg e] at hk1
          exact .inl (.inr ⟨k, hk1, hk2, hk3⟩)
    · rw [if_neg hm] at hx ⊢
      exact .inl hx
  refine ⟨by simpa using hI.sz, inv_closed hp hI hr, g1, g2, g3, g4, hI.mle, ?_, ?_, k1.weak hsub, k2.weak hsub, ?_, hI.low, hI.fit, hI.up⟩
  · intro j i' hj
    rw [getD_set hl]
    by_cases e : i' = i
    · subst e
      exfalso
      have := (hp.write j i' hj).1
      rcases hcl with ⟨h0, _⟩ | ⟨h0, _⟩ <;> rw [h0] at this <;> cases this
    · rw [if_neg e]; exact hI.wl j i' hj
  · intro hm k hk hc
    rw [getD_set hl]
    by_cases e : k = i
    · rw [if_pos e]
    · rw [if_neg e]; exact hI.readers hm k hk hc
  · intro id x hx
    rcases ht.dom id x hx with h1 | ⟨h1, h2⟩
    · rcases hI.dom id x h1 with h3 | ⟨k, hk, hc⟩ | h3
      · exact .inl h3
      · refine .inr (.inl ⟨k, ?_, hc⟩)
        rw [getD_set hl]
        by_cases e : k = i
        · rw [if_pos e]
        · rw [if_neg e]; exact hk
      · exact .inr (.inr h3)
    · rcases hcl with ⟨_, _, hn⟩ | ⟨hc, hgd, _, hlo, hhi, _⟩
      · have h1' : n ≤ id := h1
        omega
      · have h1' : n ≤ id := h1
        exact .inr (.inl ⟨i, by rw [getD_set hl, if_pos rfl], hc, hgd, hin, by omega, by omega⟩)

include hE in
/-- Every order leads to the plan's end. -/
theorem draw_steps (hcalls : ∀ fi, fl ≤ fi → CallOK P E fi (call fi)) (h1 : E.G ≤ fl) (h2 : fl ≤ s.nx) (hp : p.OK E call fl ops A s) (hfree : Free ρ₀ s.nx (p.S p.W.length).nx)
    (hmono : ∀ j, (p.S j).nx ≤ (p.S (j + 1)).nx) {Q : Exit → Act → World → Prop}
    (hQ : ∀ (listed : Array Bool) (ρ : Ren) (a : Act) (w : World), p.Inv E fl ops A s ρ₀ w₀ listed ρ a w p.W.length → (∀ i, i < ops.size → listed.getD i false = true) → Q .normal a w) :
    ∀ (fuel : Nat) (listed : Array Bool) (ρ : Ren) (a : Act) (w : World) (m : Nat), p.Inv E fl ops A s ρ₀ w₀ listed ρ a w m → left ops listed ≤ fuel → wpAny P .any ops Q fuel listed a w := by
  have mono : ∀ j k, j ≤ k → (p.S j).nx ≤ (p.S k).nx := fun j k hjk => by
    induction k with
    | zero => have : j = 0 := by omega
              subst this; exact Nat.le_refl _
    | succ k ih =>
      by_cases e : j = k + 1
      · subst e; exact Nat.le_refl _
      · exact Nat.le_trans (ih (by omega)) (hmono k)
  have fin : ∀ (listed : Array Bool) (ρ : Ren) (a : Act) (w : World) (m : Nat), p.Inv E fl ops A s ρ₀ w₀ listed ρ a w m → (∀ i, i < ops.size → listed.getD i false = true) → Q .normal a w := fun listed ρ a w m hI hall => by
    have hm : m = p.W.length := by
      rcases Nat.lt_or_ge m p.W.length with h | h
      · have hw : p.W[m]? = some p.W[m] := List.getElem?_eq_getElem h
        have := (hI.wl m _ hw).1 (hall _ (hp.inside m _ hw))
        omega
      · have := hI.mle; omega
    subst hm
    exact hQ listed ρ a w hI hall
  intro fuel
  induction fuel with
  | zero =>
    intro listed ρ a w m hI hf
    have hr : Region.ready .any ops listed = [] := by
      cases hr : Region.ready .any ops listed with
      | nil => rfl
      | cons i l =>
        have hi : i ∈ Region.ready .any ops listed := by rw [hr]; simp
        have := left_lt hi
        omega
    exact ⟨hr, fin listed ρ a w m hI (all_done hp hI hr)⟩
  | succ fuel ih =>
    intro listed ρ a w m hI hf
    refine ⟨fun hr => fin listed ρ a w m hI (all_done hp hI hr), fun i hr => ?_⟩
    obtain ⟨o, ho, hin, hun, _⟩ := ready_spec hr
    have hl := getD_lt hun
    have hnext : ∀ ρ' a' w' m', p.Inv E fl ops A s ρ₀ w₀ (listed.setIfInBounds i true) ρ' a' w' m' → wpAny P .any ops Q fuel (listed.setIfInBounds i true) a' w' := fun ρ' a' w' m' hI' =>
      ih _ ρ' a' w' m' hI' (by have := left_lt hr; omega)
    simp only [wpOp, ho]
    rw [plan_guard hp hI hr ho]
    cases hg : p.gd i with
    | false =>
      simp only [Bool.false_eq_true, if_false]
      obtain ⟨hv, hc⟩ := hp.off i o ho hg
      refine hnext ρ _ _ m (inv_read hp hI hr ho (h := .e) (n := s.nx) (fi := s.nx) (s' := ⟨.e, s.nx⟩) (d := []) ?_ (.refl _ _ _ _) (by simp [T.get]) (by rw [hv]; exact undefVR ρ) (by simp) (.inl ⟨hc, rfl, rfl⟩))
      exact hI.heap.tree (by simp [T.get])
    | true =>
      simp only [if_true]
      left
      by_cases hc0 : p.cls i = 0
      · -- nothing of memory
        obtain ⟨s1, hval, hs1⟩ := hp.pure i o ho hg hc0
        have hev := fun x u => plan_ev hp hI hr (h := .e) (by simp [T.get]) E.G (.inl rfl) x u
        refine valA_ok (fl := s.nx) (s := ⟨.e, s.nx⟩) hE (hcalls s.nx h2) (hI.heap.tree (by simp [T.get])) (by omega) (Nat.le_refl _) (fun _ _ => by simp [T.get]) hev hval (fun j hj1 hj2 => by rw [hs1] at hj2; exact absurd hj1 (by show ¬ s.nx ≤ j; omega)) (fun v' w' hpost => ?_)
        obtain ⟨ρ', hrs, ht, hv⟩ := hpost
        exact hnext ρ' _ _ m (inv_read hp hI hr ho (d := []) hrs ht (by simp [T.get]) hv (by simp) (.inl ⟨hc0, rfl, hs1⟩))
      · by_cases hc1 : p.cls i = 1
        · -- reads, and makes blocks of its own
          obtain ⟨r1, r2, r3, h, s1, hval, hs1, hsub, hno, hd⟩ := hp.read i o ho hg hc1
          have hm : m = 0 := by
            rcases Nat.eq_zero_or_pos m with h | h
            · exact h
            · have := hI.readers h i hin hc1
              rw [getD_tf hun] at this
              cases this
          subst hm
          have hh : ∀ id x, h.get id = some x → p.has s listed 0 id x := fun id x hx => by
            unfold Plan.has
            rw [if_pos rfl]
            rcases hsub id x hx with h3 | ⟨k, k1, k2, k3⟩
            · exact .inl h3
            · exact .inr ⟨k, anc_listed hp hI hr k k1, k2, k3⟩
          have hev := fun x u => plan_ev hp hI hr hh E.G (.inl rfl) x u
          have hfr : Free ρ (p.lo i) (p.hi i) := fun j hj1 hj2 => by
            cases hx : ρ j with
            | none => rfl
            | some x =>
              exfalso
              rcases hI.dom j x hx with h3 | ⟨k, k1, k2, k3, k4, k5, k6⟩ | h3
              · have := hfree j (by omega) (by have := mono 0 p.W.length (Nat.zero_le _); omega)
                rw [this] at h3; cases h3
              · have hne : i ≠ k := fun e => by subst e; rw [getD_tf hun] at k1; cases k1
                rcases hp.apart i k hc1 k2 hne with h4 | h4 <;> omega
              · omega
          refine valA_ok (fl := p.lo i) (s := ⟨h, p.lo i⟩) hE (hcalls (p.lo i) (by omega)) (hI.heap.tree hh) (by omega) (Nat.le_refl _) hno hev hval (by rw [hs1]; exact hfr) (fun v' w' hpost => ?_)
          obtain ⟨ρ', hrs, ht, hv⟩ := hpost
          exact hnext ρ' _ _ 0 (inv_read hp hI hr ho (d := p.d i) hrs ht hno hv hd (.inr ⟨hc1, hg, rfl, Nat.le_refl _, Nat.le_of_eq hs1, rfl⟩))
        · -- writes
          obtain ⟨j, hj⟩ := hp.two i o ho hg hc0 hc1
          obtain ⟨_, _, hval⟩ := hp.write j i hj
          have hval := hval o ho
          have hjm : j = m := by
            rcases Nat.lt_trichotomy j m with h | h | h
            · have := (hI.wl j i hj).2 h
              rw [getD_tf hun] at this; cases this
            · exact h
            · have hlt : j < p.W.length := by
                rcases Nat.lt_or_ge j p.W.length with h' | h'
                · exact h'
                · simp [List.getElem?_eq_none h'] at hj
              have hw : p.W[m]? = some p.W[m] := List.getElem?_eq_getElem (by omega)
              have h3 := anc_listed hp hI hr _ (hp.chain m j _ i hw hj h)
              have := (hI.wl m _ hw).1 h3
              omega
          subst hjm
          have hrd : ∀ k, k < ops.size → p.cls k = 1 → listed.getD k false = true := fun k hk hc => anc_listed hp hI hr k (hp.later j i k hj hc hk)
          have hh : ∀ id x, (p.S j).h.get id = some x → p.has s listed j id x := fun id x hx => by
            unfold Plan.has
            by_cases hj0 : j = 0
            · rw [if_pos hj0]
              subst hj0
              rcases hp.first id x hx with h3 | ⟨k, k0, k1, k2, k3⟩
              · exact .inl h3
              · exact .inr ⟨k, hrd k k0 k1, k1, k3⟩
            · rw [if_neg hj0]; exact hx
          have hev := fun x u => plan_ev hp hI hr hh E.G (.inl rfl) x u
          have hlt : j < p.W.length := by
            rcases Nat.lt_or_ge j p.W.length with h' | h'
            · exact h'
            · simp [List.getElem?_eq_none h'] at hj
          have hfr : Free ρ (p.S j).nx (p.S (j + 1)).nx := fun q hq1 hq2 => by
            have m1 := mono 0 j (Nat.zero_le _)
            have m2 := mono (j + 1) p.W.length (by omega)
            have m3 := hp.firstNx
            cases hx : ρ q with
            | none => rfl
            | some x =>
              exfalso
              rcases hI.dom q x hx with h3 | ⟨k, k1, k2, k3, k4, k5, k6⟩ | h3
              · have := hfree q (by omega) (by omega)
                rw [this] at h3; cases h3
              · have ho' : ops[k]? = some ops[k] := Array.getElem?_eq_getElem k4
                obtain ⟨_, _, r3, _⟩ := hp.read k _ ho' k3 k2
                omega
              · omega
          have hfl' : fl ≤ (p.S j).nx := by
            have m1 := mono 0 j (Nat.zero_le _)
            have m3 := hp.firstNx
            omega
          refine valA_ok (fl := fl) (s := p.S j) hE (hcalls fl (Nat.le_refl _)) (hI.heap.tree hh) h1 hfl' hI.fit hev hval hfr (fun v' w' hpost => ?_)
          obtain ⟨ρ', hrs, ht, hv⟩ := hpost
          obtain ⟨g1, g2, g3, g4⟩ := inv_slots hp hI hr ho ht.le hv
          have hS := step_write (hI.since.weak hh) ht
          have hhas : ∀ id x, p.has s (listed.setIfInBounds i true) (j + 1) id x → (p.S (j + 1)).h.get id = some x := fun id x hx => by
            unfold Plan.has at hx
            rw [if_neg (by omega)] at hx
            exact hx
          refine hnext ρ' _ _ (j + 1) ⟨by simpa using hI.sz, inv_closed hp hI hr, g1, g2, g3, g4, hlt, ?_, ?_, hrs.rel.weak hhas, hS.weak hhas, ?_, ?_, ?_, ?_⟩
          · intro j' i' hj'
            rw [getD_set hl]
            by_cases e : i' = i
            · subst e
              rw [if_pos rfl]
              refine ⟨fun _ => ?_, fun _ => rfl⟩
              rcases Nat.lt_or_ge j j' with h | h
              · have := hp.chain j j' i' i' hj hj' h
                have h5 := anc_listed hp hI hr i' this
                rw [getD_tf hun] at h5; cases h5
              · omega
            · rw [if_neg e, hI.wl j' i' hj']
              refine ⟨fun h => by omega, fun h => ?_⟩
              rcases Nat.lt_or_ge j' j with h' | h'
              · exact h'
              · have : j' = j := by omega
                subst this
                rw [hj] at hj'
                cases hj'
                exact absurd rfl e
          · intro _ k hk hc
            rw [getD_set hl]
            by_cases e : k = i
            · rw [if_pos e]
            · rw [if_neg e]; exact hrd k hk hc
          · intro id x hx
            rcases ht.dom id x hx with h3 | ⟨h3, h4⟩
            · rcases hI.dom id x h3 with h5 | ⟨k, hk, hc⟩ | h5
              · exact .inl h5
              · refine .inr (.inl ⟨k, ?_, hc⟩)
                rw [getD_set hl]
                by_cases e : k = i
                · rw [if_pos e]
                · rw [if_neg e]; exact hk
              · exact .inr (.inr ⟨h5.1, Nat.lt_of_lt_of_le h5.2 (hmono j)⟩)
            · exact .inr (.inr ⟨Nat.le_trans (mono 0 j (Nat.zero_le _)) h3, h4⟩)
          · intro q hq
            rw [ht.low q hq]; exact hI.low q hq
          · exact ht.fit hI.fit
          · exact Nat.le_trans hI.up (hmono j)

end
end Go.Ev
