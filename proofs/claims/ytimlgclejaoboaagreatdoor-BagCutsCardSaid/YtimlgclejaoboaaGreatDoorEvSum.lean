/- A checked interpreter, more: a call that was run by itself, over the part of memory that it reaches, is told. -/
import Derived.Test.YtimlgclejaoboaaGreatDoorEvUp
namespace Go.Ev
open Go

/-- A call that was run: where it began (the blocks that it reaches, and the number of the next block), what it returned, and which blocks are others behind it. -/
structure Sum where
  f : FuncId
  args : List Value
  nx : Nat
  ins : List (Nat × AObj)
  v : Value
  outs : List (Nat × Option AObj)
  nx' : Nat

def layI (t : T AObj) : List (Nat × AObj) → T AObj
  | [] => t
  | p :: r => (layI t r).set deep p.1 (some p.2)

theorem layI_get {t : T AObj} : ∀ {l : List (Nat × AObj)}, (∀ p ∈ l, ok p.1 = true) → ∀ {i : Nat} {o : AObj}, (layI t l).get i = some o → (∃ p ∈ l, i = p.1 ∧ o = p.2) ∨ t.get i = some o
  | [], _, _, _, h => .inr h
  | p :: r, hk, i, o, h => by
    unfold layI at h
    have h0 := hk p (List.mem_cons_self ..)
    rw [T.get_set _ _ _ _ _ (by have : p.1 ≤ 1000000000000 := Nat.le_of_ble_eq_true h0; simp only [deep]; omega)] at h
    by_cases e : i = p.1
    · rw [if_pos e] at h
      cases h
      exact .inl ⟨p, List.mem_cons_self .., e, rfl⟩
    · rw [if_neg e] at h
      rcases layI_get (fun q hq => hk q (List.mem_cons_of_mem _ hq)) h with ⟨q, h1, h2, h3⟩ | h1
      · exact .inl ⟨q, List.mem_cons_of_mem _ h1, h2, h3⟩
      · exact .inr h1

def putO (t : T AObj) : List (Nat × Option AObj) → T AObj
  | [] => t
  | p :: r => (putO t r).set deep p.1 p.2

theorem putO_get {t : T AObj} : ∀ {l : List (Nat × Option AObj)}, (∀ p ∈ l, ok p.1 = true) → ∀ (i : Nat), (∃ p ∈ l, i = p.1 ∧ (putO t l).get i = p.2) ∨ ((∀ p ∈ l, i ≠ p.1) ∧ (putO t l).get i = t.get i)
  | [], _, _ => .inr ⟨(fun p hp => by cases hp), rfl⟩
  | p :: r, hk, i => by
    unfold putO
    have h0 := hk p (List.mem_cons_self ..)
    rw [T.get_set _ _ _ _ _ (by have : p.1 ≤ 1000000000000 := Nat.le_of_ble_eq_true h0; simp only [deep]; omega)]
    by_cases e : i = p.1
    · exact .inl ⟨p, List.mem_cons_self .., e, if_pos e⟩
    · rcases putO_get (fun q hq => hk q (List.mem_cons_of_mem _ hq)) i with ⟨q, h1, h2, h3⟩ | ⟨h1, h2⟩
      · exact .inl ⟨q, List.mem_cons_of_mem _ h1, h2, by rw [if_neg e]; exact h3⟩
      · refine .inr ⟨fun q hq => ?_, by rw [if_neg e]; exact h2⟩
        rcases List.mem_cons.1 hq with rfl | hq
        · exact e
        · exact h1 q hq

def hasB (h : T AObj) (i : Nat) (o : AObj) : Bool := match h.get i with | some o' => sameO o' o | none => false

theorem hasB_eq {h : T AObj} {i : Nat} {o : AObj} (hb : hasB h i o = true) : h.get i = some o := by
  unfold hasB at hb
  split at hb
  · rename_i o' ho
    rw [ho, sameO_eq hb]
  · cases hb

def inB (h : T AObj) : List (Nat × AObj) → Bool
  | [] => true
  | p :: r => hasB h p.1 p.2 && inB h r

theorem inB_mem {h : T AObj} : ∀ {l : List (Nat × AObj)}, inB h l = true → ∀ p ∈ l, h.get p.1 = some p.2
  | [], _, p, hp => by cases hp
  | q :: r, hb, p, hp => by
    unfold inB at hb
    rw [Bool.and_eq_true] at hb
    rcases List.mem_cons.1 hp with rfl | hp
    · exact hasB_eq hb.1
    · exact inB_mem hb.2 p hp

def keyO (i : Nat) : List (Nat × Option AObj) → Bool
  | [] => false
  | p :: r => Nat.beq i p.1 || keyO i r

theorem keyO_mem {i : Nat} : ∀ {l : List (Nat × Option AObj)}, keyO i l = true → ∃ p ∈ l, i = p.1
  | [], h => by simp [keyO] at h
  | p :: r, h => by
    unfold keyO at h
    rw [Bool.or_eq_true] at h
    rcases h with h | h
    · exact ⟨p, List.mem_cons_self .., Nat.eq_of_beq_eq_true h⟩
    · obtain ⟨q, h1, h2⟩ := keyO_mem h
      exact ⟨q, List.mem_cons_of_mem _ h1, h2⟩

/-- What was there, and is no other one, is there still. -/
def keptB (h : T AObj) (outs : List (Nat × Option AObj)) : List (Nat × AObj) → Bool
  | [] => true
  | p :: r => (keyO p.1 outs || hasB h p.1 p.2) && keptB h outs r

theorem keptB_mem {h : T AObj} {outs : List (Nat × Option AObj)} : ∀ {l : List (Nat × AObj)}, keptB h outs l = true → ∀ p ∈ l, (∀ q ∈ outs, p.1 ≠ q.1) → h.get p.1 = some p.2
  | [], _, p, hp, _ => by cases hp
  | q :: r, hb, p, hp, hn => by
    unfold keptB at hb
    rw [Bool.and_eq_true] at hb
    rcases List.mem_cons.1 hp with rfl | hp
    · have h1 := hb.1
      rw [Bool.or_eq_true] at h1
      rcases h1 with h1 | h1
      · obtain ⟨q', h2, h3⟩ := keyO_mem h1
        exact absurd h3 (hn q' h2)
      · exact hasB_eq h1
    · exact keptB_mem hb.2 p hp hn

def outB (h : T AObj) : List (Nat × Option AObj) → Bool
  | [] => true
  | p :: r => (match p.2 with | some o => hasB h p.1 o | none => true) && outB h r

theorem outB_mem {h : T AObj} : ∀ {l : List (Nat × Option AObj)}, outB h l = true → ∀ p ∈ l, ∀ o, p.2 = some o → h.get p.1 = some o
  | [], _, p, hp, _, _ => by cases hp
  | q :: r, hb, p, hp, o, ho => by
    unfold outB at hb
    rw [Bool.and_eq_true] at hb
    rcases List.mem_cons.1 hp with rfl | hp
    · have h1 := hb.1
      rw [ho] at h1
      exact hasB_eq h1
    · exact outB_mem hb.2 p hp o ho

/-- The blocks' numbers are where they should be. -/
def insN (nx : Nat) : List (Nat × AObj) → Bool
  | [] => true
  | p :: r => Nat.blt p.1 nx && insN nx r

theorem insN_mem {nx : Nat} : ∀ {l : List (Nat × AObj)}, insN nx l = true → ∀ p ∈ l, p.1 < nx
  | [], _, p, hp => by cases hp
  | q :: r, hb, p, hp => by
    simp only [insN, Bool.and_eq_true] at hb
    rcases List.mem_cons.1 hp with rfl | hp
    · have := hb.1
      rw [Nat.blt_eq] at this
      exact this
    · exact insN_mem hb.2 p hp

def outsN (fl nx : Nat) : List (Nat × Option AObj) → Bool
  | [] => true
  | p :: r => Nat.ble fl p.1 && (Nat.blt p.1 nx && outsN fl nx r)

theorem outsN_mem {fl nx : Nat} : ∀ {l : List (Nat × Option AObj)}, outsN fl nx l = true → ∀ p ∈ l, fl ≤ p.1 ∧ p.1 < nx
  | [], _, p, hp => by cases hp
  | q :: r, hb, p, hp => by
    simp only [outsN, Bool.and_eq_true] at hb
    rcases List.mem_cons.1 hp with rfl | hp
    · exact ⟨Nat.le_of_ble_eq_true hb.1, by have := hb.2.1; rw [Nat.blt_eq] at this; exact this⟩
    · exact outsN_mem hb.2.2 p hp

def tabsK (h : T AObj) : List Tab → Bool
  | [] => true
  | t :: r => (match h.get t.1 with | some (.cells c _ false false) => sames c t.2 | _ => false) && tabsK h r

def elemOf (h : T AObj) (i : Nat) : TypeId := match h.get i with | some (.cells _ e _ _) => e | _ => 0

theorem tabsK_mem {h : T AObj} : ∀ {l : List Tab}, tabsK h l = true → ∀ t ∈ l, h.get t.1 = some (.cells t.2 (elemOf h t.1) false false)
  | [], _, t, ht => by cases ht
  | q :: r, hb, t, ht => by
    unfold tabsK at hb
    rw [Bool.and_eq_true] at hb
    rcases List.mem_cons.1 ht with rfl | ht
    · have h1 := hb.1
      split at h1
      · rename_i c e hget
        rw [hget, sames_eq h1]
        simp [elemOf, hget]
      · cases h1
    · exact tabsK_mem hb.2 t ht

/-- The call was run as it is told. -/
def sumB (E : Env) (L : Lib) (n fl : Nat) (tabs : List Tab) (es : Nat → TypeId) (c : Sum) : Bool :=
  match evCall E L n fl c.f c.args ⟨layI (layT tabs es) c.ins, c.nx⟩ with
  | some (.ret v, s') => Nat.beq s'.nx c.nx' && (sameW v c.v && (outB s'.h c.outs && keptB s'.h c.outs c.ins))
  | _ => false

/-- The numbers are as they should be. -/
def statB (fl : Nat) (c : Sum) : Bool := ok c.nx && (ok c.nx' && (Nat.ble fl c.nx && (insN c.nx c.ins && outsN fl c.nx' c.outs)))

def libE (L : Lib) (tabs : List Tab) (fl0 : Nat) (c : Sum) : Lib where
  ext := L.ext
  run fl f args s := cond (Nat.beq f c.f)
    (cond (Nat.beq s.nx c.nx && (Nat.beq fl fl0 && (sameL sameW args c.args && (tabsK s.h tabs && inB s.h c.ins)))) (some (.ret c.v, ⟨putO s.h c.outs, c.nx'⟩)) (L.run fl f args s))
    (L.run fl f args s)

section
variable {P : Program} {E : Env} {L L0 : Lib}

theorem libE_ok (hE : EnvOK P E) (hL0 : LibOK P E L0) (hL : LibOK P E L) {tabs : List Tab} {n fl : Nat} {c : Sum} (htabs : ∀ t ∈ tabs, t.1 < E.G ∧ t.1 < 1000000) (hG : E.G ≤ fl) (hst : statB fl c = true)
    (h : ∀ es, sumB E L0 n fl tabs es c = true) : LibOK P E (libE L tabs fl c) := by
  simp only [statB, Bool.and_eq_true] at hst
  obtain ⟨st1, st2, st3, st4, st5⟩ := hst
  have st3 := Nat.le_of_ble_eq_true st3
  have k4 := insN_mem st4
  have k5 := outsN_mem st5
  have nx1 : c.nx ≤ 1000000000000 := Nat.le_of_ble_eq_true st1
  have nx2 : c.nx' ≤ 1000000000000 := Nat.le_of_ble_eq_true st2
  have i4 : ∀ p ∈ c.ins, ok p.1 = true := fun p hp => Nat.ble_eq_true_of_le (by have := k4 p hp; omega)
  have i5 : ∀ p ∈ c.outs, ok p.1 = true := fun p hp => Nat.ble_eq_true_of_le (by have := k5 p hp; omega)
  -- what was run
  have ran : ∀ es, ∃ s', evCall E L0 n fl c.f c.args ⟨layI (layT tabs es) c.ins, c.nx⟩ = some (.ret c.v, s') ∧ s'.nx = c.nx' ∧ outB s'.h c.outs = true ∧ keptB s'.h c.outs c.ins = true := fun es => by
    have h1 := h es
    unfold sumB at h1
    split at h1
    · rename_i v s' hev
      simp only [Bool.and_eq_true] at h1
      exact ⟨s', by rw [hev, sameW_eq h1.2.1], Nat.eq_of_beq_eq_true h1.1, h1.2.2.1, h1.2.2.2⟩
    · cases h1
  have hup : c.nx ≤ c.nx' := by
    obtain ⟨s', h1, h2, _⟩ := ran fun _ => 0
    have := (ev_nx hL0.up n).2.1 fl _ _ _ _ _ h1
    rw [← h2]
    exact this
  have parts : ∀ {fl' f args s r s'}, (libE L tabs fl c).run fl' f args s = some (r, s') →
      (f = c.f ∧ s.nx = c.nx ∧ fl' = fl ∧ args = c.args ∧ tabsK s.h tabs = true ∧ inB s.h c.ins = true ∧ r = .ret c.v ∧ s' = ⟨putO s.h c.outs, c.nx'⟩) ∨ L.run fl' f args s = some (r, s') := by
    intro fl' f args s r s' hr
    simp only [libE] at hr
    rcases hb : Nat.beq f c.f with _ | _
    · rw [hb, cond_false] at hr
      exact .inr hr
    · rw [hb, cond_true] at hr
      rcases hc : (Nat.beq s.nx c.nx && (Nat.beq fl' fl && (sameL sameW args c.args && (tabsK s.h tabs && inB s.h c.ins)))) with _ | _
      · rw [hc, cond_false] at hr
        exact .inr hr
      · rw [hc, cond_true] at hr
        simp only [Bool.and_eq_true] at hc
        obtain ⟨c1, c2, c3, c4, c5⟩ := hc
        cases hr
        exact .inl ⟨Nat.eq_of_beq_eq_true hb, Nat.eq_of_beq_eq_true c1, Nat.eq_of_beq_eq_true c2, sameL_eq (fun _ _ => sameW_eq) c3, c4, c5, rfl, rfl⟩
  refine ⟨hL.ext, fun fl' h' f args s r s' hr => ?_, fun fl' f args s r s' hr => ?_⟩
  · rcases parts hr with ⟨rfl, hnx, rfl, rfl, ht, hi, rfl, rfl⟩ | hr
    · obtain ⟨s', hev, hnx', hout, hkept⟩ := ran (elemOf s.h)
      obtain ⟨hfn, hcall⟩ := (ev_ok hE hL0 n).2.2.1 fl' hG _ _ _ _ _ hev
      refine ⟨hfn, fun ρ w args' hrs h2 hfit hfree hargs => ?_⟩
      have sub : ∀ i o, (layI (layT tabs (elemOf s.h)) c.ins).get i = some o → s.h.get i = some o := fun i o ho => by
        rcases layI_get i4 ho with ⟨p, hp, rfl, rfl⟩ | ho
        · exact inB_mem hi p hp
        · obtain ⟨t, h1, rfl, rfl, _⟩ := layT_get (elemOf s.h) tabs (fun t ht => (htabs t ht).2) i o ho
          exact tabsK_mem ht t h1
      have hrsc : RS E.G ρ (layI (layT tabs (elemOf s.h)) c.ins) w :=
        ⟨hrs.glob, fun i o ho => hrs.obj i o (sub i o ho), fun i j o o' r n m hi hj h1 h2 => hrs.inj i j o o' r n m (sub i o hi) (sub j o' hj) h1 h2⟩
      have hfitc : Fit ⟨layI (layT tabs (elemOf s.h)) c.ins, c.nx⟩ := fun i hi => by
        rcases hget : (layI (layT tabs (elemOf s.h)) c.ins).get i with _ | o
        · rfl
        · have h1 := sub i o hget
          rw [hfit i (by rw [hnx]; exact hi)] at h1
          cases h1
      refine (hcall ρ w args' hrsc st3 hfitc (by rw [hnx'] ; rw [← hnx]; exact hfree) hargs).mono fun e w' hx => ?_
      obtain ⟨ρ', hm, hrs', ht'⟩ := hx
      have hfix : ∀ i r n, i < c.nx → ρ' i = some (r, n) → ρ i = some (r, n) := fun i r n hi hr => by
        rcases ht'.dom i _ hr with h1 | ⟨h1, _⟩
        · exact h1
        · have h1 : c.nx ≤ i := h1
          omega
      have cov : ∀ i o, (putO s.h c.outs).get i = some o → s'.h.get i = some o ∨ ((layI (layT tabs (elemOf s.h)) c.ins).get i = none ∧ s.h.get i = some o) := fun i o ho => by
        rcases putO_get (t := s.h) i5 i with ⟨p, hp, rfl, h1⟩ | ⟨h1, h2⟩
        · rw [ho] at h1
          exact .inl (outB_mem hout p hp o h1.symm)
        · rw [h2] at ho
          rcases hget : (layI (layT tabs (elemOf s.h)) c.ins).get i with _ | o'
          · exact .inr ⟨rfl, ho⟩
          · have h3 := sub i o' hget
            rw [ho] at h3
            cases h3
            left
            rcases Nat.lt_or_ge i fl' with hlt | hge
            · rw [ht'.low i hlt]; exact hget
            · rcases layI_get i4 hget with ⟨p, hp, rfl, rfl⟩ | hl
              · exact keptB_mem hkept p hp h1
              · obtain ⟨t, g1, g2, _, _⟩ := layT_get (elemOf s.h) tabs (fun t ht => (htabs t ht).2) i o hl
                have := (htabs t g1).1
                omega
      have old : ∀ i o, s.h.get i = some o → i < c.nx := fun i o ho => by
        rcases Nat.lt_or_ge i c.nx with h1 | h1
        · exact h1
        · rw [hfit i (by omega)] at ho; cases ho
      have mixed : ∀ i j o o' r n m, s'.h.get i = some o → (layI (layT tabs (elemOf s.h)) c.ins).get j = none → s.h.get j = some o' → ρ' i = some (r, n) → ρ' j = some (r, m) → i = j := by
        intro i j o o' r n m hi hj1 hj2 h1 h2
        have hj := hfix j r m (old j o' hj2) h2
        obtain ⟨r0, n0, o0, q1, q2, _⟩ := hrs.obj j o' hj2
        rw [hj] at q1
        cases q1
        have hlt : r < w.heap.size := (Array.getElem?_eq_some_iff.1 q2).1
        exfalso
        rcases Nat.lt_or_ge i fl' with hil | hig
        · have hi' : (layI (layT tabs (elemOf s.h)) c.ins).get i = some o := by rw [← hi]; exact (ht'.low i hil).symm
          have e := hrs.inj i j o o' r n m (sub i o hi') hj2 (hfix i r n (by omega) h1) hj
          subst e
          rw [hi'] at hj1
          cases hj1
        · obtain ⟨k, o2, m2, _, k2, k3⟩ := ht'.own i o r n hig hi h1 hlt
          have e := hrs.inj k j o2 o' r m2 m (sub k o2 k2) hj2 k3 hj
          subst e
          have k2' : (layI (layT tabs (elemOf s.h)) c.ins).get k = some o2 := k2
          rw [k2'] at hj1
          cases hj1
      refine ⟨ρ', hm, ⟨hrs'.glob, fun i o hi => ?_, fun i j o o' r n m hi hj h1 h2 => ?_⟩, ?_⟩
      · rcases cov i o hi with h1 | ⟨h1, h2⟩
        · exact hrs'.obj i o h1
        · obtain ⟨r, n, o', q1, q2, q3⟩ := hrs.obj i o h2
          refine ⟨r, n, o', ht'.le _ _ q1, ?_, q3.mono ht'.le⟩
          rw [ht'.frame r (Array.getElem?_eq_some_iff.1 q2).1 fun j o2 m _ hj hr => ?_]
          · exact q2
          · have hj' : (layI (layT tabs (elemOf s.h)) c.ins).get j = some o2 := hj
            have e := hrs.inj j i o2 o r m n (sub j o2 hj') h2 hr q1
            subst e
            rw [hj'] at h1
            cases h1
      · rcases cov i o hi with a1 | ⟨a1, a2⟩
        · rcases cov j o' hj with b1 | ⟨b1, b2⟩
          · exact hrs'.inj i j o o' r n m a1 b1 h1 h2
          · exact mixed i j o o' r n m a1 b1 b2 h1 h2
        · rcases cov j o' hj with b1 | ⟨b1, b2⟩
          · exact (mixed j i o' o r m n b1 a1 a2 h2 h1).symm
          · exact hrs.inj i j o o' r n m a2 b2 (hfix i r n (old i o a2) h1) (hfix j r m (old j o' b2) h2)
      · refine ⟨ht'.le, fun i x hx => ?_, ?_, ht'.os, ht'.tape, ht'.output, ht'.size, fun r hr hno => ?_, fun i o r n hi ho hr hlt => ?_, fun i hi => ?_, fun i hi => ?_⟩
        · rcases ht'.dom i x hx with h1 | ⟨h1, h3⟩
          · exact .inl h1
          · rw [hnx'] at h3
            exact .inr ⟨by rw [hnx]; exact h1, h3⟩
        · show s.nx ≤ c.nx'
          rw [hnx]; exact hup
        · exact ht'.frame r hr fun i o n hi ho => hno i o n hi (sub i o ho)
        · rcases cov i o ho with h1 | ⟨h1, h3⟩
          · obtain ⟨j, o', m, q1, q2, q3⟩ := ht'.own i o r n hi h1 hr hlt
            exact ⟨j, o', m, q1, sub j o' q2, q3⟩
          · exact ⟨i, o, n, hi, h3, hfix i r n (old i o h3) hr⟩
        · rcases putO_get (t := s.h) i5 i with ⟨p, hp, e, _⟩ | ⟨_, h3⟩
          · have := (k5 p hp).1
            omega
          · exact h3
        · rcases putO_get (t := s.h) i5 i with ⟨p, hp, e, _⟩ | ⟨_, h3⟩
          · have h4 := (k5 p hp).2
            have hi : c.nx' ≤ i := hi
            omega
          · exact h3
    · exact hL.run fl' h' _ _ _ _ _ hr
  · rcases parts hr with ⟨_, hnx, _, _, _, _, _, rfl⟩ | hr
    · show s.nx ≤ c.nx'
      rw [hnx]; exact hup
    · exact hL.up fl' _ _ _ _ _ hr

end
end Go.Ev
#print axioms Go.Ev.libE_ok
