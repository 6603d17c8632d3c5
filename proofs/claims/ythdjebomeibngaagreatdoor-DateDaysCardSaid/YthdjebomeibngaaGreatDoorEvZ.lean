/- A checked interpreter for closed calls, part 26: what the interpreter says, the program does. -/
import Derived.Test.YthdjebomeibngaaGreatDoorEvY
import Derived.Scope
namespace Go.Ev
open Go Go.MapKept

/-- What a function leaves with: deferred calls, and marks of loops over functions. -/
def LeavesM (P : Program) (fn : Func) (tmps : Array Value) (R : Ending → World → Prop) : List Deferred → FrameMode → World → Prop
  | [], u, w => Leaves P fn tmps R [] u w
  | d :: ds, u, w => u ≠ .run ∧
      ((∃ r w', d.target = .collected r ∧ (Instr.takeDeferred r).run P w = .ok [] w' ∧ LeavesM P fn tmps R ds u w') ∨
       (∃ fv cap f args, d.target = .fn fv cap ∧ (invoke d.target d.args).run P w = .ok (.enter f args) w ∧
        CallsD P f args u w fun
          | .returned _, u', w' => LeavesM P fn tmps R ds (settle u') w'
          | .panicked chain, u', w' => LeavesM P fn tmps R ds (raised u' chain) w'
          | .outgrown, _, w' => R .outgrown w'))

theorem leaves_stepsM {P : Program} {fn : Func} {tmps : Array Value} {R : Ending → World → Prop} : ∀ (ds : List Deferred) (u : FrameMode) (w : World) (fr : Frame)
    (cs : List Frame), fr.mode = u → fr.defers = ds → fr.tmps = tmps → P.funcs[fr.fn]? = some fn → fr.kind = .normal → LeavesM P fn tmps R ds u w →
    ∃ e w' fr', R e w' ∧ Comes P (lone fr cs w) (lone fr' cs w') e ∧ fr'.fn = fr.fn ∧ fr'.leaving P w' e := by
  intro ds
  induction ds with
  | nil => exact fun u w fr cs hu hd ht hf hk h => leaves_steps [] u w fr cs hu hd ht hf hk h
  | cons d ds ih =>
    intro u w fr cs hu hd ht hf hk h
    obtain ⟨hrun, h⟩ := h
    rcases h with ⟨r, w', htar, htake, hrest⟩ | ⟨fv, cap, f, args, htar, hinv, hcall⟩
    · have h1 := step_collected (cs := cs) (hu ▸ hrun) hd htar htake
      obtain ⟨e', w'', fr', hR', hs', hfn', hl'⟩ := ih u w' { fr with defers := [] ++ ds } cs hu rfl ht hf hk hrest
      exact ⟨e', w'', fr', hR', Comes.of_steps (.one h1) hs', hfn', hl'⟩
    · have h1 := step_defer (cs := cs) (hu ▸ hrun) hd htar hinv
      obtain ⟨e, u', w', frX, hR, hsteps, hkX, hgo⟩ := hcall { fr with defers := ds } cs hu
      cases e with
      | returned v =>
        have h2 := step_going_returned (c := { { fr with defers := ds } with mode := u' }) (cs := cs) hkX hgo
        obtain ⟨e', w'', fr', hR', hs', hfn', hl'⟩ := ih (settle u') w' { { { fr with defers := ds } with mode := u' } with mode := settle u' } cs rfl rfl ht hf hk hR
        exact ⟨e', w'', fr', hR', Comes.of_steps (.head h1 (Steps.trans hsteps (.one h2))) hs', hfn', hl'⟩
      | panicked chain =>
        have h2 := step_going_panicked (c := { { fr with defers := ds } with mode := u' }) (cs := cs) hgo
        obtain ⟨e', w'', fr', hR', hs', hfn', hl'⟩ := ih (raised u' chain) w' { { { fr with defers := ds } with mode := u' } with mode := raised u' chain } cs rfl rfl ht hf hk hR
        exact ⟨e', w'', fr', hR', Comes.of_steps (.head h1 (Steps.trans hsteps (.one h2))) hs', hfn', hl'⟩
      | outgrown => exact ⟨.outgrown, w', fr, hR, Outgrown.of_steps (.one h1) hsteps, rfl, trivial⟩

def bodyPostDM (P : Program) (fn : Func) (R : Ending → World → Prop) : Exit → Act → World → Prop
  | .normal, a, w | .ret, a, w => LeavesM P fn a.tmps R a.defers .returning w
  | .panic chain, a, w => LeavesM P fn a.tmps R a.defers (.panicking chain) w
  | .outgrown, _, w => R .outgrown w
  | _, _, _ => False

theorem calls_of_wp_marks {P : Program} {f : FuncId} {fn : Func} {c : Code} {args : Array Value} {w : World} {R : Ending → World → Prop}
    (hf : P.funcs[f]? = some fn) (hb : fn.body = some c)
    (h : c.wp P (bodyPostDM P fn R) { tmps := args ++ Array.replicate (fn.ntmps - args.size) undef, defers := [] } w) : Calls P f args w R := by
  intro cs
  let b : Frame := { (default : Frame) with fn := f, kind := .normal }
  have henter : Frame.enter P f args .normal =
      b.at { tmps := args ++ Array.replicate (fn.ntmps - args.size) undef, defers := [] } [.code c] := by
    simp [Frame.enter, Frame.at, hf, hb, b]
  obtain ⟨e, a', w', hq, harr⟩ := h b [] cs
  rw [← henter] at harr
  cases e with
  | normal =>
    obtain ⟨e', w'', fr', hR, hs, hfn, hl⟩ := leaves_stepsM a'.defers .returning w' { b.at a' [] with mode := .returning } cs rfl rfl rfl hf rfl hq
    exact ⟨e', w'', fr', hR, Comes.of_steps (Steps.trans harr (.one step_end)) hs, hfn, hl⟩
  | ret =>
    obtain ⟨todo, hs₀⟩ := harr
    obtain ⟨e', w'', fr', hR, hs, hfn, hl⟩ := leaves_stepsM a'.defers .returning w' { b.at a' todo with mode := .returning } cs rfl rfl rfl hf rfl hq
    exact ⟨e', w'', fr', hR, Comes.of_steps hs₀ hs, hfn, hl⟩
  | panic chain =>
    obtain ⟨todo, hs₀⟩ := harr
    obtain ⟨e', w'', fr', hR, hs, hfn, hl⟩ := leaves_stepsM a'.defers (.panicking chain) w' { b.at a' todo with mode := .panicking chain } cs rfl rfl rfl hf rfl hq
    exact ⟨e', w'', fr', hR, Comes.of_steps hs₀ hs, hfn, hl⟩
  | exit id => exact hq.elim
  | goto l => exact hq.elim
  | outgrown => exact ⟨.outgrown, w', b, hq, harr.resolve_left (by simp [b]), rfl, trivial⟩

section
variable {P : Program} {E : Env} {L : Lib} (hE : EnvOK P E) (hL : LibOK P E L)

theorem DRs.unnil {ρ : Ren} {l : List Deferred} (h : DRs ρ [] l) : l = [] := by
  cases h
  rfl

/-- One result. -/
def resOf (tmps : Array Value) : ResultVar → Sem Value
  | .tmp t => pure (tmps.getD t undef)
  | .cell a t => do loadVar t (← asAddr (tmps.getD a undef))

theorem results_eq (fn : Func) (tmps : Array Value) : results fn tmps = (do let vs ← fn.results.toList.mapM (resOf tmps); pure (if h : vs.toArray.size = 1 then vs.toArray[0] else .tuple vs.toArray)) := by
  unfold results
  rw [Array.mapM_eq_mapM_toList]
  simp only [bind_map_left]
  rfl

include hE in
theorem resA_ok {G : Nat} {ρ : Ren} {h : T AObj} {w : World} (hrs : RS G ρ h w) {A : AA} {a : Act} (ha : RA ρ A a) : ∀ (rs : List ResultVar) (l : List Value), resA E h A rs = some l → ∃ l', (rs.mapM (resOf a.tmps)).run P w = .ok l' w ∧ VRs ρ l l'
  | [], l, hr => by
    simp [resA] at hr
    subst hr
    exact ⟨[], rfl, VRs.nil ρ⟩
  | .tmp t :: rest, l, hr => by
    unfold resA at hr
    split at hr
    · rename_i v l1 hv hl
      simp only [Option.some.injEq] at hr
      subst hr
      obtain ⟨v', h1, h2⟩ := ha.tmp t v hv
      obtain ⟨l', h3, h4⟩ := resA_ok hrs ha rest l1 hl
      refine ⟨v' :: l', ?_, VRs.cons h2 h4⟩
      have e : a.tmps.getD t undef = v' := by rw [Array.getD_eq_getD_getElem?, h1]; rfl
      simp [List.mapM_cons, resOf, e, h3]
    · cases hr
  | .cell p t :: rest, l, hr => by
    unfold resA at hr
    split at hr
    · rename_i b o hp
      split at hr
      · rename_i v l1 hv hl
        simp only [Option.some.injEq] at hr
        subst hr
        obtain ⟨p', h1, h2⟩ := ha.tmp p _ hp
        obtain ⟨r, n, v', h3, h4, h5⟩ := loadV_ok hE hrs hv
        cases h2 with
        | ptr _ hb =>
          rw [h3] at hb
          cases hb
          obtain ⟨l', h6, h7⟩ := resA_ok hrs ha rest l1 hl
          refine ⟨v' :: l', ?_, VRs.cons h5 h7⟩
          have e : a.tmps.getD p undef = .pointer (some ⟨r, o, none⟩) := by rw [Array.getD_eq_getD_getElem?, h1]; rfl
          simp [List.mapM_cons, resOf, e, asAddr, h4, h6]
      · cases hr
    · cases hr

theorem oneOf_ok {ρ : Ren} {l l' : List Value} (h : VRs ρ l l') : VR ρ (oneOf l) (if h : l'.toArray.size = 1 then l'.toArray[0] else .tuple l'.toArray) := by
  unfold oneOf
  split
  · obtain ⟨v', m, rfl, h1, h2⟩ := h.uncons
    have := h2.unnil
    subst this
    simpa using h1
  · rename_i hne
    have hl : l'.toArray.size ≠ 1 := fun e => by
      have : l.length = 1 := by rw [h.1]; simpa using e
      match l, this with
      | [v], _ => exact hne v rfl
    rw [dif_neg hl]
    exact VR.tupleOf h

theorem MR.ne_run {ρ : Ren} {m : AM} {u : FrameMode} (h : MR ρ m u) : u ≠ .run := by
  cases m with
  | ret => have : u = .returning := h; subst this; exact fun e => by cases e
  | pan v => obtain ⟨v', rfl, _⟩ := h; exact fun e => by cases e
  | caught v => obtain ⟨v', rfl, _⟩ := h; exact fun e => by cases e

include hE in
theorem evDef_ok {fl : Nat} {code : Code → AA → St → Option (AX × AA × St)} {call : FuncId → List Value → St → Option (AE × St)} (hcall : CallOK P E fl call) (hup : CallUp call) (hcodeup : ∀ c A s x A' s', code c A s = some (x, A', s') → s.nx ≤ s'.nx) (hcode : CodeOK P E fl code) (h1 : E.G ≤ fl)
    {f : FuncId} {args : List Value} {s : St} {m : AM} {s' : St} {m' : AM} (h : evDef E code call fl f args s m = some (s', m')) : (∃ fn, FnOK P f fn) ∧
    ∀ ρ w (args' : List Value) u, RS E.G ρ s.h w → fl ≤ s.nx → Fit s → Free ρ s.nx s'.nx → VRs ρ args args' → MR ρ m u →
      CallsD P f args'.toArray u w fun e u' w' => (∃ v, e = .returned v) ∧ ∃ ρ', RS E.G ρ' s'.h w' ∧ Tr fl ρ s w ρ' s' w' ∧ MR ρ' m' u' := by
  unfold evDef at h
  split at h
  · rename_i fn hfn
    obtain ⟨hf1, hf2⟩ := hE.ft f fn hfn
    split at h
    · rename_i c hbody
      rcases cond_some h with ⟨hb, h⟩ | ⟨_, h⟩
      · rw [Bool.and_eq_true] at hb
        have hb1 := Nat.le_of_ble_eq_true hb.1
        have hb2 := Nat.le_of_ble_eq_true hb.2
        refine ⟨⟨fn, hf1, hf2, by rw [hbody]; rfl⟩, fun ρ w args' u hrs h2 hfit hfree hargs hu => ?_⟩
        have ha := enter_ok hargs hb1 hb2
        have done : ∀ {x : AX} {A1 : AA} {s1 : St} {m1 : AM}, (x = .normal ∨ x = .ret) → evS E code call fl c { ts := argT args 0 .e, n := fn.ntmps, defers := [] } s m = some (x, A1, s1, m1) →
            A1.defers.isEmpty = true → (∃ l, resA E s1.h A1 fn.results.toList = some l) → s1 = s' → m1 = m' →
            CallsD P f args'.toArray u w fun e u' w' => (∃ v, e = .returned v) ∧ ∃ ρ', RS E.G ρ' s'.h w' ∧ Tr fl ρ s w ρ' s' w' ∧ MR ρ' m' u' := by
          intro x A1 s1 m1 hx hS hd hl e1 e2
          subst e1
          subst e2
          obtain ⟨l, hl⟩ := hl
          refine callsD_of_wpS hf1 hbody fun c₀ cs hc₀ => ?_
          have hc₀' : ({ c₀ with mode := u } : Frame) = c₀ := by subst hc₀; rfl
          have hw := evS_ok hE hcall hup hcodeup hcode h1 (c₀ := c₀) (cs := cs) c _ s m x A1 s1 m1 ρ u _ w hS hrs h2 hfit ha hu hfree
          rw [hc₀'] at hw
          refine wpS_mono' hw fun e a1 fs w1 hp => ?_
          obtain ⟨ρ1, u1, hm, ha1, hrs1, ht, hcs, hu1⟩ := hp
          have hdf : a1.defers = [] := by
            have := ha1.defers
            have hnil : A1.defers = [] := by simpa using hd
            rw [hnil] at this
            exact this.unnil
          obtain ⟨l', hr1, hr2⟩ := resA_ok (P := P) hE hrs1 ha1 _ _ hl
          have hres : (results fn a1.tmps).run P w1 = .ok (if h : l'.toArray.size = 1 then l'.toArray[0] else .tuple l'.toArray) w1 := by
            rw [results_eq]
            simp only [Sem.run_bind, hr1, Result.andThen_ok, Sem.run_pure]
          rcases hx with rfl | rfl
          · cases e with
            | normal => exact ⟨hdf, u1, hcs, _, hres, ⟨_, rfl⟩, ρ1, hrs1, ht, hu1⟩
            | exit _ => exact hm.elim
            | goto _ => exact hm.elim
            | ret => exact hm.elim
            | panic _ => exact hm.elim
            | outgrown => exact hm.elim
          · cases e with
            | ret => exact ⟨hdf, u1, hcs, _, hres, ⟨_, rfl⟩, ρ1, hrs1, ht, hu1⟩
            | exit _ => exact hm.elim
            | goto _ => exact hm.elim
            | normal => exact hm.elim
            | panic _ => exact hm.elim
            | outgrown => exact hm.elim
        split at h
        · rename_i A1 s1 m1 hS
          rcases cond_some h with ⟨hd, h⟩ | ⟨_, h⟩
          · split at h
            · rename_i l hl
              simp only [Option.some.injEq, Prod.mk.injEq] at h
              exact done (.inl rfl) hS hd ⟨l, hl⟩ h.1 h.2
            · cases h
          · cases h
        · rename_i A1 s1 m1 hS
          rcases cond_some h with ⟨hd, h⟩ | ⟨_, h⟩
          · split at h
            · rename_i l hl
              simp only [Option.some.injEq, Prod.mk.injEq] at h
              exact done (.inr rfl) hS hd ⟨l, hl⟩ h.1 h.2
            · cases h
          · cases h
        · cases h
      · cases h
    · cases h
  · cases h

include hE in
theorem evLeaves_ok {fl : Nat} {code : Code → AA → St → Option (AX × AA × St)} {call : FuncId → List Value → St → Option (AE × St)} (hcall : CallOK P E fl call) (hup : CallUp call) (hcodeup : ∀ c A s x A' s', code c A s = some (x, A', s') → s.nx ≤ s'.nx) (hcode : CodeOK P E fl code) (h1 : E.G ≤ fl)
    {fn : Func} {tmps : Array Value} {R : Ending → World → Prop} : ∀ (l : List AD) (ds : List Deferred) (s : St) (m : AM) (s' : St) (m' : AM) (ρ : Ren) (w : World) (u : FrameMode), evLeaves fl (evDef E code call fl) l s m = some (s', m') → DRs ρ l ds →
      RS E.G ρ s.h w → fl ≤ s.nx → Fit s → Free ρ s.nx s'.nx → MR ρ m u →
      (∀ ρ' w' u', RS E.G ρ' s'.h w' → Tr fl ρ s w ρ' s' w' → MR ρ' m' u' → LeavesM P fn tmps R [] u' w') → LeavesM P fn tmps R ds u w
  | [], ds, s, m, s', m', ρ, w, u, h, hds, hrs, _, _, _, hu, hend => by
    simp only [evLeaves, Option.some.injEq, Prod.mk.injEq] at h
    obtain ⟨rfl, rfl⟩ := h
    rw [hds.unnil]
    exact hend ρ w u hrs (.refl _ _ _ _) hu
  | .fn f fargs :: l, ds, s, m, s', m', ρ, w, u, h, hds, hrs, h2, hfit, hfree, hu, hend => by
    cases hds with
    | cons hd hds =>
      rename_i d' ds'
      unfold evLeaves at h
      split at h
      · rename_i s1 m1 hdef
        have u2 := evLeaves_nx (evDef_nx hup hcodeup) _ _ _ _ _ h
        obtain ⟨⟨fnd, hfnd⟩, hcalls⟩ := evDef_ok hE hcall hup hcodeup hcode h1 hdef
        cases hd with
        | fn _ _ cap args hargs =>
          have hinv : (invoke (.fn (.func f) cap) args).run P w = .ok (.enter f (args ++ cap)) w := by simpa [invoke] using run_enter hfnd (args ++ cap) w
          refine ⟨hu.ne_run, .inr ⟨.func f, cap, f, args ++ cap, rfl, hinv, ?_⟩⟩
          have := hcalls ρ w _ u hrs h2 hfit (hfree.left u2) hargs hu
          simp only [Array.toArray_toList] at this
          intro c₀ cs hc₀
          obtain ⟨e, u', w', fr, ⟨⟨v, rfl⟩, ρ1, hrs1, ht, hu1⟩, hrest⟩ := this c₀ cs hc₀
          refine ⟨_, u', w', fr, ?_, hrest⟩
          exact evLeaves_ok hcall hup hcodeup hcode h1 l ds' s1 (settleA m1) s' m' ρ1 w' (settle u') h (hds.mono ht.le) hrs1 (Nat.le_trans h2 ht.nx) (ht.fit hfit) (ht.free hfree) (settle_ok hu1) fun ρ' w'' u'' k1 k2 k3 => hend ρ' w'' u'' k1 (ht.trans k2) k3
      · cases h
  | .coll b :: l, ds, s, m, s', m', ρ, w, u, h, hds, hrs, h2, hfit, hfree, hu, hend => by
    cases hds with
    | cons hd hds =>
      rename_i d' ds'
      unfold evLeaves at h
      split at h
      · rename_i hget
        rcases cond_some h with ⟨hb, h⟩ | ⟨_, h⟩
        · simp only [Bool.and_eq_true] at hb
          obtain ⟨⟨hok, hfl⟩, hnx⟩ := hb
          have hfl := Nat.le_of_ble_eq_true hfl
          have hnx := Nat.le_of_ble_eq_true hnx
          cases hd with
          | coll hr =>
            rename_i r n
            obtain ⟨r1, n1, o', k1, k2, k3⟩ := hrs.obj _ _ hget
            rw [hr] at k1
            cases k1
            cases k3
            obtain ⟨hrs1, ht⟩ := shut_block (w' := w.putObj r (.deferred none)) hrs hok hfl hnx hget hr rfl rfl rfl World.putObj_size (putObj_other _ _ _)
            refine ⟨hu.ne_run, .inl ⟨r, _, rfl, run_takeDeferred k2, ?_⟩⟩
            exact evLeaves_ok hcall hup hcodeup hcode h1 l ds' (s.put b none) m s' m' ρ _ u h hds hrs1 h2 (ht.fit hfit) hfree hu fun ρ' w'' u'' k1 k2 k3 => hend ρ' w'' u'' k1 (ht.trans k2) k3
        · cases h
      · cases h

include hE in
theorem evEnd_ok {fl : Nat} {code : Code → AA → St → Option (AX × AA × St)} {call : FuncId → List Value → St → Option (AE × St)} (hcall : CallOK P E fl call) (hup : CallUp call) (hcodeup : ∀ c A s x A' s', code c A s = some (x, A', s') → s.nx ≤ s'.nx) (hcode : CodeOK P E fl code) (h1 : E.G ≤ fl)
    {fn : Func} {A1 : AA} {s1 : St} {m : AM} {r : AE} {s' : St} (h : evEnd E code call fl fn A1 s1 m = some (r, s')) {ρ ρ1 : Ren} {s : St} {w w1 : World} {a1 : Act} {u : FrameMode} (ha : RA ρ1 A1 a1) (hrs : RS E.G ρ1 s1.h w1) (h2 : fl ≤ s1.nx) (hfit : Fit s1) (hfree : Free ρ1 s1.nx s'.nx) (hu : MR ρ1 m u)
    (ht : Tr fl ρ s w ρ1 s1 w1) : LeavesM P fn a1.tmps (EPost E.G fl ρ s w r s') a1.defers u w1 := by
  unfold evEnd at h
  split at h
  · rename_i s2 hl
    rw [Option.map_eq_some_iff] at h
    obtain ⟨l, hres, e⟩ := h
    simp only [Prod.mk.injEq] at e
    obtain ⟨rfl, rfl⟩ := e
    refine evLeaves_ok hE hcall hup hcodeup hcode h1 _ _ _ _ _ _ ρ1 w1 u hl ha.defers hrs h2 hfit hfree hu fun ρ2 w2 u2 k1 k2 k3 => ?_
    have : u2 = .returning := k3
    subst this
    obtain ⟨l', hr1, hr2⟩ := resA_ok (P := P) hE k1 (ha.mono k2.le) _ _ hres
    refine ⟨_, ?_, ρ2, oneOf_ok hr2, k1, ht.trans k2⟩
    rw [results_eq]
    simp only [Sem.run_bind, hr1, Result.andThen_ok, Sem.run_pure]
  · rename_i s2 v hl
    simp only [Option.some.injEq, Prod.mk.injEq] at h
    obtain ⟨rfl, rfl⟩ := h
    refine evLeaves_ok hE hcall hup hcodeup hcode h1 _ _ _ _ _ _ ρ1 w1 u hl ha.defers hrs h2 hfit hfree hu fun ρ2 w2 u2 k1 k2 k3 => ?_
    obtain ⟨v', rfl, k4⟩ := k3
    exact ⟨ρ2, ⟨v', rfl, k4⟩, k1, ht.trans k2⟩
  · cases h

theorem trans_mono {fl : Nat} {r : Option Nat} {ρ ρ₁ : Ren} {s s₁ s' : St} {w w₁ : World} {x : AX} {A' : AA} {c : Code} {a : Act} (ht : Tr fl ρ s w ρ₁ s₁ w₁) (h : c.wpIn (FRd r) 0 P (XPost E.G fl ρ₁ s₁ w₁ x A' s') a w₁) : c.wpIn (FRd r) 0 P (XPost E.G fl ρ s w x A' s') a w₁ :=
  wpIn_mono h fun _ _ _ hx => hx.trans ht

theorem wp_of_in {c : Code} {Q : Exit → Act → World → Prop} {a : Act} {w : World} (h : c.wpIn (FRd none) 0 P Q a w) : c.wp P Q a w := (wpIn_wide (n := 0)).1 h
theorem in_of_wp {c : Code} {Q : Exit → Act → World → Prop} {a : Act} {w : World} (h : c.wp P Q a w) : c.wpIn (FRd none) 0 P Q a w := (wpIn_wide (n := 0)).2 h

theorem nd_of {rd r : Option Nat} {ρ : Ren} {ops : Array Oper} (hrd : RdOK ρ rd r) (h : (rd.isNone || ops.toList.all noDefO) = true) : r = none ∨ ∀ o ∈ ops.toList, noDefO o = true := by
  cases r with
  | none => exact .inl rfl
  | some l =>
    cases rd with
    | none => exact hrd.elim
    | some b =>
      simp only [Option.isNone_some, Bool.false_or, List.all_eq_true] at h
      exact .inr h

set_option maxHeartbeats 1000000 in
include hE hL in
theorem ev_ok : ∀ (n : Nat),
    (∀ fl, E.G ≤ fl → ∀ rd r c A s x A' s' ρ a w, evCode E L n fl rd c A s = some (x, A', s') → RdOK ρ rd r → RS E.G ρ s.h w → fl ≤ s.nx → Fit s → RA ρ A a → Free ρ s.nx s'.nx → c.wpIn (FRd r) 0 P (XPost E.G fl ρ s w x A' s') a w) ∧
    (∀ fl, E.G ≤ fl → ∀ rd r b A s x A' s' ρ a w, evCode E L n fl rd (.loop b) A s = some (x, A', s') → RdOK ρ rd r → RS E.G ρ s.h w → fl ≤ s.nx → Fit s → RA ρ A a → Free ρ s.nx s'.nx → Code.roundsIn (FRd r) 0 P b (XPost E.G fl ρ s w x A' s') n a w) ∧
    (∀ fl, E.G ≤ fl → CallOK P E fl (evCall E L n fl)) ∧ (∀ fl, E.G ≤ fl → YieldOK P E fl (evYield E L n fl)) := by
  intro n
  induction n with
  | zero =>
    refine ⟨fun fl _ rd r c A s x A' s' ρ a w h => ?_, fun fl _ rd r b A s x A' s' ρ a w h => ?_, fun fl _ f args s r s' h => ?_, fun fl _ b vs s r s' h => ?_⟩
    · simp [evCode] at h
    · simp [evCode] at h
    · simp [evCall] at h
    · simp [evYield] at h
  | succ n ih =>
    obtain ⟨ihc, ihl, ihf, ihy⟩ := ih
    obtain ⟨upc, upf, upy⟩ := ev_nx (E := E) (L := L) n
    have loop : ∀ fl, E.G ≤ fl → ∀ rd r b A s x A' s' ρ a w, evCode E L (n + 1) fl rd (.loop b) A s = some (x, A', s') → RdOK ρ rd r → RS E.G ρ s.h w → fl ≤ s.nx → Fit s → RA ρ A a → Free ρ s.nx s'.nx → Code.roundsIn (FRd r) 0 P b (XPost E.G fl ρ s w x A' s') (n + 1) a w := by
      intro fl h1 rd r b A s x A' s' ρ a w h hrd hrs h2 hfit ha hfree
      rw [roundsIn_succ]
      simp only [evCode] at h
      split at h
      · rename_i A1 s1 hb
        have u2 := upc _ _ _ _ _ _ _ _ h
        refine wpIn_mono (ihc fl h1 rd r b A s .normal A1 s1 ρ a w hb hrd hrs h2 hfit ha (hfree.left u2)) fun e a1 w1 hx => ?_
        obtain ⟨ρ1, hm, ha1, hrs1, ht⟩ := hx
        cases e with
        | normal => exact roundsIn_mono (fun _ _ _ hx => hx.trans ht) _ _ _ (ihl fl h1 rd r b A1 s1 x A' s' ρ1 a1 w1 h (hrd.mono ht.le) hrs1 (by have := ht.nx; omega) (ht.fit hfit) ha1 (ht.free hfree))
        | exit _ => exact hm.elim
        | goto _ => exact hm.elim
        | ret => exact hm.elim
        | panic _ => exact hm.elim
        | outgrown => exact hm.elim
      · rename_i hne
        refine wpIn_mono (ihc fl h1 rd r b A s x A' s' ρ a w h hrd hrs h2 hfit ha hfree) fun e a1 w1 hx => ?_
        cases e with
        | normal =>
          obtain ⟨ρ1, hm, _⟩ := hx
          cases x with
          | normal => exact (hne A' s' h).elim
          | exit _ => exact hm.elim
          | ret => exact hm.elim
          | pan _ => exact hm.elim
        | exit _ => exact hx
        | goto _ => exact hx
        | ret => exact hx
        | panic _ => exact hx
        | outgrown => exact hx
    refine ⟨fun fl h1 rd r c A s x A' s' ρ a w h hrd hrs h2 hfit ha hfree => ?_, loop, fun fl h1 => ?_, fun fl h1 => ?_⟩
    · cases c with
      | skip =>
        simp only [evCode, Option.some.injEq, Prod.mk.injEq] at h
        obtain ⟨rfl, rfl, rfl⟩ := h
        exact wpIn_skip ⟨ρ, trivial, ha, hrs, .refl _ _ _ _⟩
      | label l =>
        simp only [evCode, Option.some.injEq, Prod.mk.injEq] at h
        obtain ⟨rfl, rfl, rfl⟩ := h
        exact wpIn_label ⟨ρ, trivial, ha, hrs, .refl _ _ _ _⟩
      | ret =>
        simp only [evCode, Option.some.injEq, Prod.mk.injEq] at h
        obtain ⟨rfl, rfl, rfl⟩ := h
        exact wpIn_ret ⟨ρ, trivial, ha, hrs, .refl _ _ _ _⟩
      | exit id =>
        simp only [evCode, Option.some.injEq, Prod.mk.injEq] at h
        obtain ⟨rfl, rfl, rfl⟩ := h
        exact wpIn_exit ⟨ρ, rfl, ha, hrs, .refl _ _ _ _⟩
      | seq c1 c2 =>
        simp only [evCode] at h
        split at h
        · rename_i A1 s1 hb
          have u2 := upc _ _ _ _ _ _ _ _ h
          refine wpIn_seq (wpIn_mono (ihc fl h1 rd r c1 A s .normal A1 s1 ρ a w hb hrd hrs h2 hfit ha (hfree.left u2)) fun e a1 w1 hx => ?_)
          obtain ⟨ρ1, hm, ha1, hrs1, ht⟩ := hx
          cases e with
          | normal => exact trans_mono ht (ihc fl h1 rd r c2 A1 s1 x A' s' ρ1 a1 w1 h (hrd.mono ht.le) hrs1 (by have := ht.nx; omega) (ht.fit hfit) ha1 (ht.free hfree))
          | exit _ => exact hm.elim
          | goto _ => exact hm.elim
          | ret => exact hm.elim
          | panic _ => exact hm.elim
          | outgrown => exact hm.elim
        · rename_i hne
          refine wpIn_seq (wpIn_mono (ihc fl h1 rd r c1 A s x A' s' ρ a w h hrd hrs h2 hfit ha hfree) fun e a1 w1 hx => ?_)
          cases e with
          | normal =>
            obtain ⟨ρ1, hm, _⟩ := hx
            cases x with
            | normal => exact (hne A' s' h).elim
            | exit _ => exact hm.elim
            | ret => exact hm.elim
            | pan _ => exact hm.elim
          | exit _ => exact hx
          | goto _ => exact hx
          | ret => exact hx
          | panic _ => exact hx
          | outgrown => exact hx
      | cond c1 x1 y1 =>
        simp only [evCode] at h
        split at h
        · rename_i t hc
          have hv := evA_ok hrs ha c1 _ hc
          generalize hce : a.eval c1 = cv at hv
          cases hv
          have hw := ihc fl h1 rd r _ A s x A' s' ρ a w h hrd hrs h2 hfit ha hfree
          cases t
          · exact wpIn_cond_false hce hw
          · exact wpIn_cond_true hce hw
        · cases h
      | block id b =>
        simp only [evCode] at h
        split at h
        · rename_i j A1 s1 hb
          simp only [Option.some.injEq, Prod.mk.injEq] at h
          obtain ⟨rfl, rfl, rfl⟩ := h
          refine wpIn_block (wpIn_mono (ihc fl h1 rd r b A s (.exit j) A1 s1 ρ a w hb hrd hrs h2 hfit ha hfree) fun e a1 w1 hx => ?_)
          obtain ⟨ρ1, hm, ha1, hrs1, ht⟩ := hx
          cases e with
          | exit id' =>
            have hm' : j = id' := hm
            subst hm'
            simp only [Exit.inBlock]
            cases hj : Nat.beq j id with
            | true =>
              rw [if_pos (Nat.eq_of_beq_eq_true hj)]
              exact ⟨ρ1, trivial, ha1, hrs1, ht⟩
            | false =>
              rw [if_neg (Nat.ne_of_beq_eq_false hj)]
              exact ⟨ρ1, rfl, ha1, hrs1, ht⟩
          | normal => exact hm.elim
          | goto _ => exact hm.elim
          | ret => exact hm.elim
          | panic _ => exact hm.elim
          | outgrown => exact hm.elim
        · rename_i hne
          refine wpIn_block (wpIn_mono (ihc fl h1 rd r b A s x A' s' ρ a w h hrd hrs h2 hfit ha hfree) fun e a1 w1 hx => ?_)
          cases e with
          | exit id' =>
            obtain ⟨ρ1, hm, _⟩ := hx
            cases x with
            | exit j => exact (hne j A' s' h).elim
            | normal => exact hm.elim
            | ret => exact hm.elim
            | pan _ => exact hm.elim
          | normal => exact hx
          | goto _ => exact hx
          | ret => exact hx
          | panic _ => exact hx
          | outgrown => exact hx
      | loop b => exact wpIn_loop_rounds (n + 1) (loop fl h1 rd r b A s x A' s' ρ a w h hrd hrs h2 hfit ha hfree)
      | region id ops draw =>
        cases draw with
        | false =>
          simp only [evCode] at h
          rcases cond_some h with ⟨hnd, h⟩ | ⟨_, h⟩
          · refine wpIn_region ?_
            have := evOpsY_ok hE (ihf fl h1) (ihy fl h1) (upf fl) (upy fl) h1 (nd_of hrd hnd) ops.toList 0 A s x A' s' ρ a w (fun j hj => by simp) h hrs h2 hfit ha hfree
            rw [List.range_eq_range']
            simpa using this
          · cases h
        | true =>
          simp only [evCode] at h
          rcases cond_some h with ⟨hnd, h⟩ | ⟨_, h⟩
          · exact evDraw3_ok hE hE.mixed (fun fi hfi => ihf fi (Nat.le_trans h1 hfi)) (ihy fl h1) (fun fi => upf fi) (upy fl) h1 (nd_of hrd hnd) h hrs h2 hfit ha hfree
          · cases h
      | rangeFunc g ps assign body =>
        simp only [evCode] at h
        split at h
        · rename_i gf first cap hg
          have hgv := evA_ok hrs ha g _ hg
          generalize hge : a.eval g = gv at hgv
          split at h
          · rename_i D mk s0 hent
            have u0 := enterA_nx hent
            rcases cond_some h with ⟨hok, h⟩ | ⟨_, h⟩
            · cases hgv with
              | func _ _ f' _ c' hfn hfs hcs hf1 hc1 =>
                -- what the call leaves
                have key : ∀ {re : AE} {s2 : St}, evCall E L n fl gf (first.toList ++ (.func (.yield s0.nx) #[] #[] :: cap.toList)) { s0.put s0.nx (some (.loop .ready none A.ts A.n ps.toList assign body D)) with nx := s0.nx + 1 } = some (re, s2) → Free ρ s.nx s2.nx →
                    (∀ ρ1 l w1 mark nl, ρ1 s0.nx = some (l, nl) → DRs ρ1 mk mark → Tr fl ρ s w ρ1 { s0.put s0.nx (some (.loop .ready none A.ts A.n ps.toList assign body D)) with nx := s0.nx + 1 } w1 → ∀ e w2,
                      EPost E.G fl ρ1 { s0.put s0.nx (some (.loop .ready none A.ts A.n ps.toList assign body D)) with nx := s0.nx + 1 } w1 re s2 e w2 → rangePost (FRd r) 0 P l (XPost E.G fl ρ s w x A' s') { a with defers := mark ++ a.defers } e w2) →
                    (Code.rangeFunc g ps assign body).wpIn (FRd r) 0 P (XPost E.G fl ρ s w x A' s') a w := by
                  intro re s2 hcall hfr2 hpost
                  have u2 := upf _ _ _ _ _ _ hcall
                  simp only at u2
                  refine wpIn_rangeFunc fun fn _ => ?_
                  obtain ⟨l, mark, w1, ρ1, hrun, ⟨nl, hl⟩, hmk, hrs1, ht1⟩ := enterA_ok (P := P) (fl := fl) hent hrd hrs h1 h2 hok (hfr2.left (by omega)) ha fn ps assign body
                  obtain ⟨⟨gfn, hgfn⟩, hc⟩ := ihf fl h1 _ _ _ _ _ hcall
                  have hargs : VRs ρ1 (first.toList ++ (.func (.yield s0.nx) #[] #[] :: cap.toList)) (f'.toList ++ (.func (.yield l) #[] #[] :: c'.toList)) :=
                    VRs.append ⟨by simpa using hfs, fun i v v' hv hv' => (hf1 i v v' (by simpa using hv) (by simpa using hv')).mono ht1.le⟩ (.cons (.yield hl) ⟨by simpa using hcs, fun i v v' hv hv' => (hc1 i v v' (by simpa using hv) (by simpa using hv')).mono ht1.le⟩)
                  refine ⟨l, mark, w1, { target := .fn (.func gf) c', args := f' ++ #[.func (.yield l) #[] #[]] }, w1, gf, (f'.toList ++ (.func (.yield l) #[] #[] :: c'.toList)).toArray, w1, hrun, ?_, (fun _ _ => trivial), ?_, (fun hd => by cases hd), ?_⟩
                  · simp only [resolve, hge, Deferred.ofValue]
                    simp [Act.eval]
                  · have e : f' ++ #[.func (.yield l) #[] #[]] ++ c' = (f'.toList ++ (.func (.yield l) #[] #[] :: c'.toList)).toArray := by
                      apply Array.ext'
                      simp
                    have := run_enter hgfn (f' ++ #[.func (.yield l) #[] #[]] ++ c') w1
                    simp only [invoke]
                    rw [this, e]
                  · exact calls_in ((hc ρ1 w1 _ hrs1 (by show fl ≤ s0.nx + 1; omega) (ht1.fit hfit) (ht1.free hfr2) hargs).mono fun e w2 hx => hpost ρ1 l w1 mark nl hl hmk ht1 e w2 hx)
                split at h
                · rename_i v s2 hcall
                  have u2 := upf _ _ _ _ _ _ hcall
                  simp only at u2
                  split at h
                  · rename_i st pe ts2 c2 ps2 as2 bo2 D2 hget
                    rcases cond_some h with ⟨hnb, h4⟩ | ⟨_, h4⟩
                    · have u3 : s2.nx ≤ s'.nx := by
                        split at h4
                        · simp only [Option.some.injEq, Prod.mk.injEq] at h4
                          rw [← h4.2.2, St.put_nx]; exact Nat.le_refl _
                        · have := upc _ _ _ _ _ _ _ _ h4
                          rw [St.put_nx] at this; exact this
                      refine key hcall (hfree.left u3) fun ρ1 l w1 mark nl hl hmk ht1 e w2 hx => ?_
                      obtain ⟨ρ2, hm, hrs2, ht2⟩ := hx
                      have hle := ht2.le
                      have ht := ht1.trans ht2
                      cases e with
                      | panicked _ => exact hm.elim
                      | outgrown => exact hm.elim
                      | returned v' =>
                        obtain ⟨r1, n1, o', k1, k2, k3⟩ := hrs2.obj _ _ hget
                        rw [hle _ _ hl] at k1
                        cases k1
                        cases k3 with
                        | loop rec _ _ _ rD nD _ hps hc hD hrD hts =>
                          obtain ⟨hrs3, ht3⟩ := shut_block (fl := fl) (w' := w2.putObj l (.loop { rec with state := .exhausted })) hrs2 hok (by omega) (by omega) hget (hle _ _ hl) rfl rfl rfl World.putObj_size (putObj_other _ _ _)
                          have ha3 : RA ρ2 { A with defers := mk ++ A.defers } { a with defers := mark ++ a.defers } :=
                            ⟨ha.size, fun t v hv => let ⟨v', q1, q2⟩ := ha.tmp t v hv; ⟨v', q1, q2.mono ht.le⟩, (hmk.mono hle).append (ha.defers.mono ht.le)⟩
                          refine ⟨rec.pending, _, run_endLoop k2 (fun hb => by rw [hb] at hnb; simp [notBusy] at hnb), ?_⟩
                          have htt := ht.trans ht3
                          rcases hpe : rec.pending with _ | c
                          · rw [hpe] at h4 hrs3 htt
                            simp only [Option.some.injEq, Prod.mk.injEq] at h4
                            obtain ⟨rfl, rfl, rfl⟩ := h4
                            exact ⟨ρ2, trivial, ha3, hrs3, htt⟩
                          · rw [hpe] at h4 hrs3 htt
                            exact trans_mono htt (ihc fl h1 rd r c _ _ x A' s' ρ2 _ _ h4 (hrd.mono htt.le) hrs3 (by have := htt.nx; omega) (htt.fit hfit) ha3 (htt.free hfree))
                    · cases h4
                  · cases h
                · rename_i v s2 hcall
                  simp only [Option.some.injEq, Prod.mk.injEq] at h
                  obtain ⟨rfl, rfl, rfl⟩ := h
                  refine key hcall hfree fun ρ1 l w1 mark nl hl hmk ht1 e w2 hx => ?_
                  obtain ⟨ρ2, hm, hrs2, ht2⟩ := hx
                  have hle := ht2.le
                  have ht := ht1.trans ht2
                  cases e with
                  | returned _ => exact hm.elim
                  | outgrown => exact hm.elim
                  | panicked ch => exact ⟨ρ2, hm, ⟨ha.size, fun t v hv => let ⟨v', q1, q2⟩ := ha.tmp t v hv; ⟨v', q1, q2.mono ht.le⟩, (hmk.mono hle).append (ha.defers.mono ht.le)⟩, hrs2, ht⟩
                · cases h
            · cases h
          · cases h
        · cases h
      | scope c1 =>
        simp only [evCode] at h
        rcases cond_some h with ⟨hn, h⟩ | ⟨_, h⟩
        · have hr : r = none := by
            cases r with
            | none => rfl
            | some l =>
              cases rd with
              | none => exact hrd.elim
              | some b => cases hn
          subst hr
          refine in_of_wp (wp_scope_straight (wp_mono (wp_of_in (ihc fl h1 rd none c1 A s x A' s' ρ a w h hrd hrs h2 hfit ha hfree)) fun e a1 w1 hx => ?_))
          cases e with
          | goto _ =>
            obtain ⟨_, hm, _⟩ := hx
            cases x <;> exact hm.elim
          | normal => exact hx
          | exit _ => exact hx
          | ret => exact hx
          | panic _ => exact hx
          | outgrown => exact hx
        · cases h
      | goto _ => simp [evCode] at h
      | refuse _ => simp [evCode] at h
    · intro f args s r s' h
      simp only [evCall] at h
      split at h
      · -- told
        rename_i v hv
        simp only [Option.some.injEq, Prod.mk.injEq] at h
        obtain ⟨rfl, rfl⟩ := h
        obtain ⟨g1, g2, g3⟩ := hL f args s.h v hv
        refine ⟨g2, fun ρ w args' hrs h2 hfit hfree hargs => ?_⟩
        refine (g3 ρ w args' hrs hargs).mono fun e w' hx => ?_
        obtain ⟨rfl, hb⟩ := hx
        refine ⟨ρ, .of_plain g1, ⟨hrs.glob, fun i o hi => ?_, hrs.inj⟩, ⟨.refl _, fun _ _ h => .inl h, Nat.le_refl _, hb.os, hb.tape, hb.output, hb.size, fun k hk _ => hb.block k hk, fun i o q m hi ho hr _ => ⟨i, o, m, hi, ho, hr⟩, fun _ _ => rfl, fun _ _ => rfl⟩⟩
        obtain ⟨q, m, o', k1, k2, k3⟩ := hrs.obj i o hi
        refine ⟨q, m, o', k1, ?_, k3⟩
        rw [hb.block q ?_]
        · exact k2
        · rcases Nat.lt_or_ge q w.heap.size with h' | h'
          · exact h'
          · rw [Array.getElem?_eq_none h'] at k2; cases k2
      · split at h
        · rename_i fn hfn
          obtain ⟨hf1, hf2⟩ := hE.ft f fn hfn
          split at h
          · rename_i c hbody
            rcases cond_some h with ⟨hb, h⟩ | ⟨_, h⟩
            · rw [Bool.and_eq_true] at hb
              have hb1 := Nat.le_of_ble_eq_true hb.1
              have hb2 := Nat.le_of_ble_eq_true hb.2
              refine ⟨⟨fn, hf1, hf2, by rw [hbody]; rfl⟩, fun ρ w args' hrs h2 hfit hfree hargs => ?_⟩
              have ha := enter_ok hargs hb1 hb2
              have cok : CodeOK P E fl (fun c A s => evCode E L n fl none c A s) := fun c A s x A' s' ρ a w h hrs h2 hfit ha hfree => wp_of_in (ihc fl h1 none none c A s x A' s' ρ a w h trivial hrs h2 hfit ha hfree)
              have cup : ∀ c A s x A' s', (fun c A s => evCode E L n fl none c A s) c A s = some (x, A', s') → s.nx ≤ s'.nx := fun c A s x A' s' => upc fl none c A s x A' s'
              have done : ∀ {x : AX} {A1 : AA} {s1 : St} {m : AM}, ((x = .normal ∧ m = .ret) ∨ (x = .ret ∧ m = .ret) ∨ ∃ v, x = .pan v ∧ m = .pan v) → evCode E L n fl none c { ts := argT args 0 .e, n := fn.ntmps, defers := [] } s = some (x, A1, s1) →
                  evEnd E (fun c A s => evCode E L n fl none c A s) (fun f args s => evCall E L n fl f args s) fl fn A1 s1 m = some (r, s') → Calls P f args'.toArray w (EPost E.G fl ρ s w r s') := by
                intro x A1 s1 m hx hcode h
                have u2 := evEnd_nx (upf fl) cup h
                refine calls_of_wp_marks hf1 hbody (wp_mono (wp_of_in (ihc fl h1 none none c _ s x A1 s1 ρ _ w hcode trivial hrs h2 hfit ha (hfree.left u2))) fun e a1 w1 hp => ?_)
                obtain ⟨ρ1, hm, ha1, hrs1, ht⟩ := hp
                have fin : ∀ u, MR ρ1 m u → LeavesM P fn a1.tmps (EPost E.G fl ρ s w r s') a1.defers u w1 := fun u hu =>
                  evEnd_ok hE (ihf fl h1) (upf fl) cup cok h1 h ha1 hrs1 (Nat.le_trans h2 ht.nx) (ht.fit hfit) (ht.free hfree) hu ht
                rcases hx with ⟨rfl, rfl⟩ | ⟨rfl, rfl⟩ | ⟨v, rfl, rfl⟩
                · cases e with
                  | normal => exact fin _ rfl
                  | exit _ => exact hm.elim
                  | goto _ => exact hm.elim
                  | ret => exact hm.elim
                  | panic _ => exact hm.elim
                  | outgrown => exact hm.elim
                · cases e with
                  | ret => exact fin _ rfl
                  | exit _ => exact hm.elim
                  | goto _ => exact hm.elim
                  | normal => exact hm.elim
                  | panic _ => exact hm.elim
                  | outgrown => exact hm.elim
                · cases e with
                  | panic ch =>
                    obtain ⟨v', rfl, hv⟩ := hm
                    exact fin _ ⟨v', rfl, hv⟩
                  | exit _ => exact hm.elim
                  | goto _ => exact hm.elim
                  | ret => exact hm.elim
                  | normal => exact hm.elim
                  | outgrown => exact hm.elim
              split at h
              · rename_i A1 s1 hcode
                exact done (.inl ⟨rfl, rfl⟩) hcode h
              · rename_i A1 s1 hcode
                exact done (.inr (.inl ⟨rfl, rfl⟩)) hcode h
              · rename_i v A1 s1 hcode
                exact done (.inr (.inr ⟨v, rfl, rfl⟩)) hcode h
              · cases h
            · cases h
          · cases h
        · cases h
    · intro b vs s re s' h ρ w vs' l nl hrs h2 hfit hfree hvs hl
      simp only [evYield] at h
      split at h
      · rename_i st0 pe0 ts c ps assign body D hget
        obtain ⟨r1, n1, o', k1, k2, k3⟩ := hrs.obj _ _ hget
        rw [hl] at k1
        cases k1
        cases k3 with
        | loop rec _ _ _ rD nD _ hps hc hD hrD hts =>
          split at h
          · rename_i A0 hbind
            obtain ⟨hlen, ha0⟩ := bindPs_ok _ _ _ _ _ rec.tmps hbind hvs ⟨hc, hts, .nil⟩
            have hsz : vs'.toArray.size = rec.params.size := by
              have := hlen
              rw [← hps] at this
              simpa using this.symm
            refine ⟨_, _, _, _, run_yield k2 hsz, ?_⟩
            have htm : (rec.params.zip vs'.toArray).foldl (fun tmps (t, a) => tmps.setIfInBounds t a) rec.tmps = (ps.zip vs').foldl (fun t (p, v) => t.setIfInBounds p v) rec.tmps := by
              rw [← hps, ← Array.foldl_toList, Array.toList_zip]
            rw [htm]
            refine roundIn_of_wpIn (F := FRd none) trivial ?_
            split at h
            · rename_i A1 s1 hass
              have u1 := upc _ _ _ _ _ _ _ _ hass
              split at h
              · rename_i pe ts2 c2 ps2 as2 bo2 D2 hget1
                rcases cond_some h with ⟨hb, h⟩ | ⟨_, h⟩
                · simp only [Bool.and_eq_true] at hb
                  obtain ⟨⟨hok, hfl⟩, hnx⟩ := hb
                  have hfl := Nat.le_of_ble_eq_true hfl
                  have hnx := Nat.le_of_ble_eq_true hnx
                  have u3 : s1.nx ≤ s'.nx := by
                    split at h
                    all_goals first
                      | cases h
                      | (rename_i h3
                         have k3 := upc _ _ _ _ _ _ _ _ h3
                         rw [St.put_nx] at k3
                         have k4 := endR_nx h
                         omega)
                  refine wpIn_mono (ihc fl h1 (some b) (some l) _ A0 s .normal A1 s1 ρ _ w hass ⟨nl, hl⟩ hrs h2 hfit ha0 (hfree.left u3)) fun e a1 w1 hx => ?_
                  obtain ⟨ρ1, hm, ha1, hrs1, ht1⟩ := hx
                  cases e with
                  | exit _ => exact hm.elim
                  | goto _ => exact hm.elim
                  | ret => exact hm.elim
                  | panic _ => exact hm.elim
                  | outgrown => exact hm.elim
                  | normal =>
                    have hl1 : ρ1 b = some (l, nl) := ht1.le _ _ hl
                    obtain ⟨r2, n2, o2, q1, q2, q3⟩ := hrs1.obj _ _ hget1
                    rw [hl1] at q1
                    cases q1
                    generalize hrdy : LoopState.ready = rdy at q3 hget1
                    cases q3 with
                    | loop rec2 _ _ _ rD2 nD2 _ hps2 hc2 hD2 hrD2 hts2 =>
                      have hlt : l < w1.heap.size := (Array.getElem?_eq_some_iff.1 q2).1
                      obtain ⟨hrs2, ht2⟩ := write_block (fl := fl) (w' := w1.putObj l (.loop { rec2 with state := .busy })) (o := .loop .busy rec2.pending ts2 c2 ps2 rec2.assign rec2.body D2) hrs1 hok hfl (by omega) hget1 hl1
                        (.loop { rec2 with state := .busy } ts2 c2 D2 rD2 nD2 ps2 hps2 hc2 hD2 hrD2 hts2) rfl rfl rfl World.putObj_size (World.putObj_heap_same hlt) (putObj_other _ _ _)
                      refine ⟨_, run_beginRound q2 hrdy.symm, ?_⟩
                      have ht12 := ht1.trans ht2
                      have bodyOK : ∀ {x3 : AX} {A3 : AA} {s3 : St}, evCode E L n fl (some b) rec.body A1 (s1.put b (some (.loop .busy rec2.pending ts2 c2 ps2 rec2.assign rec2.body D2))) = some (x3, A3, s3) → s3.nx ≤ s'.nx →
                          (∀ e a3 w3, XPost E.G fl ρ s w x3 A3 s3 e a3 w3 → roundPost P l (EPost E.G fl ρ s w re s') e a3 w3) → rec.body.wpIn (FRd (some l)) 0 P (roundPost P l (EPost E.G fl ρ s w re s')) a1 (w1.putObj l (.loop { rec2 with state := .busy })) := by
                        intro x3 A3 s3 hbody hle hpost
                        refine wpIn_mono (ihc fl h1 (some b) (some l) _ A1 _ x3 A3 s3 ρ1 a1 _ hbody ⟨nl, hl1⟩ hrs2 (by have := ht12.nx; omega) (ht12.fit hfit) ha1 ((ht12.free hfree).left hle)) fun e a3 w3 hx => ?_
                        exact hpost e a3 w3 (hx.trans ht12)
                      have fin : ∀ {jump : Option Code} {s3 : St} {ρ3 : Ren} {w3 : World}, endR jump b s3 = some (re, s') → RS E.G ρ3 s3.h w3 → Tr fl ρ s w ρ3 s3 w3 → ∃ v w', (Instr.endRound l jump).run P w3 = .ok v w' ∧ EPost E.G fl ρ s w re s' (.returned v) w' := by
                        intro jump s3 ρ3 w3 he hrs3 ht3
                        obtain ⟨v, w', q1, q2⟩ := endR_ok (P := P) (fl := fl) he hrs3 hok hfl (by have := ht3.nx; omega) (ht3.le _ _ hl)
                        obtain ⟨ρ4, z1, z2, z3⟩ := q2
                        exact ⟨v, w', q1, ρ4, z1, z2, ht3.trans z3⟩
                      split at h
                      · rename_i A3 s3 hbody
                        refine bodyOK hbody (Nat.le_of_eq (endR_nx h).symm) fun e a3 w3 hx => ?_
                        obtain ⟨ρ3, hm3, _, hrs3, ht3⟩ := hx
                        cases e with
                        | normal => exact fin h hrs3 ht3
                        | exit _ => exact hm3.elim
                        | goto _ => exact hm3.elim
                        | ret => exact hm3.elim
                        | panic _ => exact hm3.elim
                        | outgrown => exact hm3.elim
                      · rename_i A3 s3 hbody
                        refine bodyOK hbody (Nat.le_of_eq (endR_nx h).symm) fun e a3 w3 hx => ?_
                        obtain ⟨ρ3, hm3, _, hrs3, ht3⟩ := hx
                        cases e with
                        | ret => exact fin h hrs3 ht3
                        | exit _ => exact hm3.elim
                        | goto _ => exact hm3.elim
                        | normal => exact hm3.elim
                        | panic _ => exact hm3.elim
                        | outgrown => exact hm3.elim
                      · rename_i id A3 s3 hbody
                        refine bodyOK hbody (Nat.le_of_eq (endR_nx h).symm) fun e a3 w3 hx => ?_
                        obtain ⟨ρ3, hm3, _, hrs3, ht3⟩ := hx
                        cases e with
                        | exit id' =>
                          have hm' : id = id' := hm3
                          subst hm'
                          exact fin h hrs3 ht3
                        | ret => exact hm3.elim
                        | goto _ => exact hm3.elim
                        | normal => exact hm3.elim
                        | panic _ => exact hm3.elim
                        | outgrown => exact hm3.elim
                      · cases h
                · cases h
              · cases h
            · cases h
          · cases h
      · cases h

end
end Go.Ev
#print axioms Go.Ev.ev_ok
