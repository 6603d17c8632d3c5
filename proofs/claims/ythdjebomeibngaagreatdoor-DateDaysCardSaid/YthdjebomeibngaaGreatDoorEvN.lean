/- A checked interpreter for closed calls, part 14: activations and single operations, calls among them. -/
import Derived.Test.YthdjebomeibngaaGreatDoorEvM
import Derived.LoopN
namespace Go.Ev
open Go Go.MapKept

/-- A deferred call. -/
inductive AD where
  | fn (f : FuncId) (args : List Value)
  | coll (b : Nat)

/-- An activation: what is known of its slots, how many there are, and what it has deferred. -/
structure AA where
  ts : T Value
  n : Nat
  defers : List AD

/-- How a call ends. -/
inductive AE where
  | ret (v : Value)
  | pan (v : Value)

/-- How a piece of code is left. -/
inductive AX where
  | normal
  | exit (id : Nat)
  | ret
  | pan (v : Value)

inductive DR (ρ : Ren) : AD → Deferred → Prop
  | fn (f : FuncId) (l : List Value) (cap args : Array Value) (h : VRs ρ l (args ++ cap).toList) : DR ρ (.fn f l) { target := .fn (.func f) cap, args }
  | coll {b r n : Nat} (h : ρ b = some (r, n)) : DR ρ (.coll b) { target := .collected r, args := #[] }

theorem DR.mono {ρ ρ' : Ren} (hle : Le ρ ρ') {d : AD} {d' : Deferred} (h : DR ρ d d') : DR ρ' d d' := by
  cases h with
  | fn f l cap args h => exact .fn f l cap args (h.mono hle)
  | coll h => exact .coll (hle _ _ h)

inductive DRs (ρ : Ren) : List AD → List Deferred → Prop
  | nil : DRs ρ [] []
  | cons {d : AD} {d' : Deferred} {l : List AD} {l' : List Deferred} (h : DR ρ d d') (t : DRs ρ l l') : DRs ρ (d :: l) (d' :: l')

theorem DRs.mono {ρ ρ' : Ren} (hle : Le ρ ρ') {l : List AD} {l' : List Deferred} (h : DRs ρ l l') : DRs ρ' l l' := by
  induction h with
  | nil => exact .nil
  | cons h t ih => exact .cons (h.mono hle) ih

structure RA (ρ : Ren) (A : AA) (a : Act) : Prop where
  size : a.tmps.size = A.n
  tmp : ∀ t v, A.ts.get t = some v → ∃ v', a.tmps[t]? = some v' ∧ VR ρ v v'
  defers : DRs ρ A.defers a.defers

theorem RA.mono {ρ ρ' : Ren} (hle : Le ρ ρ') {A : AA} {a : Act} (h : RA ρ A a) : RA ρ' A a :=
  ⟨h.size, fun t v hv => let ⟨v', h1, h2⟩ := h.tmp t v hv; ⟨v', h1, h2.mono hle⟩, h.defers.mono hle⟩

/-- An operand's value. -/
def evA (G : Nat) (h : T AObj) (ts : T Value) (x : Operand) : Option Value :=
  match x with
  | .tmp t => ts.get t
  | .const v => cond (plainV v) (some v) none
  | .global g => match h.get g with | some _ => cond (Nat.ble (g + 1) G) (some (.pointer (some ⟨g, 0, none⟩))) none | none => none
  | .func f => some (.func (.func f) #[] #[])

theorem evA_ok {G : Nat} {ρ : Ren} {h : T AObj} {w : World} (hrs : RS G ρ h w) {A : AA} {a : Act} (ha : RA ρ A a) (x : Operand) (v : Value) (hx : evA G h A.ts x = some v) : VR ρ v (a.eval x) := by
  unfold evA at hx
  split at hx
  · rename_i t
    obtain ⟨v', h1, h2⟩ := ha.tmp t v hx
    have : a.eval (.tmp t) = v' := by simp [Act.eval, h1]
    rw [this]
    exact h2
  · rename_i u
    cases hp : plainV u with
    | false => rw [hp] at hx; cases hx
    | true =>
      rw [hp] at hx
      simp only [cond_true, Option.some.injEq] at hx
      subst hx
      exact .of_plain hp
  · rename_i g
    split at hx
    · rename_i o ho
      cases hb : Nat.ble (g + 1) G with
      | false => rw [hb] at hx; cases hx
      | true =>
        rw [hb] at hx
        have hb := Nat.le_of_ble_eq_true hb
        simp only [cond_true, Option.some.injEq] at hx
        subst hx
        obtain ⟨r, n, o', h1, _, _⟩ := hrs.obj g o ho
        have : r = g := hrs.glob g r n (by omega) h1
        subst this
        exact .ptr 0 h1
    · cases hx
  · simp only [Option.some.injEq] at hx
    subst hx
    exact .func _ _ _ _ _ rfl rfl rfl (by simp) (by simp)

/-- A slot is set. -/
def AA.put (A : AA) (dst : Option Nat) (v : Value) : Option AA :=
  match dst with
  | none => some A
  | some d => cond (Nat.ble (d + 1) A.n && ok d) (some { A with ts := A.ts.set deep d (some v) }) none

theorem put_ok {ρ : Ren} {A A' : AA} {a : Act} (ha : RA ρ A a) {dst : Option Nat} {v v' : Value} (hv : VR ρ v v') (hp : A.put dst v = some A') : RA ρ A' (a.put dst v') := by
  unfold AA.put at hp
  split at hp
  · simp only [Option.some.injEq] at hp
    subst hp
    exact ha
  · rename_i d
    cases hb : (Nat.ble (d + 1) A.n && ok d) with
    | false => rw [hb] at hp; cases hp
    | true =>
      rw [hb] at hp
      simp only [cond_true, Option.some.injEq] at hp
      subst hp
      rw [Bool.and_eq_true] at hb
      have hlt := Nat.le_of_ble_eq_true hb.1
      have hok := Nat.le_of_ble_eq_true hb.2
      refine ⟨by simpa [Act.put] using ha.size, fun t u hu => ?_, ha.defers⟩
      have hg : (A.ts.set deep d (some v)).get t = if t = d then some v else A.ts.get t := T.get_set _ _ _ _ _ (by simp only [deep]; omega)
      have hu' : (A.ts.set deep d (some v)).get t = some u := hu
      rw [hg] at hu'
      simp only [Act.put]
      by_cases e : t = d
      · subst e
        rw [if_pos rfl] at hu'
        cases hu'
        have : t < a.tmps.size := by rw [ha.size]; exact hlt
        exact ⟨v', by simp [this], hv⟩
      · rw [if_neg e] at hu'
        obtain ⟨u', h1, h2⟩ := ha.tmp t u hu'
        exact ⟨u', by rw [Array.getElem?_setIfInBounds_ne (Ne.symm e)]; exact h1, h2⟩

/-- What an operation leads to. -/
inductive AR where
  | next (A : AA) (s : St)
  | pan (v : Value) (A : AA) (s : St)

/-- One operation. 'call': how functions are called. -/
def operA (E : Env) (call : FuncId → List Value → St → Option (AE × St)) (fl : Nat) (o : Oper) (A : AA) (s : St) : Option AR :=
  match o.op with
  | .call { callee := .value f, args, argTypes := _ } =>
    match evA E.G s.h A.ts f, argsA (evA E.G s.h A.ts) args.toList with
    | some (.func (.func g) first cap), some vs =>
      match call g (first.toList ++ (vs ++ cap.toList)) s with
      | some (.ret v, s') => (A.put o.dst v).map fun A' => .next A' s'
      | some (.pan v, s') => some (.pan v A s')
      | none => none
    | _, _ => none
  | .defer { callee := .value f, args, argTypes := _ } =>
    match evA E.G s.h A.ts f, argsA (evA E.G s.h A.ts) args.toList with
    | some (.func (.func g) first cap), some vs => (({ A with defers := .fn g (first.toList ++ (vs ++ cap.toList)) :: A.defers } : AA).put o.dst undef).map fun A' => .next A' s
    | _, _ => none
  | .panic x =>
    match evA E.G s.h A.ts x with
    | some (.iface t v) => some (.pan (.iface t v) A s)
    | _ => none
  | op =>
    match opA E fl s op (evA E.G s.h A.ts) with
    | some (v, s') => (A.put o.dst v).map fun A' => .next A' s'
    | none => none

/-- A function may be entered. -/
structure FnOK (P : Program) (f : FuncId) (fn : Func) : Prop where
  at_ : P.funcs[f]? = some fn
  name : (fn.name == "runtime.NumGoroutine") = false
  body : fn.body.isNone = false

theorem run_enter {P : Program} {f : FuncId} {fn : Func} (h : FnOK P f fn) (args : Array Value) (w : World) : (callFunc f args).run P w = .ok (.enter f args) w := by
  have hn : fn.name ≠ "runtime.NumGoroutine" := by simpa using h.name
  have hb : fn.body ≠ none := fun e => by have := h.body; rw [e] at this; cases this
  simp [callFunc, h.at_, hn, hb]

/-- What holds behind a call. -/
def EPost (G fl : Nat) (ρ : Ren) (s : St) (w : World) (r : AE) (s' : St) : Ending → World → Prop := fun e w' =>
  ∃ ρ', (match r, e with
    | .ret v, .returned v' => VR ρ' v v'
    | .pan v, .panicked ch => ∃ v', ch = [{ v := v', recovered := false }] ∧ VR ρ' v v'
    | _, _ => False) ∧ RS G ρ' s'.h w' ∧ Tr fl ρ s w ρ' s' w'

/-- No number that is not given yet has a block. -/
def Fit (s : St) : Prop := ∀ i, s.nx ≤ i → s.h.get i = none

theorem Tr.fit {fl : Nat} {ρ ρ' : Ren} {s s' : St} {w w' : World} (h : Tr fl ρ s w ρ' s' w') (hf : Fit s) : Fit s' := fun i hi => by
  have := h.nx
  rw [h.hi i hi]; exact hf i (by omega)

/-- The interpreter's calls are the program's. -/
def CallOK (P : Program) (E : Env) (fl : Nat) (call : FuncId → List Value → St → Option (AE × St)) : Prop :=
  ∀ f args s r s', call f args s = some (r, s') → (∃ fn, FnOK P f fn) ∧ ∀ ρ w (args' : List Value), RS E.G ρ s.h w → fl ≤ s.nx → Fit s → Free ρ s.nx s'.nx → VRs ρ args args' → Calls P f args'.toArray w (EPost E.G fl ρ s w r s')

/-- What holds behind an operation. -/
def OPost (G fl : Nat) (ρ : Ren) (s : St) (w : World) (A' : AA) (s' : St) : Act → World → Prop := fun a' w' => ∃ ρ', RA ρ' A' a' ∧ RS G ρ' s'.h w' ∧ Tr fl ρ s w ρ' s' w'

def XPost (G fl : Nat) (ρ : Ren) (s : St) (w : World) (x : AX) (A' : AA) (s' : St) : Exit → Act → World → Prop := fun e a' w' =>
  ∃ ρ', (match x, e with
    | .normal, .normal => True
    | .exit id, .exit id' => id = id'
    | .ret, .ret => True
    | .pan v, .panic ch => ∃ v', ch = [{ v := v', recovered := false }] ∧ VR ρ' v v'
    | _, _ => False) ∧ RA ρ' A' a' ∧ RS G ρ' s'.h w' ∧ Tr fl ρ s w ρ' s' w'

section
variable {P : Program} {E : Env} (hE : EnvOK P E) {fl : Nat} {ρ : Ren} {s : St} {w : World} {call : FuncId → List Value → St → Option (AE × St)}

theorem arr3 (x y z : List Value) (f c : Array Value) (hx : f = x.toArray) (hz : c = z.toArray) : (f ++ y.toArray ++ c) = (x ++ (y ++ z)).toArray := by
  subst hx; subst hz
  apply Array.ext'
  simp

include hE in
/-- One operation is done as the interpreter says. -/
theorem operA_ok (hcall : CallOK P E fl call) (hrs : RS E.G ρ s.h w) (h1 : E.G ≤ fl) (h2 : fl ≤ s.nx) (hfit : Fit s) {A : AA} {a : Act} (ha : RA ρ A a) {o : Oper} {r : AR} (hp : operA E call fl o A s = some r)
    (hfree : Free ρ s.nx (match r with | .next _ s' => s'.nx | .pan _ _ s' => s'.nx)) {next : Act → World → Prop} {Q : Exit → Act → World → Prop}
    (hn : ∀ A' s', r = .next A' s' → ∀ a' w', OPost E.G fl ρ s w A' s' a' w' → next a' w') (hq : ∀ v A' s', r = .pan v A' s' → ∀ e a' w', XPost E.G fl ρ s w (.pan v) A' s' e a' w' → Q e a' w') : o.wp P a w next Q := by
  have hev := evA_ok hrs ha
  unfold operA at hp
  unfold Oper.wp
  split at hp
  · rename_i f args _ ho
    split at hp
    · rename_i g first cap vs hf hvs
      have hfv := hev _ _ hf
      have hav := argsA_ok hev _ _ hvs
      generalize hfe : a.eval f = fv at hfv
      cases hfv with
      | func _ _ f' _ c' hfn hfs hcs hf1 hc1 =>
        have hargs : VRs ρ (first.toList ++ (vs ++ cap.toList)) (f'.toList ++ (args.toList.map a.eval ++ c'.toList)) := by
          refine VRs.append ⟨by simpa using hfs, fun i v v' hv hv' => hf1 i v v' (by simpa using hv) (by simpa using hv')⟩ (hav.append ⟨by simpa using hcs, fun i v v' hv hv' => hc1 i v v' (by simpa using hv) (by simpa using hv')⟩)
        have hrun : ∀ fn, FnOK P g fn → (execOp a.eval o).run P w = .ok (.enter g (f'.toList ++ (args.toList.map a.eval ++ c'.toList)).toArray) w := fun fn hfn' => by
          have e : f' ++ args.map a.eval ++ c' = (f'.toList ++ (args.toList.map a.eval ++ c'.toList)).toArray := by
            rw [arrMap]
            exact arr3 _ _ _ _ _ (by simp) (by simp)
          have := run_enter hfn' (f' ++ args.map a.eval ++ c') w
          simp only [execOp, ho, resolve, hfe, Deferred.ofValue, Sem.run_bind, Sem.run_pure, Result.andThen_ok, invoke]
          rw [this, e]
        split at hp
        · rename_i v s' hc
          rw [Option.map_eq_some_iff] at hp
          obtain ⟨A', hput, rfl⟩ := hp
          obtain ⟨⟨fn, hfn'⟩, hcalls⟩ := hcall _ _ _ _ _ hc
          rw [hrun fn hfn', Oper.upon_enter]
          refine (hcalls ρ w _ hrs h2 hfit hfree hargs).mono fun e w' hpost => ?_
          obtain ⟨ρ', hm, hrs', htr⟩ := hpost
          cases e with
          | returned v' => exact hn _ _ rfl _ _ ⟨ρ', put_ok (ha.mono htr.le) hm hput, hrs', htr⟩
          | panicked ch => exact hm.elim
          | outgrown => exact hm.elim
        · rename_i v s' hc
          simp only [Option.some.injEq] at hp
          subst hp
          obtain ⟨⟨fn, hfn'⟩, hcalls⟩ := hcall _ _ _ _ _ hc
          rw [hrun fn hfn', Oper.upon_enter]
          refine (hcalls ρ w _ hrs h2 hfit hfree hargs).mono fun e w' hpost => ?_
          obtain ⟨ρ', hm, hrs', htr⟩ := hpost
          cases e with
          | returned v' => exact hm.elim
          | panicked ch => exact hq _ _ _ rfl _ _ _ ⟨ρ', hm, ha.mono htr.le, hrs', htr⟩
          | outgrown => exact hm.elim
        · cases hp
    · cases hp
  · rename_i f args _ ho
    split at hp
    · rename_i g first cap vs hf hvs
      have hfv := hev _ _ hf
      have hav := argsA_ok hev _ _ hvs
      generalize hfe : a.eval f = fv at hfv
      cases hfv with
      | func _ _ f' _ c' hfn hfs hcs hf1 hc1 =>
        have hargs : VRs ρ (first.toList ++ (vs ++ cap.toList)) (f'.toList ++ (args.toList.map a.eval ++ c'.toList)) := by
          refine VRs.append ⟨by simpa using hfs, fun i v v' hv hv' => hf1 i v v' (by simpa using hv) (by simpa using hv')⟩ (hav.append ⟨by simpa using hcs, fun i v v' hv hv' => hc1 i v v' (by simpa using hv) (by simpa using hv')⟩)
        rw [Option.map_eq_some_iff] at hp
        obtain ⟨A', hput, rfl⟩ := hp
        have hrun : (execOp a.eval o).run P w = .ok (.defer { target := .fn (.func g) c', args := f' ++ args.map a.eval }) w := by
          simp [execOp, ho, resolve, hfe, Deferred.ofValue]
        rw [hrun, Oper.upon_defer]
        refine hn _ _ rfl _ _ ⟨ρ, put_ok ?_ (undefVR ρ) hput, hrs, .refl _ _ _ _⟩
        refine ⟨ha.size, ha.tmp, .cons (.fn _ _ c' (f' ++ args.map a.eval) ?_) ha.defers⟩
        have e : (f' ++ args.map a.eval ++ c').toList = f'.toList ++ (args.toList.map a.eval ++ c'.toList) := by simp
        rw [e]
        exact hargs
    · cases hp
  · rename_i x ho
    split at hp
    · rename_i t v hx
      simp only [Option.some.injEq] at hp
      subst hp
      have hxv := hev _ _ hx
      generalize hxe : a.eval x = xv at hxv
      cases hxv with
      | iface _ hv =>
        rename_i v'
        have hrun : (execOp a.eval o).run P w = .halt (.panic (.iface t v')) w := by
          simp [execOp, ho, hxe, Instr.panic, goPanic, Sem.run, Result.andThen]
        rw [hrun, Oper.upon_panic]
        exact hq _ _ _ rfl _ _ _ ⟨ρ, ⟨.iface t v', rfl, .iface t hv⟩, ha, hrs, .refl _ _ _ _⟩
    · cases hp
  · split at hp
    · rename_i v s' hop
      rw [Option.map_eq_some_iff] at hp
      obtain ⟨A', hput, rfl⟩ := hp
      obtain ⟨n, v', w', hrun, hlv, ρ', hrs', htr, hvv⟩ := opA_ok hE hrs h1 h2 hev hop hfree
      rw [hrun]
      rcases hlv with rfl | ⟨rfl, rfl⟩
      · exact hn _ _ rfl _ _ ⟨ρ', put_ok (ha.mono htr.le) hvv hput, hrs', htr⟩
      · exact hn _ _ rfl _ _ ⟨ρ', put_ok (ha.mono htr.le) hvv hput, hrs', htr⟩
    · cases hp

/-- The value of an operation that neither defers nor panics. -/
def valA (E : Env) (call : FuncId → List Value → St → Option (AE × St)) (fl : Nat) (o : Op) (ev : Operand → Option Value) (s : St) : Option (Value × St) :=
  match o with
  | .call { callee := .value f, args, argTypes := _ } =>
    match ev f, argsA ev args.toList with
    | some (.func (.func g) first cap), some vs =>
      match call g (first.toList ++ (vs ++ cap.toList)) s with
      | some (.ret v, s') => some (v, s')
      | _ => none
    | _, _ => none
  | op => opA E fl s op ev

include hE in
theorem valA_ok (hcall : CallOK P E fl call) (hrs : RS E.G ρ s.h w) (h1 : E.G ≤ fl) (h2 : fl ≤ s.nx) (hfit : Fit s) {a : Act} {ev : Operand → Option Value} (hev : ∀ x v, ev x = some v → VR ρ v (a.eval x)) {o : Oper} {v : Value} {s' : St} (hp : valA E call fl o.op ev s = some (v, s'))
    (hfree : Free ρ s.nx s'.nx) {next : Act → World → Prop} {Q : Exit → Act → World → Prop}
    (hn : ∀ v' w', Post E.G fl ρ s w v s' v' w' → next (a.put o.dst v') w') : o.wp P a w next Q := by
  unfold valA at hp
  unfold Oper.wp
  split at hp
  · rename_i f args _ ho
    split at hp
    · rename_i g first cap vs hf hvs
      have hfv := hev _ _ hf
      have hav := argsA_ok hev _ _ hvs
      generalize hfe : a.eval f = fv at hfv
      cases hfv with
      | func _ _ f' _ c' hfn hfs hcs hf1 hc1 =>
        have hargs : VRs ρ (first.toList ++ (vs ++ cap.toList)) (f'.toList ++ (args.toList.map a.eval ++ c'.toList)) := by
          refine VRs.append ⟨by simpa using hfs, fun i v v' hv hv' => hf1 i v v' (by simpa using hv) (by simpa using hv')⟩ (hav.append ⟨by simpa using hcs, fun i v v' hv hv' => hc1 i v v' (by simpa using hv) (by simpa using hv')⟩)
        have hrun : ∀ fn, FnOK P g fn → (execOp a.eval o).run P w = .ok (.enter g (f'.toList ++ (args.toList.map a.eval ++ c'.toList)).toArray) w := fun fn hfn' => by
          have e : f' ++ args.map a.eval ++ c' = (f'.toList ++ (args.toList.map a.eval ++ c'.toList)).toArray := by
            rw [arrMap]
            exact arr3 _ _ _ _ _ (by simp) (by simp)
          have := run_enter hfn' (f' ++ args.map a.eval ++ c') w
          simp only [execOp, ho, resolve, hfe, Deferred.ofValue, Sem.run_bind, Sem.run_pure, Result.andThen_ok, invoke]
          rw [this, e]
        split at hp
        · rename_i u s1 hc
          simp only [Option.some.injEq, Prod.mk.injEq] at hp
          obtain ⟨rfl, rfl⟩ := hp
          obtain ⟨⟨fn, hfn'⟩, hcalls⟩ := hcall _ _ _ _ _ hc
          rw [hrun fn hfn', Oper.upon_enter]
          refine (hcalls ρ w _ hrs h2 hfit hfree hargs).mono fun e w' hpost => ?_
          obtain ⟨ρ', hm, hrs', htr⟩ := hpost
          cases e with
          | returned v' => exact hn _ _ ⟨ρ', hrs', htr, hm⟩
          | panicked ch => exact hm.elim
          | outgrown => exact hm.elim
        · cases hp
    · cases hp
  · obtain ⟨n, v', w', hrun, hlv, hpost⟩ := opA_ok hE hrs h1 h2 hev hp hfree
    rw [hrun]
    rcases hlv with rfl | ⟨rfl, rfl⟩
    · exact hn _ _ hpost
    · exact hn _ _ hpost

end
end Go.Ev
