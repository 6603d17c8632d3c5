/- A checked interpreter for closed calls, part 25: code and calls. -/
import Derived.Test.YthdjebomeibngaaGreatDoorEvXd
import Derived.LoopNIn
namespace Go.Ev
open Go Go.MapKept

/-- What the interpreter is told besides: calls that are known by themselves. 'ext f args h' is the result of a call that leaves memory as it is. -/
structure Lib where
  ext : FuncId → List Value → T AObj → Option Value

/-- Reads a result. -/
def resA (E : Env) (h : T AObj) (A : AA) : List ResultVar → Option (List Value)
  | [] => some []
  | .tmp t :: rest => match A.ts.get t, resA E h A rest with | some v, some l => some (v :: l) | _, _ => none
  | .cell p t :: rest =>
    match A.ts.get p with
    | some (.pointer (some ⟨b, o, none⟩)) => match loadV E h t b o, resA E h A rest with | some v, some l => some (v :: l) | _, _ => none
    | _ => none

def oneOf : List Value → Value
  | [v] => v
  | l => .tuple l.toArray

def argT : List Value → Nat → T Value → T Value
  | [], _, t => t
  | v :: rest, i, t => argT rest (i + 1) (t.set deep i (some v))

/-- Deferred calls, the last one first. -/
def evLeaves (fl : Nat) (dcall : FuncId → List Value → St → AM → Option (St × AM)) : List AD → St → AM → Option (St × AM)
  | [], s, m => some (s, m)
  | .fn f args :: ds, s, m =>
    match dcall f args s m with
    | some (s1, m1) => evLeaves fl dcall ds s1 (settleA m1)
    | none => none
  | .coll b :: ds, s, m =>
    match s.h.get b with
    | some .marks => cond (ok b && Nat.ble fl b && Nat.ble (b + 1) s.nx) (evLeaves fl dcall ds (s.put b none) m) none
    | _ => none

/-- One deferred call. -/
def evDef (E : Env) (code : Code → AA → St → Option (AX × AA × St)) (call : FuncId → List Value → St → Option (AE × St)) (fl : Nat) (f : FuncId) (args : List Value) (s : St) (m : AM) : Option (St × AM) :=
  match E.ft f with
  | some fn =>
    match fn.body with
    | some c =>
      cond (Nat.ble args.length fn.ntmps && Nat.ble fn.ntmps 1000000)
        (match evS E code call fl c { ts := argT args 0 .e, n := fn.ntmps, defers := [] } s m with
         | some (.normal, A1, s1, m1) => cond (A1.defers.isEmpty) (match resA E s1.h A1 fn.results.toList with | some _ => some (s1, m1) | none => none) none
         | some (.ret, A1, s1, m1) => cond (A1.defers.isEmpty) (match resA E s1.h A1 fn.results.toList with | some _ => some (s1, m1) | none => none) none
         | _ => none)
        none
    | none => none
  | none => none

/-- What a call comes to when its code is through. -/
def evEnd (E : Env) (code : Code → AA → St → Option (AX × AA × St)) (call : FuncId → List Value → St → Option (AE × St)) (fl : Nat) (fn : Func) (A1 : AA) (s1 : St) (m : AM) : Option (AE × St) :=
  match evLeaves fl (evDef E code call fl) A1.defers s1 m with
  | some (s2, .ret) => (resA E s2.h A1 fn.results.toList).map fun l => (.ret (oneOf l), s2)
  | some (s2, .pan v) => some (.pan v, s2)
  | _ => none

mutual
/-- Code; 'rd': the loop of whose rounds it is. -/
def evCode (E : Env) (L : Lib) : Nat → Nat → Option Nat → Code → AA → St → Option (AX × AA × St)
  | 0, _, _, _, _, _ => none
  | n + 1, fl, rd, c, A, s =>
    match c with
    | .skip => some (.normal, A, s)
    | .label _ => some (.normal, A, s)
    | .ret => some (.ret, A, s)
    | .exit id => some (.exit id, A, s)
    | .seq x y =>
      match evCode E L n fl rd x A s with
      | some (.normal, A1, s1) => evCode E L n fl rd y A1 s1
      | r => r
    | .cond c x y =>
      match evA E.G s.h A.ts c with
      | some (.bool t) => evCode E L n fl rd (cond t x y) A s
      | _ => none
    | .block id b =>
      match evCode E L n fl rd b A s with
      | some (.exit j, A1, s1) => some (cond (Nat.beq j id) .normal (.exit j), A1, s1)
      | r => r
    | .loop b =>
      match evCode E L n fl rd b A s with
      | some (.normal, A1, s1) => evCode E L n fl rd (.loop b) A1 s1
      | r => r
    | .region _ ops false => cond (rd.isNone || ops.toList.all noDefO) (evOpsY E (fun f args s => evCall E L n fl f args s) (fun b vs s => evYield E L n fl b vs s) fl ops ops.toList A s) none
    | .scope c => cond rd.isNone (evCode E L n fl rd c A s) none
    | .region _ ops true => cond (rd.isNone || ops.toList.all noDefO) (evDraw3 E (fun fi f args s => evCall E L n fi f args s) (fun b vs s => evYield E L n fl b vs s) fl ops A s) none
    | .rangeFunc g ps assign body =>
      match evA E.G s.h A.ts g with
      | some (.func (.func gf) first cap) =>
        match enterA rd s with
        | some (D, mk, s0) =>
          cond (ok s0.nx)
            (match evCall E L n fl gf (first.toList ++ (.func (.yield s0.nx) #[] #[] :: cap.toList)) { s0.put s0.nx (some (.loop .ready none A.ts A.n ps.toList assign body D)) with nx := s0.nx + 1 } with
             | some (.ret _, s2) =>
               match s2.h.get s0.nx with
               | some (.loop st pe _ _ _ _ _ _) =>
                 cond (notBusy st)
                   (match pe with
                    | none => some (.normal, { A with defers := mk ++ A.defers }, s2.put s0.nx none)
                    | some c => evCode E L n fl rd c { A with defers := mk ++ A.defers } (s2.put s0.nx none))
                   none
               | _ => none
             | some (.pan v, s2) => some (.pan v, { A with defers := mk ++ A.defers }, s2)
             | none => none)
            none
        | none => none
      | _ => none
    | _ => none
termination_by structural n => n

/-- A call. -/
def evCall (E : Env) (L : Lib) : Nat → Nat → FuncId → List Value → St → Option (AE × St)
  | 0, _, _, _, _ => none
  | n + 1, fl, f, args, s =>
    match L.ext f args s.h with
    | some v => some (.ret v, s)
    | none =>
      match E.ft f with
      | some fn =>
        match fn.body with
        | some c =>
          cond (Nat.ble args.length fn.ntmps && Nat.ble fn.ntmps 1000000)
            (match evCode E L n fl none c { ts := argT args 0 .e, n := fn.ntmps, defers := [] } s with
             | some (.normal, A1, s1) => evEnd E (fun c A s => evCode E L n fl none c A s) (fun f args s => evCall E L n fl f args s) fl fn A1 s1 .ret
             | some (.ret, A1, s1) => evEnd E (fun c A s => evCode E L n fl none c A s) (fun f args s => evCall E L n fl f args s) fl fn A1 s1 .ret
             | some (.pan v, A1, s1) => evEnd E (fun c A s => evCode E L n fl none c A s) (fun f args s => evCall E L n fl f args s) fl fn A1 s1 (.pan v)
             | _ => none)
            none
        | none => none
      | none => none
termination_by structural n => n

/-- A round. -/
def evYield (E : Env) (L : Lib) : Nat → Nat → Nat → List Value → St → Option (AE × St)
  | 0, _, _, _, _ => none
  | n + 1, fl, b, vs, s =>
    match s.h.get b with
    | some (.loop _ _ ts c ps assign body _) =>
      match bindPs ps vs { ts, n := c, defers := [] } with
      | some A0 =>
        match evCode E L n fl (some b) assign A0 s with
        | some (.normal, A1, s1) =>
          match s1.h.get b with
          | some (.loop .ready pe ts2 c2 ps2 as2 bo2 D2) =>
            cond (ok b && Nat.ble fl b && Nat.ble (b + 1) s.nx)
              (match evCode E L n fl (some b) body A1 (s1.put b (some (.loop .busy pe ts2 c2 ps2 as2 bo2 D2))) with
               | some (.normal, _, s3) => endR none b s3
               | some (.ret, _, s3) => endR (some .ret) b s3
               | some (.exit id, _, s3) => endR (some (.exit id)) b s3
               | _ => none)
              none
          | _ => none
        | _ => none
      | none => none
    | _ => none
termination_by structural n => n
end

theorem evLeaves_nx {fl : Nat} {dcall : FuncId → List Value → St → AM → Option (St × AM)} (hd : ∀ f args s m s' m', dcall f args s m = some (s', m') → s.nx ≤ s'.nx) : ∀ (l : List AD) (s : St) (m : AM) (s' : St) (m' : AM), evLeaves fl dcall l s m = some (s', m') → s.nx ≤ s'.nx
  | [], s, m, s', m', h => by simp [evLeaves] at h; rw [h.1]; exact Nat.le_refl _
  | .fn _ _ :: ds, s, m, s', m', h => by
    unfold evLeaves at h
    split at h
    · rename_i s1 m1 h1
      exact Nat.le_trans (hd _ _ _ _ _ _ h1) (evLeaves_nx hd ds _ _ _ _ h)
    · cases h
  | .coll _ :: ds, s, m, s', m', h => by
    unfold evLeaves at h
    split at h
    · rcases cond_some h with ⟨_, h⟩ | ⟨_, h⟩
      · exact evLeaves_nx hd ds (s.put _ none) _ _ _ h
      · cases h
    · cases h

theorem evDef_nx {E : Env} {code : Code → AA → St → Option (AX × AA × St)} {call : FuncId → List Value → St → Option (AE × St)} {fl : Nat} (hup : CallUp call) (hcode : ∀ c A s x A' s', code c A s = some (x, A', s') → s.nx ≤ s'.nx) (f : FuncId) (args : List Value) (s : St) (m : AM) (s' : St) (m' : AM)
    (h : evDef E code call fl f args s m = some (s', m')) : s.nx ≤ s'.nx := by
  unfold evDef at h
  split at h
  · split at h
    · rcases cond_some h with ⟨_, h⟩ | ⟨_, h⟩
      · split at h
        · rename_i A1 s1 m1 h1
          rcases cond_some h with ⟨_, h⟩ | ⟨_, h⟩
          · split at h
            · simp only [Option.some.injEq, Prod.mk.injEq] at h
              rw [← h.1]
              exact evS_nx hup hcode _ _ _ _ _ _ _ _ h1
            · cases h
          · cases h
        · rename_i A1 s1 m1 h1
          rcases cond_some h with ⟨_, h⟩ | ⟨_, h⟩
          · split at h
            · simp only [Option.some.injEq, Prod.mk.injEq] at h
              rw [← h.1]
              exact evS_nx hup hcode _ _ _ _ _ _ _ _ h1
            · cases h
          · cases h
        · cases h
      · cases h
    · cases h
  · cases h

theorem evEnd_nx {E : Env} {code : Code → AA → St → Option (AX × AA × St)} {call : FuncId → List Value → St → Option (AE × St)} {fl : Nat} (hup : CallUp call) (hcode : ∀ c A s x A' s', code c A s = some (x, A', s') → s.nx ≤ s'.nx) {fn : Func} {A1 : AA} {s1 : St} {m : AM} {r : AE} {s' : St}
    (h : evEnd E code call fl fn A1 s1 m = some (r, s')) : s1.nx ≤ s'.nx := by
  unfold evEnd at h
  split at h
  · rename_i s2 h1
    rw [Option.map_eq_some_iff] at h
    obtain ⟨l, _, e⟩ := h
    simp only [Prod.mk.injEq] at e
    rw [← e.2]
    exact evLeaves_nx (evDef_nx hup hcode) _ _ _ _ _ h1
  · rename_i s2 v h1
    simp only [Option.some.injEq, Prod.mk.injEq] at h
    rw [← h.2]
    exact evLeaves_nx (evDef_nx hup hcode) _ _ _ _ _ h1
  · cases h

/-- What is told of the library is so. -/
def LibOK (P : Program) (E : Env) (L : Lib) : Prop := ∀ f args h v, L.ext f args h = some v → plainV v = true ∧ (∃ fn, FnOK P f fn) ∧
  ∀ (ρ : Ren) (w : World) (args' : List Value), RS E.G ρ h w → VRs ρ args args' → Calls P f args'.toArray w fun e w' => e = .returned v ∧ RowKit.Below w.heap.size w w'

section
variable {P : Program} {E : Env} {L : Lib}

theorem ev_nx : ∀ (n : Nat), (∀ fl rd c A s x A' s', evCode E L n fl rd c A s = some (x, A', s') → s.nx ≤ s'.nx) ∧ (∀ fl, CallUp (evCall E L n fl)) ∧ (∀ fl, YieldUp (evYield E L n fl)) := by
  intro n
  induction n with
  | zero => exact ⟨fun fl rd c A s x A' s' h => by simp [evCode] at h, fun fl f args s r s' h => by simp [evCall] at h, fun fl f args s r s' h => by simp [evYield] at h⟩
  | succ n ih =>
    obtain ⟨ihc, ihf, ihy⟩ := ih
    refine ⟨fun fl rd c A s x A' s' h => ?_, fun fl f args s r s' h => ?_, fun fl b vs s r s' h => ?_⟩
    · unfold evCode at h
      split at h
      · simp only [Option.some.injEq, Prod.mk.injEq] at h; rw [h.2.2]; exact Nat.le_refl _
      · simp only [Option.some.injEq, Prod.mk.injEq] at h; rw [h.2.2]; exact Nat.le_refl _
      · simp only [Option.some.injEq, Prod.mk.injEq] at h; rw [h.2.2]; exact Nat.le_refl _
      · simp only [Option.some.injEq, Prod.mk.injEq] at h; rw [h.2.2]; exact Nat.le_refl _
      · split at h
        · rename_i A1 s1 h1
          exact Nat.le_trans (ihc _ _ _ _ _ _ _ _ h1) (ihc _ _ _ _ _ _ _ _ h)
        · exact ihc _ _ _ _ _ _ _ _ h
      · split at h
        · exact ihc _ _ _ _ _ _ _ _ h
        · cases h
      · split at h
        · rename_i j A1 s1 h1
          simp only [Option.some.injEq, Prod.mk.injEq] at h
          rw [← h.2.2]
          exact ihc _ _ _ _ _ _ _ _ h1
        · exact ihc _ _ _ _ _ _ _ _ h
      · split at h
        · rename_i A1 s1 h1
          exact Nat.le_trans (ihc _ _ _ _ _ _ _ _ h1) (ihc _ _ _ _ _ _ _ _ h)
        · exact ihc _ _ _ _ _ _ _ _ h
      · rcases cond_some h with ⟨_, h⟩ | ⟨_, h⟩
        · exact evOpsY_nx (ihf fl) (ihy fl) _ _ _ _ _ _ h
        · cases h
      · rcases cond_some h with ⟨_, h⟩ | ⟨_, h⟩
        · exact ihc _ _ _ _ _ _ _ _ h
        · cases h
      · rcases cond_some h with ⟨_, h⟩ | ⟨_, h⟩
        · exact evDraw3_nx (fun fi => ihf fi) (ihy fl) h
        · cases h
      · split at h
        · split at h
          · rename_i D mk s0 h0
            have k0 := enterA_nx h0
            rcases cond_some h with ⟨_, h⟩ | ⟨_, h⟩
            · split at h
              · rename_i v s2 h2
                have k2 := ihf _ _ _ _ _ _ h2
                simp only at k2
                split at h
                · rcases cond_some h with ⟨_, h⟩ | ⟨_, h⟩
                  · split at h
                    · simp only [Option.some.injEq, Prod.mk.injEq] at h
                      rw [← h.2.2, St.put_nx]; omega
                    · have := ihc _ _ _ _ _ _ _ _ h
                      rw [St.put_nx] at this; omega
                  · cases h
                · cases h
              · rename_i v s2 h2
                have k2 := ihf _ _ _ _ _ _ h2
                simp only at k2
                simp only [Option.some.injEq, Prod.mk.injEq] at h
                rw [← h.2.2]; omega
              · cases h
            · cases h
          · cases h
        · cases h
      · cases h
    · unfold evCall at h
      split at h
      · simp only [Option.some.injEq, Prod.mk.injEq] at h; rw [h.2]; exact Nat.le_refl _
      · split at h
        · split at h
          · rcases cond_some h with ⟨_, h⟩ | ⟨_, h⟩
            · split at h
              · rename_i A1 s1 h1
                exact Nat.le_trans (ihc _ _ _ _ _ _ _ _ h1) (evEnd_nx (ihf fl) (fun c A s x A' s' => ihc fl none c A s x A' s') h)
              · rename_i A1 s1 h1
                exact Nat.le_trans (ihc _ _ _ _ _ _ _ _ h1) (evEnd_nx (ihf fl) (fun c A s x A' s' => ihc fl none c A s x A' s') h)
              · rename_i v A1 s1 h1
                exact Nat.le_trans (ihc _ _ _ _ _ _ _ _ h1) (evEnd_nx (ihf fl) (fun c A s x A' s' => ihc fl none c A s x A' s') h)
              · cases h
            · cases h
          · cases h
        · cases h
    · unfold evYield at h
      split at h
      · split at h
        · split at h
          · rename_i A1 s1 h1
            have k1 := ihc _ _ _ _ _ _ _ _ h1
            split at h
            · rcases cond_some h with ⟨_, h⟩ | ⟨_, h⟩
              · split at h
                all_goals first
                  | cases h
                  | (rename_i h3
                     have k3 := ihc _ _ _ _ _ _ _ _ h3
                     rw [St.put_nx] at k3
                     have k4 := endR_nx h
                     omega)
              · cases h
            · cases h
          · cases h
        · cases h
      · cases h

theorem roundsIn_mono {F : Fence} {m : Nat} {c : Code} {Q Q' : Exit → Act → World → Prop} (hq : ∀ e a w, Q e a w → Q' e a w) : ∀ (n : Nat) (a : Act) (w : World), Code.roundsIn F m P c Q n a w → Code.roundsIn F m P c Q' n a w
  | 0, _, _, h => h.elim
  | n + 1, a, w, h => by
    rw [roundsIn_succ] at h ⊢
    refine wpIn_mono h fun e a w he => ?_
    cases e with
    | normal => exact roundsIn_mono hq n a w he
    | _ => exact hq _ _ _ he

/-- Arguments. -/
theorem argT_get : ∀ (l : List Value) (i : Nat) (t : T Value) (k : Nat) (v : Value), i + l.length ≤ 1000000 → (argT l i t).get k = some v → (∃ j, k = i + j ∧ l[j]? = some v) ∨ ((k < i ∨ i + l.length ≤ k) ∧ t.get k = some v)
  | [], i, t, k, v, _, h => by
    refine .inr ⟨?_, h⟩
    simp
    omega
  | x :: l, i, t, k, v, hn, h => by
    unfold argT at h
    simp only [List.length_cons] at hn
    rcases argT_get l (i + 1) _ k v (by omega) h with ⟨j, h1, h2⟩ | ⟨h1, h2⟩
    · exact .inl ⟨j + 1, by omega, by simpa using h2⟩
    · rw [T.get_set _ _ _ _ _ (by simp only [deep]; omega)] at h2
      by_cases e : k = i
      · rw [if_pos e] at h2
        cases h2
        exact .inl ⟨0, by omega, rfl⟩
      · rw [if_neg e] at h2
        exact .inr ⟨by simp only [List.length_cons]; omega, h2⟩

theorem enter_ok {ρ : Ren} {args args' : List Value} (h : VRs ρ args args') {n : Nat} (hn : args.length ≤ n) (hb : n ≤ 1000000) :
    RA ρ { ts := argT args 0 .e, n, defers := [] } { tmps := args'.toArray ++ Array.replicate (n - args'.toArray.size) undef, defers := [] } := by
  refine ⟨?_, fun t v hv => ?_, .nil⟩
  · have := h.1
    simp
    omega
  · rcases argT_get args 0 .e t v (by omega) hv with ⟨j, h1, h2⟩ | ⟨_, h2⟩
    · rw [Nat.zero_add] at h1
      subst h1
      obtain ⟨v', h3, h4⟩ := h.get h2
      refine ⟨v', ?_, h4⟩
      have hlt : t < args'.length := by
        rcases Nat.lt_or_ge t args'.length with h' | h'
        · exact h'
        · rw [List.getElem?_eq_none h'] at h3; cases h3
      rw [Array.getElem?_append_left (by simpa using hlt)]
      simpa using h3
    · simp [T.get] at h2

end
end Go.Ev
