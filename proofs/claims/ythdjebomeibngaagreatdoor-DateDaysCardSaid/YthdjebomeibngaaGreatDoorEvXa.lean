/- A checked interpreter for closed calls, part 24a: deferred calls, and what they catch. -/
import Derived.Test.YthdjebomeibngaaGreatDoorEvX
namespace Go.Ev
open Go Go.MapKept

/-- How a function is being left: with its results, with a panic, or with one that has been caught. -/
inductive AM where
  | ret
  | pan (v : Value)
  | caught (v : Value)

def MR (ρ : Ren) (m : AM) (u : FrameMode) : Prop :=
  match m with
  | .ret => u = .returning
  | .pan v => ∃ v', u = .panicking [{ v := v', recovered := false }] ∧ VR ρ v v'
  | .caught v => ∃ v', u = .panicking [{ v := v', recovered := true }] ∧ VR ρ v v'

theorem MR.mono {ρ ρ' : Ren} (hle : Le ρ ρ') {m : AM} {u : FrameMode} (h : MR ρ m u) : MR ρ' m u := by
  cases m with
  | ret => exact h
  | pan v => obtain ⟨v', h1, h2⟩ := h; exact ⟨v', h1, h2.mono hle⟩
  | caught v => obtain ⟨v', h1, h2⟩ := h; exact ⟨v', h1, h2.mono hle⟩

def isRecover (o : Op) : Bool :=
  match o with
  | .call { callee := .builtin .recover, args, argTypes := _ } => args.isEmpty
  | _ => false

def evOpsS (E : Env) (call : FuncId → List Value → St → Option (AE × St)) (fl : Nat) (ops : Array Oper) : List Oper → AA → St → AM → Option (AX × AA × St × AM)
  | [], A, s, m => some (.normal, A, s, m)
  | o :: rest, A, s, m =>
    match guardA ops A.ts o with
    | some true =>
      cond (isRecover o.op)
        (match m with
         | .pan v => match A.put o.dst v with | some A' => evOpsS E call fl ops rest A' s (.caught v) | none => none
         | m => match A.put o.dst .nilIface with | some A' => evOpsS E call fl ops rest A' s m | none => none)
        (match operA E call fl o A s with
         | some (.next A' s') => evOpsS E call fl ops rest A' s' m
         | _ => none)
    | some false => match A.put o.dst undef with | some A' => evOpsS E call fl ops rest A' s m | none => none
    | none => none

def evS (E : Env) (code : Code → AA → St → Option (AX × AA × St)) (call : FuncId → List Value → St → Option (AE × St)) (fl : Nat) : Code → AA → St → AM → Option (AX × AA × St × AM)
  | .seq x y, A, s, m =>
    match evS E code call fl x A s m with
    | some (.normal, A1, s1, m1) => evS E code call fl y A1 s1 m1
    | r => r
  | .cond c x y, A, s, m =>
    match evA E.G s.h A.ts c with
    | some (.bool true) => evS E code call fl x A s m
    | some (.bool false) => evS E code call fl y A s m
    | _ => none
  | .region _ ops false, A, s, m => evOpsS E call fl ops ops.toList A s m
  | c, A, s, m => match code c A s with | some (x, A', s') => some (x, A', s', m) | none => none

def settleA : AM → AM
  | .caught _ => .ret
  | m => m

theorem settle_ok {ρ : Ren} {m : AM} {u : FrameMode} (h : MR ρ m u) : MR ρ (settleA m) (settle u) := by
  cases m with
  | ret => have : u = .returning := h; subst this; rfl
  | pan v => obtain ⟨v', rfl, h2⟩ := h; exact ⟨v', rfl, h2⟩
  | caught v => obtain ⟨v', rfl, h2⟩ := h; rfl

def XPostS (G fl : Nat) (ρ : Ren) (s : St) (w : World) (x : AX) (A' : AA) (s' : St) (m' : AM) (c₀ : Frame) (cs : List Frame) : Exit → Act → List Frame → World → Prop := fun e a' cs' w' =>
  ∃ ρ' u', (match x, e with
    | .normal, .normal => True
    | .exit id, .exit id' => id = id'
    | .ret, .ret => True
    | .pan v, .panic ch => ∃ v', ch = [{ v := v', recovered := false }] ∧ VR ρ' v v'
    | _, _ => False) ∧ RA ρ' A' a' ∧ RS G ρ' s'.h w' ∧ Tr fl ρ s w ρ' s' w' ∧ cs' = { c₀ with mode := u' } :: cs ∧ MR ρ' m' u'

section
variable {P : Program} {E : Env} (hE : EnvOK P E) {fl : Nat} {call : FuncId → List Value → St → Option (AE × St)} {code : Code → AA → St → Option (AX × AA × St)}

theorem XPostS.trans {G : Nat} {ρ ρ₁ : Ren} {s s₁ s' : St} {w w₁ : World} {x : AX} {A' : AA} {m' : AM} {c₀ : Frame} {cs : List Frame} (ht : Tr fl ρ s w ρ₁ s₁ w₁) {e : Exit} {a' : Act} {cs' : List Frame} {w' : World}
    (h : XPostS G fl ρ₁ s₁ w₁ x A' s' m' c₀ cs e a' cs' w') : XPostS G fl ρ s w x A' s' m' c₀ cs e a' cs' w' := by
  obtain ⟨ρ', u', hm, ha, hr, ht', h1, h2⟩ := h
  exact ⟨ρ', u', hm, ha, hr, ht.trans ht', h1, h2⟩

theorem evOpsS_nx (hup : CallUp call) {ops : Array Oper} : ∀ (l : List Oper) (A : AA) (s : St) (m : AM) (x : AX) (A' : AA) (s' : St) (m' : AM), evOpsS E call fl ops l A s m = some (x, A', s', m') → s.nx ≤ s'.nx
  | [], A, s, m, x, A', s', m', h => by simp [evOpsS] at h; rw [h.2.2.1]; exact Nat.le_refl _
  | o :: rest, A, s, m, x, A', s', m', h => by
    unfold evOpsS at h
    split at h
    · rcases cond_some h with ⟨_, h⟩ | ⟨_, h⟩
      · split at h
        · split at h
          · exact evOpsS_nx hup rest _ _ _ _ _ _ _ h
          · cases h
        · split at h
          · exact evOpsS_nx hup rest _ _ _ _ _ _ _ h
          · cases h
      · split at h
        · rename_i A1 s1 hop
          have h1 := operA_nx hup hop
          exact Nat.le_trans h1 (evOpsS_nx hup rest _ _ _ _ _ _ _ h)
        · cases h
    · split at h
      · exact evOpsS_nx hup rest _ _ _ _ _ _ _ h
      · cases h
    · cases h

theorem evS_nx (hup : CallUp call) (hcode : ∀ c A s x A' s', code c A s = some (x, A', s') → s.nx ≤ s'.nx) : ∀ (c : Code) (A : AA) (s : St) (m : AM) (x : AX) (A' : AA) (s' : St) (m' : AM), evS E code call fl c A s m = some (x, A', s', m') → s.nx ≤ s'.nx := by
  intro c
  have other : ∀ {c : Code} {A : AA} {s : St} {m : AM} {x : AX} {A' : AA} {s' : St} {m' : AM}, (match code c A s with | some (x, A', s') => some (x, A', s', m) | none => none) = some (x, A', s', m') → s.nx ≤ s'.nx := by
    intro c A s m x A' s' m' h
    split at h
    · rename_i x1 A1 s1 hc
      simp only [Option.some.injEq, Prod.mk.injEq] at h
      rw [← h.2.2.1]
      exact hcode _ _ _ _ _ _ hc
    · cases h
  induction c with
  | seq x y ihx ihy =>
    intro A s m x' A' s' m' h
    simp only [evS] at h
    split at h
    · rename_i A1 s1 m1 h1
      exact Nat.le_trans (ihx _ _ _ _ _ _ _ h1) (ihy _ _ _ _ _ _ _ h)
    · exact ihx _ _ _ _ _ _ _ h
  | cond c x y ihx ihy =>
    intro A s m x' A' s' m' h
    simp only [evS] at h
    split at h
    · exact ihx _ _ _ _ _ _ _ h
    · exact ihy _ _ _ _ _ _ _ h
    · cases h
  | region id ops draw =>
    intro A s m x' A' s' m' h
    cases draw with
    | false => simp only [evS] at h; exact evOpsS_nx hup _ _ _ _ _ _ _ _ h
    | true => simp only [evS] at h; exact other h
  | skip => intro A s m x' A' s' m' h; simp only [evS] at h; exact other h
  | block _ _ _ => intro A s m x' A' s' m' h; simp only [evS] at h; exact other h
  | loop _ _ => intro A s m x' A' s' m' h; simp only [evS] at h; exact other h
  | rangeFunc _ _ _ _ _ _ => intro A s m x' A' s' m' h; simp only [evS] at h; exact other h
  | exit _ => intro A s m x' A' s' m' h; simp only [evS] at h; exact other h
  | scope _ _ => intro A s m x' A' s' m' h; simp only [evS] at h; exact other h
  | label _ => intro A s m x' A' s' m' h; simp only [evS] at h; exact other h
  | goto _ => intro A s m x' A' s' m' h; simp only [evS] at h; exact other h
  | ret => intro A s m x' A' s' m' h; simp only [evS] at h; exact other h
  | refuse _ => intro A s m x' A' s' m' h; simp only [evS] at h; exact other h

include hE in
theorem evOpsS_ok (hcall : CallOK P E fl call) (hup : CallUp call) (h1 : E.G ≤ fl) {ops : Array Oper} {c₀ : Frame} {cs : List Frame} : ∀ (l : List Oper) (k : Nat) (A : AA) (s : St) (m : AM) (x : AX) (A' : AA) (s' : St) (m' : AM) (ρ : Ren) (u : FrameMode) (a : Act) (w : World), (∀ j, j < l.length → l[j]? = ops[k + j]?) →
    evOpsS E call fl ops l A s m = some (x, A', s', m') → RS E.G ρ s.h w → fl ≤ s.nx → Fit s → RA ρ A a → MR ρ m u → Free ρ s.nx s'.nx → wpOpsS P ops (XPostS E.G fl ρ s w x A' s' m' c₀ cs) (List.range' k l.length) a ({ c₀ with mode := u } :: cs) w
  | [], k, A, s, m, x, A', s', m', ρ, u, a, w, _, h, hrs, _, _, ha, hu, _ => by
    simp only [evOpsS, Option.some.injEq, Prod.mk.injEq] at h
    obtain ⟨rfl, rfl, rfl, rfl⟩ := h
    exact ⟨ρ, u, trivial, ha, hrs, .refl _ _ _ _, rfl, hu⟩
  | o :: rest, k, A, s, m, x, A', s', m', ρ, u, a, w, hl, h, hrs, h2, hfit, ha, hu, hfree => by
    have ho : ops[k]? = some o := by have := hl 0 (by simp); simpa using this.symm
    have hl' : ∀ j, j < rest.length → rest[j]? = ops[k + 1 + j]? := fun j hj => by
      have := hl (j + 1) (by simp; omega)
      rw [show k + 1 + j = k + (j + 1) by omega, ← this]
      simp
    have mono : ∀ (L : List Nat) (a : Act) (fs : List Frame) (w : World) (Q Q' : Exit → Act → List Frame → World → Prop), (∀ e a fs w, Q e a fs w → Q' e a fs w) → wpOpsS P ops Q L a fs w → wpOpsS P ops Q' L a fs w := by
      intro L
      induction L with
      | nil => intro a fs w Q Q' hq hh; exact hq _ _ _ _ hh
      | cons i L ih2 =>
        intro a fs w Q Q' hq hh
        simp only [wpOpsS] at hh ⊢
        split
        · rename_i hnone
          simp only [hnone] at hh
          exact ih2 _ _ _ _ _ hq hh
        · rename_i oi hoi
          simp only [hoi] at hh
          split
          · rename_i hw
            simp only [hw, if_true] at hh
            generalize (execOp a.eval oi).run P w = r at hh ⊢
            cases r with
            | ok n w1 =>
              cases n with
              | recover =>
                simp only at hh ⊢
                split
                · rename_i hr; simp only [hr] at hh; exact ih2 _ _ _ _ _ hq hh
                · rename_i hr; simp only [hr] at hh; exact ih2 _ _ _ _ _ hq hh
              | enter f args => exact Calls.mono hh (fun e w2 he => by cases e <;> first | exact ih2 _ _ _ _ _ hq he | exact hq _ _ _ _ he | (obtain ⟨a0, w0, h0⟩ := he; exact ⟨a0, w0, hq _ _ _ _ h0⟩))
              | row r args => exact Rows.mono hh (fun _ _ he => ih2 _ _ _ _ _ hq he)
              | value v => exact ih2 _ _ _ _ _ hq hh
              | skip => exact ih2 _ _ _ _ _ hq hh
              | defer d => exact ih2 _ _ _ _ _ hq hh
              | _ => exact hh
            | halt z w1 => cases z <;> first | exact hq _ _ _ _ hh | exact hh
          · rename_i hw
            simp only [hw] at hh
            exact ih2 _ _ _ _ _ hq hh
    simp only [List.length_cons, List.range'_succ, wpOpsS, ho]
    unfold evOpsS at h
    split at h
    · rename_i hg
      rw [guardA_ok ha hg]
      simp only [if_true]
      cases hrc : isRecover o.op with
      | true =>
        rw [hrc] at h
        simp only [cond_true] at h
        have hrun : (execOp a.eval o).run P w = .ok .recover w := by
          unfold isRecover at hrc
          split at hrc
          · rename_i args _ hop
            have : args = #[] := by simpa using hrc
            subst this
            simp [execOp, hop, resolve, invoke, builtin]
          · cases hrc
        simp only [hrun]
        cases m with
        | pan v =>
          simp only at h
          obtain ⟨v', hu1, hv⟩ := hu
          split at h
          · rename_i A1 hput
            have : recoverD ({ c₀ with mode := u } :: cs) = some (v', { c₀ with mode := .panicking [{ v := v', recovered := true }] } :: cs) := by
              rw [hu1]; rfl
            rw [this]
            exact evOpsS_ok hcall hup h1 rest (k + 1) A1 s (.caught v) x A' s' m' ρ _ _ w hl' h hrs h2 hfit (put_ok ha hv hput) ⟨v', rfl, hv⟩ hfree
          · cases h
        | ret =>
          simp only at h
          have hu1 : u = .returning := hu
          split at h
          · rename_i A1 hput
            have : recoverD ({ c₀ with mode := u } :: cs) = none := by rw [hu1]; rfl
            rw [this]
            exact evOpsS_ok hcall hup h1 rest (k + 1) A1 s .ret x A' s' m' ρ u _ w hl' h hrs h2 hfit (put_ok ha .nilIface hput) hu hfree
          · cases h
        | caught v =>
          simp only at h
          obtain ⟨v', hu1, hv⟩ := hu
          split at h
          · rename_i A1 hput
            have : recoverD ({ c₀ with mode := u } :: cs) = none := by rw [hu1]; rfl
            rw [this]
            exact evOpsS_ok hcall hup h1 rest (k + 1) A1 s (.caught v) x A' s' m' ρ u _ w hl' h hrs h2 hfit (put_ok ha .nilIface hput) ⟨v', hu1, hv⟩ hfree
          · cases h
      | false =>
        rw [hrc] at h
        simp only [cond_false] at h
        split at h
        · rename_i A1 s1 hop
          have hn2 := evOpsS_nx hup rest _ _ _ _ _ _ _ h
          have hwp := operA_ok (next := fun a1 w1 => wpOpsS P ops (XPostS E.G fl ρ s w x A' s' m' c₀ cs) (List.range' (k + 1) rest.length) a1 ({ c₀ with mode := u } :: cs) w1)
            (Q := fun e a' w' => XPostS E.G fl ρ s w x A' s' m' c₀ cs e a' ({ c₀ with mode := u } :: cs) w') hE hcall hrs h1 h2 hfit ha hop (hfree.left hn2) (fun A2 s2 he a' w' hpost => by
              cases he
              obtain ⟨ρ1, ha1, hrs1, ht1⟩ := hpost
              have ih := evOpsS_ok (c₀ := c₀) (cs := cs) hcall hup h1 rest (k + 1) A1 s1 m x A' s' m' ρ1 u a' w' hl' h hrs1 (Nat.le_trans h2 ht1.nx) (ht1.fit hfit) ha1 (hu.mono ht1.le) (ht1.free hfree)
              exact mono _ _ _ _ _ _ (fun e a fs w hx => hx.trans ht1) ih) (fun v A2 s2 he => by cases he)
          unfold Oper.wp at hwp
          generalize (execOp a.eval o).run P w = r at hwp ⊢
          cases r with
          | ok n w1 =>
            cases n with
            | recover => exact hwp.elim
            | _ => exact hwp
          | halt z w1 => exact hwp
        · cases h
    · rename_i hg
      rw [guardA_ok ha hg]
      simp only [Bool.false_eq_true, if_false]
      split at h
      · rename_i A1 hput
        exact evOpsS_ok hcall hup h1 rest (k + 1) A1 s m x A' s' m' ρ u _ w hl' h hrs h2 hfit (put_ok ha (undefVR ρ) hput) hu hfree
      · cases h
    · cases h

theorem wpS_mono' {c : Code} {Q Q' : Exit → Act → List Frame → World → Prop} {a : Act} {fs : List Frame} {w : World} (h : c.wpS P Q a fs w) (hq : ∀ e a fs w, Q e a fs w → Q' e a fs w) : c.wpS P Q' a fs w :=
  fun b k hb hr => let ⟨e, a', fs', w', q, r⟩ := h b k hb hr; ⟨e, a', fs', w', hq _ _ _ _ q, r⟩

/-- Pieces of code that the interpreter runs rightly. -/
def CodeOK (P : Program) (E : Env) (fl : Nat) (code : Code → AA → St → Option (AX × AA × St)) : Prop :=
  ∀ c A s x A' s' ρ a w, code c A s = some (x, A', s') → RS E.G ρ s.h w → fl ≤ s.nx → Fit s → RA ρ A a → Free ρ s.nx s'.nx → c.wp P (XPost E.G fl ρ s w x A' s') a w

include hE in
theorem evS_ok (hcall : CallOK P E fl call) (hup : CallUp call) (hcodeup : ∀ c A s x A' s', code c A s = some (x, A', s') → s.nx ≤ s'.nx) (hcode : CodeOK P E fl code) (h1 : E.G ≤ fl) {c₀ : Frame} {cs : List Frame} :
    ∀ (c : Code) (A : AA) (s : St) (m : AM) (x : AX) (A' : AA) (s' : St) (m' : AM) (ρ : Ren) (u : FrameMode) (a : Act) (w : World), evS E code call fl c A s m = some (x, A', s', m') → RS E.G ρ s.h w → fl ≤ s.nx → Fit s → RA ρ A a → MR ρ m u → Free ρ s.nx s'.nx →
      c.wpS P (XPostS E.G fl ρ s w x A' s' m' c₀ cs) a ({ c₀ with mode := u } :: cs) w := by
  intro c
  have other : ∀ {c : Code} {A : AA} {s : St} {m : AM} {x : AX} {A' : AA} {s' : St} {m' : AM} {ρ : Ren} {u : FrameMode} {a : Act} {w : World}, (match code c A s with | some (x, A', s') => some (x, A', s', m) | none => none) = some (x, A', s', m') → RS E.G ρ s.h w → fl ≤ s.nx → Fit s → RA ρ A a → MR ρ m u → Free ρ s.nx s'.nx →
      c.wpS P (XPostS E.G fl ρ s w x A' s' m' c₀ cs) a ({ c₀ with mode := u } :: cs) w := by
    intro c A s m x A' s' m' ρ u a w h hrs h2 hfit ha hu hfree
    split at h
    · rename_i x1 A1 s1 hc
      simp only [Option.some.injEq, Prod.mk.injEq] at h
      obtain ⟨rfl, rfl, rfl, rfl⟩ := h
      refine wpS_of_wp (wp_mono (hcode c A s x1 A1 s1 ρ a w hc hrs h2 hfit ha hfree) fun e a' w' hx => ?_)
      obtain ⟨ρ', hm, ha', hrs', ht⟩ := hx
      exact ⟨ρ', u, (by cases x1 <;> cases e <;> exact hm), ha', hrs', ht, rfl, hu.mono ht.le⟩
    · cases h
  induction c with
  | seq c1 c2 ih1 ih2 =>
    intro A s m x A' s' m' ρ u a w h hrs h2 hfit ha hu hfree
    simp only [evS] at h
    split at h
    · rename_i A1 s1 m1 hb
      have u2 := evS_nx hup hcodeup _ _ _ _ _ _ _ _ h
      refine wpS_seq (wpS_mono' (ih1 A s m .normal A1 s1 m1 ρ u a w hb hrs h2 hfit ha hu (hfree.left u2)) fun e a1 fs w1 hx => ?_)
      obtain ⟨ρ1, u1, hm, ha1, hrs1, ht, rfl, hu1⟩ := hx
      cases e with
      | normal => exact wpS_mono' (ih2 A1 s1 m1 x A' s' m' ρ1 u1 a1 w1 h hrs1 (by have := ht.nx; omega) (ht.fit hfit) ha1 hu1 (ht.free hfree)) fun e a fs w hx => hx.trans ht
      | exit _ => exact hm.elim
      | goto _ => exact hm.elim
      | ret => exact hm.elim
      | panic _ => exact hm.elim
      | outgrown => exact hm.elim
    · rename_i hne
      refine wpS_seq (wpS_mono' (ih1 A s m x A' s' m' ρ u a w h hrs h2 hfit ha hu hfree) fun e a1 fs w1 hx => ?_)
      cases e with
      | normal =>
        obtain ⟨ρ1, u1, hm, _⟩ := hx
        cases x with
        | normal => exact (hne A' s' m' h).elim
        | exit _ => exact hm.elim
        | ret => exact hm.elim
        | pan _ => exact hm.elim
      | exit _ => exact hx
      | goto _ => exact hx
      | ret => exact hx
      | panic _ => exact hx
      | outgrown => exact hx
  | cond cc c1 c2 ih1 ih2 =>
    intro A s m x A' s' m' ρ u a w h hrs h2 hfit ha hu hfree
    simp only [evS] at h
    split at h
    · rename_i hc
      have hv := evA_ok hrs ha cc _ hc
      generalize hce : a.eval cc = cv at hv
      cases hv
      exact wpS_cond hce (ih1 A s m x A' s' m' ρ u a w h hrs h2 hfit ha hu hfree)
    · rename_i hc
      have hv := evA_ok hrs ha cc _ hc
      generalize hce : a.eval cc = cv at hv
      cases hv
      exact wpS_cond hce (ih2 A s m x A' s' m' ρ u a w h hrs h2 hfit ha hu hfree)
    · cases h
  | region id ops draw =>
    intro A s m x A' s' m' ρ u a w h hrs h2 hfit ha hu hfree
    cases draw with
    | false =>
      simp only [evS] at h
      refine wpS_region ?_
      have := evOpsS_ok (c₀ := c₀) (cs := cs) hE hcall hup h1 (ops := ops) ops.toList 0 A s m x A' s' m' ρ u a w (fun j hj => by simp) h hrs h2 hfit ha hu hfree
      rw [List.range_eq_range']
      simpa using this
    | true => simp only [evS] at h; exact other h hrs h2 hfit ha hu hfree
  | skip => intro A s m x A' s' m' ρ u a w h hrs h2 hfit ha hu hfree; simp only [evS] at h; exact other h hrs h2 hfit ha hu hfree
  | block _ _ _ => intro A s m x A' s' m' ρ u a w h hrs h2 hfit ha hu hfree; simp only [evS] at h; exact other h hrs h2 hfit ha hu hfree
  | loop _ _ => intro A s m x A' s' m' ρ u a w h hrs h2 hfit ha hu hfree; simp only [evS] at h; exact other h hrs h2 hfit ha hu hfree
  | rangeFunc _ _ _ _ _ _ => intro A s m x A' s' m' ρ u a w h hrs h2 hfit ha hu hfree; simp only [evS] at h; exact other h hrs h2 hfit ha hu hfree
  | exit _ => intro A s m x A' s' m' ρ u a w h hrs h2 hfit ha hu hfree; simp only [evS] at h; exact other h hrs h2 hfit ha hu hfree
  | scope _ _ => intro A s m x A' s' m' ρ u a w h hrs h2 hfit ha hu hfree; simp only [evS] at h; exact other h hrs h2 hfit ha hu hfree
  | label _ => intro A s m x A' s' m' ρ u a w h hrs h2 hfit ha hu hfree; simp only [evS] at h; exact other h hrs h2 hfit ha hu hfree
  | goto _ => intro A s m x A' s' m' ρ u a w h hrs h2 hfit ha hu hfree; simp only [evS] at h; exact other h hrs h2 hfit ha hu hfree
  | ret => intro A s m x A' s' m' ρ u a w h hrs h2 hfit ha hu hfree; simp only [evS] at h; exact other h hrs h2 hfit ha hu hfree
  | refuse _ => intro A s m x A' s' m' ρ u a w h hrs h2 hfit ha hu hfree; simp only [evS] at h; exact other h hrs h2 hfit ha hu hfree

end
end Go.Ev
