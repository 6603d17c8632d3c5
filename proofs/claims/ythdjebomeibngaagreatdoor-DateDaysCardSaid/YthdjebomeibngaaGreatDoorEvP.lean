/- A checked interpreter for closed calls, part 16: the operations of a region, one after the other. -/
import Derived.Test.YthdjebomeibngaaGreatDoorEvO
namespace Go.Ev
open Go Go.MapKept

/-- Is an operation done? -/
def guardA (ops : Array Oper) (ts : T Value) (o : Oper) : Option Bool :=
  match o.guard with
  | none => some true
  | some (j, want) =>
    match ops.toList[j]? with
    | some oj =>
      match oj.dst with
      | some d => match ts.get d with | some (.bool b) => some (cond b want (!want)) | _ => none
      | none => none
    | none => none

theorem guardA_ok {ρ : Ren} {A : AA} {a : Act} (ha : RA ρ A a) {ops : Array Oper} {o : Oper} {b : Bool} (h : guardA ops A.ts o = some b) : Region.wanted o (yielded ops a.tmps) = b := by
  unfold guardA at h
  unfold Region.wanted
  split at h
  · rename_i hg
    rw [hg]
    simp only [Option.some.injEq] at h
    exact h
  · rename_i j want hg
    rw [hg]
    split at h
    · rename_i oj hj
      split at h
      · rename_i d hd
        split at h
        · rename_i c hc
          simp only [Option.some.injEq] at h
          obtain ⟨v', h1, h2⟩ := ha.tmp d _ hc
          cases h2
          have hj' : ops[j]? = some oj := by simpa using hj
          simp only [yielded, hj', Option.bind_some, hd, h1]
          rw [← h]
          cases c <;> cases want <;> rfl
        · cases h
      · cases h
    · cases h

def evOps (E : Env) (call : FuncId → List Value → St → Option (AE × St)) (fl : Nat) (ops : Array Oper) : List Oper → AA → St → Option (AX × AA × St)
  | [], A, s => some (.normal, A, s)
  | o :: rest, A, s =>
    match guardA ops A.ts o with
    | some true =>
      match operA E call fl o A s with
      | some (.next A' s') => evOps E call fl ops rest A' s'
      | some (.pan v A' s') => some (.pan v, A', s')
      | none => none
    | some false => match A.put o.dst undef with | some A' => evOps E call fl ops rest A' s | none => none
    | none => none

section
variable {P : Program} {E : Env} (hE : EnvOK P E) {fl : Nat} {call : FuncId → List Value → St → Option (AE × St)}

/-- Calls only add blocks. -/
def CallUp (call : FuncId → List Value → St → Option (AE × St)) : Prop := ∀ f args s r s', call f args s = some (r, s') → s.nx ≤ s'.nx

def AR.st : AR → St
  | .next _ s => s
  | .pan _ _ s => s

theorem valA_nx (hup : CallUp call) {o : Op} {ev : Operand → Option Value} {s s' : St} {v : Value} (hp : valA E call fl o ev s = some (v, s')) : s.nx ≤ s'.nx := by
  unfold valA at hp
  split at hp
  · split at hp
    · split at hp
      · rename_i u s1 hc
        simp only [Option.some.injEq, Prod.mk.injEq] at hp
        rw [← hp.2]
        exact hup _ _ _ _ _ hc
      · cases hp
    · cases hp
  · exact opA_nx hp

theorem operA_nx (hup : CallUp call) {o : Oper} {A : AA} {s : St} {r : AR} (hp : operA E call fl o A s = some r) : s.nx ≤ r.st.nx := by
  unfold operA at hp
  split at hp
  · split at hp
    · split at hp
      · rename_i v s' hc
        rw [Option.map_eq_some_iff] at hp
        obtain ⟨A', _, rfl⟩ := hp
        exact hup _ _ _ _ _ hc
      · rename_i v s' hc
        simp only [Option.some.injEq] at hp
        subst hp
        exact hup _ _ _ _ _ hc
      · cases hp
    · cases hp
  · split at hp
    · rw [Option.map_eq_some_iff] at hp
      obtain ⟨A', _, rfl⟩ := hp
      exact Nat.le_refl _
    · cases hp
  · split at hp
    · simp only [Option.some.injEq] at hp
      subst hp
      exact Nat.le_refl _
    · cases hp
  · split at hp
    · rename_i v s' hop
      rw [Option.map_eq_some_iff] at hp
      obtain ⟨A', _, rfl⟩ := hp
      exact opA_nx hop
    · cases hp

theorem evOps_nx (hup : CallUp call) {ops : Array Oper} : ∀ (l : List Oper) (A : AA) (s : St) (x : AX) (A' : AA) (s' : St), evOps E call fl ops l A s = some (x, A', s') → s.nx ≤ s'.nx
  | [], A, s, x, A', s', h => by simp [evOps] at h; rw [h.2.2]; exact Nat.le_refl _
  | o :: rest, A, s, x, A', s', h => by
    unfold evOps at h
    split at h
    · split at h
      · rename_i A1 s1 hop
        have h1 := operA_nx hup hop
        have h2 := evOps_nx hup rest A1 s1 x A' s' h
        exact Nat.le_trans h1 h2
      · rename_i v A1 s1 hop
        have h1 := operA_nx hup hop
        simp only [Option.some.injEq, Prod.mk.injEq] at h
        rw [← h.2.2]; exact h1
      · cases h
    · split at h
      · rename_i A1 hput
        exact evOps_nx hup rest A1 s x A' s' h
      · cases h
    · cases h

theorem XPost.trans {G : Nat} {ρ ρ₁ : Ren} {s s₁ s' : St} {w w₁ : World} {x : AX} {A' : AA} (ht : Tr fl ρ s w ρ₁ s₁ w₁) {e : Exit} {a' : Act} {w' : World} (h : XPost G fl ρ₁ s₁ w₁ x A' s' e a' w') : XPost G fl ρ s w x A' s' e a' w' := by
  obtain ⟨ρ', hm, ha, hr, ht'⟩ := h
  exact ⟨ρ', hm, ha, hr, ht.trans ht'⟩

include hE in
theorem evOps_ok (hcall : CallOK P E fl call) (hup : CallUp call) (h1 : E.G ≤ fl) {ops : Array Oper} : ∀ (l : List Oper) (k : Nat) (A : AA) (s : St) (x : AX) (A' : AA) (s' : St) (ρ : Ren) (a : Act) (w : World), (∀ j, j < l.length → l[j]? = ops[k + j]?) →
    evOps E call fl ops l A s = some (x, A', s') → RS E.G ρ s.h w → fl ≤ s.nx → Fit s → RA ρ A a → Free ρ s.nx s'.nx → wpOps P ops (XPost E.G fl ρ s w x A' s') (List.range' k l.length) a w
  | [], k, A, s, x, A', s', ρ, a, w, _, h, hrs, _, _, ha, _ => by
    simp only [evOps, Option.some.injEq, Prod.mk.injEq] at h
    obtain ⟨rfl, rfl, rfl⟩ := h
    exact ⟨ρ, trivial, ha, hrs, .refl _ _ _ _⟩
  | o :: rest, k, A, s, x, A', s', ρ, a, w, hl, h, hrs, h2, hfit, ha, hfree => by
    have ho : ops[k]? = some o := by have := hl 0 (by simp); simpa using this.symm
    have hl' : ∀ j, j < rest.length → rest[j]? = ops[k + 1 + j]? := fun j hj => by
      have := hl (j + 1) (by simp; omega)
      rw [show k + 1 + j = k + (j + 1) by omega, ← this]
      simp
    simp only [List.length_cons, List.range'_succ, wpOps, ho]
    unfold evOps at h
    split at h
    · rename_i hg
      rw [guardA_ok ha hg]
      simp only [if_true]
      split at h
      · rename_i A1 s1 hop
        left
        have hn1 := operA_nx hup hop
        have hn2 := evOps_nx hup rest A1 s1 x A' s' h
        refine operA_ok hE hcall hrs h1 h2 hfit ha hop (hfree.left hn2) (fun A2 s2 he a' w' hpost => ?_) (fun v A2 s2 he => by cases he)
        cases he
        obtain ⟨ρ1, ha1, hrs1, ht1⟩ := hpost
        have ih := evOps_ok hcall hup h1 rest (k + 1) A1 s1 x A' s' ρ1 a' w' hl' h hrs1 (Nat.le_trans h2 ht1.nx) (ht1.fit hfit) ha1 (ht1.free hfree)
        have mono : ∀ (L : List Nat) (a : Act) (w : World) (Q Q' : Exit → Act → World → Prop), (∀ e a w, Q e a w → Q' e a w) → wpOps P ops Q L a w → wpOps P ops Q' L a w := by
          intro L
          induction L with
          | nil => intro a w Q Q' hq hh; exact hq _ _ _ hh
          | cons i L ih2 =>
            intro a w Q Q' hq hh
            simp only [wpOps] at hh ⊢
            split
            · rename_i hnone
              simp only [hnone] at hh
              exact ih2 _ _ _ _ hq hh
            · rename_i oi hoi
              simp only [hoi] at hh
              split
              · rename_i hw
                simp only [hw, if_true] at hh
                rcases hh with hh | ⟨hh1, hh2⟩
                · left
                  unfold Oper.wp at hh ⊢
                  generalize (execOp a.eval oi).run P w = r at hh ⊢
                  cases r with
                  | ok n w1 =>
                    cases n <;> simp only [Oper.upon] at hh ⊢ <;> first
                      | exact ih2 _ _ _ _ hq hh
                      | exact Calls.mono hh (fun e w2 he => by cases e <;> first | exact ih2 _ _ _ _ hq he | exact hq _ _ _ he | (obtain ⟨a0, w0, h0⟩ := he; exact ⟨a0, w0, hq _ _ _ h0⟩))
                      | exact Rows.mono hh (fun _ _ he => ih2 _ _ _ _ hq he)
                      | exact hh
                  | halt z w1 => cases z <;> simp only [Oper.upon] at hh ⊢ <;> first | exact hq _ _ _ hh | exact hh
                · right
                  obtain ⟨a0, w0, h0⟩ := hh2
                  exact ⟨hh1, a0, w0, hq _ _ _ h0⟩
              · rename_i hw
                simp only [hw] at hh
                exact ih2 _ _ _ _ hq hh
        exact mono _ _ _ _ _ (fun e a w hx => hx.trans ht1) ih
      · rename_i v A1 s1 hop
        simp only [Option.some.injEq, Prod.mk.injEq] at h
        obtain ⟨rfl, rfl, rfl⟩ := h
        left
        refine operA_ok hE hcall hrs h1 h2 hfit ha hop hfree (fun A2 s2 he => by cases he) (fun v2 A2 s2 he e a' w' hpost => ?_)
        cases he
        exact hpost
      · cases h
    · rename_i hg
      rw [guardA_ok ha hg]
      simp only [Bool.false_eq_true, if_false]
      split at h
      · rename_i A1 hput
        exact evOps_ok hcall hup h1 rest (k + 1) A1 s x A' s' ρ _ w hl' h hrs h2 hfit (put_ok ha (undefVR ρ) hput) hfree
      · cases h
    · cases h

end
end Go.Ev
