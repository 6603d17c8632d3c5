/- A checked interpreter for closed calls, part 24c: rounds of a range over a function: calls of yield, in regions of whatever order. -/
import Derived.Test.YthdjebomeibngaaGreatDoorEvXb
import Derived.OrdersIn
import Derived.RangeFuncIn
namespace Go.Ev
open Go Go.MapKept

/-- No fence but this: whether the frame is a round's. -/
def FRd (r : Option Nat) : Fence := { Fence.wide with round := r }

section
variable {P : Program} {r : Option Nat}

theorem calls_in {n : Nat} {f : FuncId} {args : Array Value} {w : World} {R : Ending → World → Prop} (h : Calls P f args w R) : CallsIn (FRd r) n P f args w R := (callsIn_wide (n := n)).2 h
theorem in_calls {n : Nat} {f : FuncId} {args : Array Value} {w : World} {R : Ending → World → Prop} (h : CallsIn (FRd r) n P f args w R) : Calls P f args w R := (callsIn_wide (n := n)).1 h
theorem rows_in {n : Nat} {row : String} {args : Array Value} {w : World} {R : Value → World → Prop} (h : Rows P row args w R) : RowsIn (FRd r) n P row args w R := fun c cs _ => by
  obtain ⟨v, w', h1, h2⟩ := h c cs
  exact ⟨v, w', h1, stepsIn_wide.2 h2⟩

def noDefO (o : Oper) : Bool := match o.op with | .defer _ => false | _ => true

theorem semAt_same {o : Oper} (hnd : r = none ∨ noDefO o = true) (ev : Operand → Value) : Oper.semAt (FRd r).round ev o = execOp ev o := by
  rcases hnd with rfl | h
  · rfl
  · exact Oper.semAt_eq _ _ _ fun c hc => by simp [noDefO, hc] at h

theorem wp_in {o : Oper} {a : Act} {w : World} {next : Act → World → Prop} {Q : Exit → Act → World → Prop} (hnd : r = none ∨ noDefO o = true) (h : o.wp P a w next Q) : o.wpIn (FRd r) 0 P a w next Q := by
  unfold Oper.wp at h
  unfold Oper.wpIn
  refine ⟨fun _ _ => trivial, ?_⟩
  rw [semAt_same hnd]
  generalize (execOp a.eval o).run P w = x at h ⊢
  cases x with
  | ok n w1 =>
    cases n <;> simp only [Oper.upon, Oper.uponIn] at h ⊢ <;> first
      | exact h
      | exact ⟨(fun hd => by cases hd), (calls_in h).mono fun e w he => by cases e <;> exact he⟩
      | exact ⟨(fun hd => by cases hd), rows_in h⟩
      | exact h.elim
  | halt z w1 => cases z <;> simp only [Oper.upon, Oper.uponIn] at h ⊢ <;> first | exact h | exact h.elim

theorem wpOp_in {ops : Array Oper} {Q : Exit → Act → World → Prop} (hQ : ¬ LetsOut Q) (hnd : r = none ∨ ∀ o ∈ ops.toList, noDefO o = true) {i : Nat} {K : Act → World → Prop} {a : Act} {w : World} (h : wpOp P ops Q i K a w) : wpOpIn (FRd r) 0 P ops Q i K a w := by
  unfold wpOp at h
  unfold wpOpIn
  split
  · rename_i hn; rw [hn] at h; exact h
  · rename_i o ho
    rw [ho] at h
    simp only at h
    split
    · rename_i hw
      rw [if_pos hw] at h
      rcases h with h | ⟨_, h⟩
      · exact wp_in (hnd.imp id fun hh => hh o (List.mem_of_getElem? (i := i) (by simpa using ho))) h
      · exact (hQ h).elim
    · rename_i hw
      rw [if_neg hw] at h
      exact ⟨fun _ _ => trivial, h⟩

theorem wpAny_in {ops : Array Oper} {Q : Exit → Act → World → Prop} {md : Region.Mode} (hQ : ¬ LetsOut Q) (hnd : r = none ∨ ∀ o ∈ ops.toList, noDefO o = true) : ∀ (fuel : Nat) (listed : Array Bool) (a : Act) (w : World), wpAny P md ops Q fuel listed a w → wpAnyIn (FRd r) 0 P md ops Q fuel listed a w
  | 0, _, _, _, h => h
  | fuel + 1, _, _, _, h => ⟨h.1, fun i hi => wpOpIn_mono (fun a w => wpAny_in hQ hnd fuel _ a w) (wpOp_in hQ hnd (h.2 i hi))⟩

variable {ops : Array Oper} {Q : Exit → Act → World → Prop}

theorem uponIn_change {o : Oper} {a : Act} {K K' : Act → World → Prop} {Q' : Exit → Act → World → Prop} (hK : ∀ a w, K' a w → K a w) (hQ : ∀ ch a w, Q' (.panic ch) a w → Q (.panic ch) a w) (hlet : LetsOut Q' → LetsOut Q) {x : Result Next} (h : o.uponIn (FRd r) 0 P a K' Q' x) : o.uponIn (FRd r) 0 P a K Q x := by
  cases x with
  | ok n w1 =>
    cases n <;> simp only [Oper.uponIn] at h ⊢ <;> first
      | exact hK _ _ h
      | exact ⟨h.1, CallsIn.mono h.2 (fun e w2 he => by cases e <;> first | exact hK _ _ he | exact hlet he | exact hQ _ _ _ he)⟩
      | exact ⟨h.1, RowsIn.mono h.2 (fun _ _ he => hK _ _ he)⟩
      | exact ⟨h.1, RoundIn.mono h.2 (fun e w2 he => by cases e <;> first | exact hK _ _ he | exact hlet he | exact hQ _ _ _ he)⟩
      | exact h
  | halt z w1 => cases z <;> simp only [Oper.uponIn] at h ⊢ <;> first | exact hQ _ _ _ h | exact h

theorem wpOpsIn_mono {Q' : Exit → Act → World → Prop} (hq : ∀ e a w, Q' e a w → Q e a w) : ∀ (L : List Nat) (a : Act) (w : World), wpOpsIn (FRd r) 0 P ops Q' L a w → wpOpsIn (FRd r) 0 P ops Q L a w
  | [], a, w, h => hq _ _ _ h
  | i :: L, a, w, h => by
    rw [wpOpsIn_cons] at h ⊢
    unfold wpOpIn at h ⊢
    split
    · rename_i hn; simp only [hn] at h; exact wpOpsIn_mono hq L a w h
    · rename_i o ho
      simp only [ho] at h
      split
      · rename_i hw
        rw [if_pos hw] at h
        exact ⟨h.1, uponIn_change (wpOpsIn_mono hq L) (fun _ _ _ => hq _ _ _) (fun ⟨a, w, h⟩ => ⟨a, w, hq _ _ _ h⟩) h.2⟩
      · rename_i hw
        rw [if_neg hw] at h
        exact ⟨h.1, wpOpsIn_mono hq L _ _ h.2⟩

theorem wpOpIn_change {ops' : Array Oper} {Q' : Exit → Act → World → Prop} {i : Nat} (h1 : ops'[i]? = ops[i]?) (h2 : ∀ o j b, ops[i]? = some o → o.guard = some (j, b) → ops'[j]? = ops[j]?) (hQ : ∀ e a w, e ≠ .normal → Q' e a w → Q e a w)
    {K : Act → World → Prop} {a : Act} {w : World} (h : wpOpIn (FRd r) 0 P ops' Q' i K a w) (hlet : LetsOut Q' → LetsOut Q) : wpOpIn (FRd r) 0 P ops Q i K a w := by
  unfold wpOpIn at h ⊢
  rw [h1] at h
  split
  · rename_i hn; rw [hn] at h; exact h
  · rename_i o ho
    rw [ho] at h
    simp only at h
    have hw : Region.wanted o (yielded ops' a.tmps) = Region.wanted o (yielded ops a.tmps) := by
      unfold Region.wanted
      cases hg : o.guard with
      | none => rfl
      | some jb =>
        obtain ⟨j, b⟩ := jb
        simp only [yielded, h2 o j b ho hg]
    rw [hw] at h
    split
    · rename_i hwt
      rw [if_pos hwt] at h
      exact ⟨h.1, uponIn_change (fun _ _ h => h) (fun ch a w => hQ _ a w (fun h => by cases h)) hlet h.2⟩
    · rename_i hwt
      rw [if_neg hwt] at h
      exact h

/-- The end, in its one order. -/
theorem tail_anyY {ms : T Nat} (hm : chkMasks ms ops.toList 0 = true) {k : Nat} (hfull : ∀ j i, k ≤ j → j < ops.size → i < j → ancT ms j i = true) : ∀ (t j fuel : Nat) (listed : Array Bool) (a : Act) (w : World), j + t = ops.size → k ≤ j → t ≤ fuel → listed.size = ops.size →
    Closed ops listed → (∀ i, i < ops.size → (listed.getD i false = true ↔ i < j)) → wpOpsIn (FRd r) 0 P ops Q (List.range' j t) a w → wpAnyIn (FRd r) 0 P .any ops Q fuel listed a w
  | 0, j, fuel, listed, a, w, hjt, _, _, hsz, _, hl, h => by
    have hno : Region.ready .any ops listed = [] := by
      cases hr : Region.ready .any ops listed with
      | nil => rfl
      | cons i l =>
        have hi : i ∈ Region.ready .any ops listed := by rw [hr]; simp
        obtain ⟨o, ho, hlt, hun, _⟩ := ready_spec hi
        have := getD_tf hun
        rw [(hl i hlt).2 (by omega)] at this
        cases this
    cases fuel with
    | zero => exact ⟨hno, h⟩
    | succ f => exact ⟨fun _ => h, fun i hi => by rw [hno] at hi; cases hi⟩
  | t + 1, j, 0, _, _, _, _, _, hf, _, _, _, _ => by omega
  | t + 1, j, fuel + 1, listed, a, w, hjt, hkj, hf, hsz, hcl, hl, h => by
    have hjs : j < ops.size := by omega
    have ho : ops[j]? = some ops[j] := Array.getElem?_eq_getElem hjs
    have hjun : listed.getD j true = false := by
      have : listed.getD j false = false := by
        cases hb : listed.getD j false with
        | false => rfl
        | true => have := (hl j hjs).1 hb; omega
      have hjl : j < listed.size := by omega
      simp [Array.getD, hjl] at this ⊢
      exact this
    have hready : j ∈ Region.ready .any ops listed := ready_of hjs hjun fun e he hb => (hl _ (by have := back hm ho he hb; omega)).2 (back hm ho he hb)
    have only : ∀ i ∈ Region.ready .any ops listed, i = j := by
      intro i hi
      obtain ⟨o, hoi, hlt, hun, hed⟩ := ready_spec hi
      have hun' := getD_tf hun
      rcases Nat.lt_trichotomy i j with h' | h' | h'
      · rw [(hl i hlt).2 h'] at hun'; cases hun'
      · exact h'
      · have := closed_anc hm hcl i o hoi hed j (hfull i j (by omega) hlt h')
        have := (hl j hjs).1 this
        omega
    refine ⟨(fun hn => by rw [hn] at hready; cases hready), fun i hi => ?_⟩
    have := only i hi
    subst this
    rw [List.range'_succ, wpOpsIn_cons] at h
    refine wpOpIn_mono (fun a1 w1 h1 => tail_anyY hm hfull t (i + 1) fuel _ a1 w1 (by omega) (by omega) (by omega) (by simpa using hsz) ?_ (fun x hx => ?_) h1) h
    · intro x ox hox hlx e he hb
      rw [getD_set (by omega)] at hlx ⊢
      split
      · rfl
      · by_cases e2 : x = i
        · subst e2
          rw [ho] at hox
          cases hox
          exact (hl _ (by have := back hm ho he hb; omega)).2 (back hm ho he hb)
        · rw [if_neg e2] at hlx
          exact hcl x ox hox hlx e he hb
    · rw [getD_set (by omega)]
      by_cases e2 : x = i
      · subst e2; simp
      · rw [if_neg e2, hl x hx]; omega

/-- A region is done in two parts, where the first of the second has all of the first for ancestors. -/
theorem cut_anyY {ms : T Nat} (hm : chkMasks ms ops.toList 0 = true) {k : Nat} (hk : k ≤ ops.size) (hfull : ∀ j i, k ≤ j → j < ops.size → i < j → ancT ms j i = true) (hg : chkG k (ops.toList.take k) = true) {Q' : Exit → Act → World → Prop}
    (hQ : ∀ e a w, e ≠ .normal → Q' e a w → Q e a w) (hlet : LetsOut Q' → LetsOut Q) (hend : ∀ a w, Q' .normal a w → wpOpsIn (FRd r) 0 P ops Q (List.range' k (ops.size - k)) a w) :
    ∀ (m : Nat) (lp : Array Bool) (a : Act) (w : World), lp.size = k → left (ops.toList.take k).toArray lp ≤ m → Closed ops (lp ++ Array.replicate (ops.size - k) false) →
      wpAnyIn (FRd r) 0 P .any (ops.toList.take k).toArray Q' m lp a w → wpAnyIn (FRd r) 0 P .any ops Q (m + (ops.size - k)) (lp ++ Array.replicate (ops.size - k) false) a w := by
  have hat : ∀ i, i < k → (ops.toList.take k).toArray[i]? = ops[i]? := fun i hi => by
    rw [List.getElem?_toArray, List.getElem?_take, if_pos hi, Array.getElem?_toList]
  have hpsz : (ops.toList.take k).toArray.size = k := by simp; omega
  intro m
  induction m with
  | zero =>
    intro lp a w hsz hleft hcl h
    have hall : ∀ i, i < k → lp.getD i false = true := by
      intro i hi
      cases hb : lp.getD i false with
      | true => rfl
      | false =>
        exfalso
        have hun : lp.getD i true = false := by
          have : i < lp.size := by omega
          simp [Array.getD, this] at hb ⊢
          exact hb
        have : 0 < left (ops.toList.take k).toArray lp := by
          unfold left
          refine List.length_pos_of_mem (a := i) (List.mem_filter.2 ⟨?_, by simp [hun]⟩)
          rw [hpsz]
          exact List.mem_range.2 hi
        omega
    refine tail_anyY hm hfull (ops.size - k) k _ _ a w (by omega) (Nat.le_refl _) (by omega) (by simp [hsz]; omega) hcl (fun i hi => ?_) (hend _ _ h.2)
    by_cases e : i < k
    · rw [getD_append_l (by omega), hall i e]; simp [e]
    · rw [getD_append_f (by omega)]; simp [e]
  | succ m ih =>
    intro lp a w hsz hleft hcl h
    by_cases hall : ∀ i, i < k → lp.getD i false = true
    · have hno : Region.ready .any (ops.toList.take k).toArray lp = [] := by
        cases hr : Region.ready .any (ops.toList.take k).toArray lp with
        | nil => rfl
        | cons i l =>
          have hi : i ∈ Region.ready .any (ops.toList.take k).toArray lp := by rw [hr]; simp
          obtain ⟨o, ho, hlt, hun, _⟩ := ready_spec hi
          have := getD_tf hun
          rw [hall i (by omega)] at this
          cases this
      refine tail_anyY hm hfull (ops.size - k) k _ _ a w (by omega) (Nat.le_refl _) (by omega) (by simp [hsz]; omega) hcl (fun i hi => ?_) (hend _ _ (h.1 hno))
      by_cases e : i < k
      · rw [getD_append_l (by omega), hall i e]; simp [e]
      · rw [getD_append_f (by omega)]; simp [e]
    · -- the first that is not done is ready
      have hex : ∃ i, i < k ∧ lp.getD i false = false ∧ ∀ j, j < i → lp.getD j false = true := by
        have aux : ∀ n, (∃ i, i < n ∧ lp.getD i false = false) → ∃ i, i < n ∧ lp.getD i false = false ∧ ∀ j, j < i → lp.getD j false = true := by
          intro n
          induction n with
          | zero => rintro ⟨i, h, _⟩; omega
          | succ n ihn =>
            rintro ⟨i, h1, h2⟩
            by_cases h3 : ∃ i, i < n ∧ lp.getD i false = false
            · obtain ⟨i, k1, k2, k3⟩ := ihn h3
              exact ⟨i, by omega, k2, k3⟩
            · have hn : ∀ j, j < n → lp.getD j false = true := fun j hj => by
                cases hb : lp.getD j false with
                | true => rfl
                | false => exact (h3 ⟨j, hj, hb⟩).elim
              have : i = n := by
                rcases Nat.lt_or_ge i n with h' | h'
                · exact (h3 ⟨i, h', h2⟩).elim
                · omega
              subst this
              exact ⟨i, h1, h2, hn⟩
        refine aux k ?_
        rcases Classical.em (∃ i, i < k ∧ lp.getD i false = false) with h' | h'
        · exact h'
        · refine (hall fun i hi => ?_).elim
          cases hb : lp.getD i false with
          | true => rfl
          | false => exact (h' ⟨i, hi, hb⟩).elim
      obtain ⟨i0, hi0, hun0, hbef⟩ := hex
      have hready0 : i0 ∈ Region.ready .any ops (lp ++ Array.replicate (ops.size - k) false) := by
        have hlt : i0 < ops.size := by omega
        refine ready_of hlt ?_ fun e he hb => ?_
        · rw [getD_append_l (by omega)]
          have : i0 < lp.size := by omega
          simp [Array.getD, this] at hun0 ⊢
          exact hun0
        · have := back hm (Array.getElem?_eq_getElem hlt) he hb
          rw [getD_append_l (by omega)]
          exact hbef _ this
      have step : wpAnyIn (FRd r) 0 P .any ops Q ((m + (ops.size - k)) + 1) (lp ++ Array.replicate (ops.size - k) false) a w := by
        refine ⟨(fun hn => by rw [hn] at hready0; cases hready0), fun i hi => ?_⟩
        obtain ⟨o, ho, hlt, hun, hed⟩ := ready_spec hi
        have hik : i < k := by
          rcases Nat.lt_or_ge i k with h' | h'
          · exact h'
          · have := closed_anc hm hcl i o ho hed i0 (hfull i i0 h' hlt (by omega))
            rw [getD_append_l (by omega), hun0] at this
            cases this
        have hi' : i ∈ Region.ready .any (ops.toList.take k).toArray lp := by
          refine ready_of (by omega) ?_ fun e he hb => ?_
          · rw [getD_append_l (by omega)] at hun; exact hun
          · have e2 : (ops.toList.take k).toArray[i]? = some o := by rw [hat i hik]; exact ho
            rw [Array.getElem?_eq_getElem (by omega)] at e2
            have e3 := Option.some.inj e2
            rw [e3] at he
            have hlt2 := back hm ho he hb
            have := hed e he hb
            rw [getD_append_l (by omega)] at this
            exact this
        have h3 := h.2 i hi'
        have hset : (lp ++ Array.replicate (ops.size - k) false).setIfInBounds i true = lp.setIfInBounds i true ++ Array.replicate (ops.size - k) false := by
          apply Array.ext'
          simp only [Array.toList_setIfInBounds, Array.toList_append]
          rw [List.set_append_left _ _ (by simpa using (by omega : i < lp.size))]
        rw [hset]
        have hleft2 := left_lt hi'
        refine wpOpIn_mono (fun a1 w1 h4 => ih (lp.setIfInBounds i true) a1 w1 (by simpa using hsz) (by omega) ?_ h4) (wpOpIn_change (hat i hik) (fun o' j b ho' hg' => ?_) hQ h3 hlet)
        · rw [← hset]
          intro x ox hox hlx e he hb
          have hsz2 : i < (lp ++ Array.replicate (ops.size - k) false).size := by simp; omega
          rw [getD_set hsz2] at hlx ⊢
          split
          · rfl
          · by_cases e2 : x = i
            · subst e2
              rw [ho] at hox
              cases hox
              exact hed e he hb
            · rw [if_neg e2] at hlx
              exact hcl x ox hox hlx e he hb
        · have hmem : o' ∈ ops.toList.take k := by
            refine List.mem_of_getElem? (i := i) ?_
            rw [List.getElem?_take, if_pos hik, Array.getElem?_toList]
            exact ho'
          exact hat j (chkG_spec hg o' hmem j b hg')
      have e : m + 1 + (ops.size - k) = (m + (ops.size - k)) + 1 := by omega
      rw [e]
      exact step


end

section
variable {P : Program} {E : Env} (hE : EnvOK P E) {fl : Nat} {call : FuncId → List Value → St → Option (AE × St)} {yld : Nat → List Value → St → Option (AE × St)}

/-- One operation, calls of yield among them. -/
def operY (E : Env) (call : FuncId → List Value → St → Option (AE × St)) (yld : Nat → List Value → St → Option (AE × St)) (fl : Nat) (o : Oper) (A : AA) (s : St) : Option AR :=
  match o.op with
  | .call { callee := .value f, args, argTypes := _ } =>
    match evA E.G s.h A.ts f with
    | some (.func (.yield b) _ _) =>
      match argsA (evA E.G s.h A.ts) args.toList with
      | some vs =>
        match yld b vs s with
        | some (.ret v, s') => (A.put o.dst v).map fun A' => .next A' s'
        | some (.pan v, s') => some (.pan v A s')
        | none => none
      | none => none
    | _ => operA E call fl o A s
  | _ => operA E call fl o A s

/-- The interpreter's rounds are the program's. -/
def YieldOK (P : Program) (E : Env) (fl : Nat) (yld : Nat → List Value → St → Option (AE × St)) : Prop :=
  ∀ b vs s x s', yld b vs s = some (x, s') → ∀ ρ w (vs' : List Value) l n, RS E.G ρ s.h w → fl ≤ s.nx → Fit s → Free ρ s.nx s'.nx → VRs ρ vs vs' → ρ b = some (l, n) →
    ∃ f tmps assign body, (Instr.yield l vs'.toArray).run P w = .ok (.round l f tmps assign body) w ∧ RoundIn (FRd none) 0 P l f tmps assign body w (EPost E.G fl ρ s w x s')

def YieldUp (yld : Nat → List Value → St → Option (AE × St)) : Prop := ∀ b vs s x s', yld b vs s = some (x, s') → s.nx ≤ s'.nx

theorem operY_nx (hup : CallUp call) (hyup : YieldUp yld) {o : Oper} {A : AA} {s : St} {r : AR} (hp : operY E call yld fl o A s = some r) : s.nx ≤ r.st.nx := by
  unfold operY at hp
  split at hp
  · split at hp
    · split at hp
      · split at hp
        · rename_i v s' hc
          rw [Option.map_eq_some_iff] at hp
          obtain ⟨A', _, rfl⟩ := hp
          exact hyup _ _ _ _ _ hc
        · rename_i v s' hc
          simp only [Option.some.injEq] at hp
          subst hp
          exact hyup _ _ _ _ _ hc
        · cases hp
      · cases hp
    · exact operA_nx hup hp
  · exact operA_nx hup hp

include hE in
theorem operY_ok (hcall : CallOK P E fl call) (hyld : YieldOK P E fl yld) {rr : Option Nat} {ρ : Ren} {s : St} {w : World} (hrs : RS E.G ρ s.h w) (h1 : E.G ≤ fl) (h2 : fl ≤ s.nx) (hfit : Fit s) {A : AA} {a : Act} (ha : RA ρ A a) {o : Oper} {x : AR} (hp : operY E call yld fl o A s = some x)
    (hfree : Free ρ s.nx x.st.nx) (hnd : rr = none ∨ noDefO o = true) {next : Act → World → Prop} {Q : Exit → Act → World → Prop}
    (hn : ∀ A' s', x = .next A' s' → ∀ a' w', OPost E.G fl ρ s w A' s' a' w' → next a' w') (hq : ∀ v A' s', x = .pan v A' s' → ∀ e a' w', XPost E.G fl ρ s w (.pan v) A' s' e a' w' → Q e a' w') : o.wpIn (FRd rr) 0 P a w next Q := by
  have old : operA E call fl o A s = some x → o.wpIn (FRd rr) 0 P a w next Q := fun hp => wp_in hnd (operA_ok hE hcall hrs h1 h2 hfit ha hp (by cases x <;> exact hfree) hn hq)
  have hev := evA_ok hrs ha
  unfold operY at hp
  split at hp
  · rename_i f args _ ho
    split at hp
    · rename_i b _ _ hf
      split at hp
      · rename_i vs hvs
        have hfv := hev _ _ hf
        have hav := argsA_ok hev _ _ hvs
        generalize hfe : a.eval f = fv at hfv
        cases hfv with
        | func _ _ _ _ _ hfn => cases hfn
        | yield hb =>
          rename_i l n
          have hrun : (Oper.semAt (FRd rr).round a.eval o).run P w = (Instr.yield l (args.toList.map a.eval).toArray).run P w := by
            rw [semAt_same (.inr (by simp [noDefO, ho]))]
            simp only [execOp, ho, resolve, hfe, Deferred.ofValue, Sem.run_bind, Sem.run_pure, Result.andThen_ok, invoke]
            rw [← arrMap]
            simp
          have fin : ∀ {r s'}, yld b vs s = some (r, s') → Free ρ s.nx s'.nx → (∀ e w', EPost E.G fl ρ s w r s' e w' → (match e with | .returned v => next (a.put o.dst v) w' | .panicked ch => Q (.panic ch) a w' | .outgrown => LetsOut Q)) → o.wpIn (FRd rr) 0 P a w next Q := by
            intro r s' hy hfr hpost
            obtain ⟨f', tm, as, bo, hy1, hy2⟩ := hyld _ _ _ _ _ hy ρ w _ l n hrs h2 hfit hfr hav hb
            refine ⟨fun _ _ => trivial, ?_⟩
            rw [hrun, hy1, Oper.uponIn_round]
            refine ⟨(fun hd => by cases hd), RoundIn.mono (F := FRd rr) hy2 fun e w' he => ?_⟩
            have := hpost e w' he
            cases e <;> exact this
          split at hp
          · rename_i v s' hc
            rw [Option.map_eq_some_iff] at hp
            obtain ⟨A', hput, rfl⟩ := hp
            refine fin hc hfree fun e w' hpost => ?_
            obtain ⟨ρ', hm, hrs', htr⟩ := hpost
            cases e with
            | returned v' => exact hn _ _ rfl _ _ ⟨ρ', put_ok (ha.mono htr.le) hm hput, hrs', htr⟩
            | panicked ch => exact hm.elim
            | outgrown => exact hm.elim
          · rename_i v s' hc
            simp only [Option.some.injEq] at hp
            subst hp
            refine fin hc hfree fun e w' hpost => ?_
            obtain ⟨ρ', hm, hrs', htr⟩ := hpost
            cases e with
            | returned v' => exact hm.elim
            | panicked ch => exact hq _ _ _ rfl _ _ _ ⟨ρ', hm, ha.mono htr.le, hrs', htr⟩
            | outgrown => exact hm.elim
          · cases hp
      · cases hp
    · exact old hp
  · exact old hp

def evOpsY (E : Env) (call : FuncId → List Value → St → Option (AE × St)) (yld : Nat → List Value → St → Option (AE × St)) (fl : Nat) (ops : Array Oper) : List Oper → AA → St → Option (AX × AA × St)
  | [], A, s => some (.normal, A, s)
  | o :: rest, A, s =>
    match guardA ops A.ts o with
    | some true =>
      match operY E call yld fl o A s with
      | some (.next A' s') => evOpsY E call yld fl ops rest A' s'
      | some (.pan v A' s') => some (.pan v, A', s')
      | none => none
    | some false => match A.put o.dst undef with | some A' => evOpsY E call yld fl ops rest A' s | none => none
    | none => none

theorem evOpsY_nx (hup : CallUp call) (hyup : YieldUp yld) {ops : Array Oper} : ∀ (l : List Oper) (A : AA) (s : St) (x : AX) (A' : AA) (s' : St), evOpsY E call yld fl ops l A s = some (x, A', s') → s.nx ≤ s'.nx
  | [], A, s, x, A', s', h => by simp [evOpsY] at h; rw [h.2.2]; exact Nat.le_refl _
  | o :: rest, A, s, x, A', s', h => by
    unfold evOpsY at h
    split at h
    · split at h
      · rename_i A1 s1 hop
        exact Nat.le_trans (operY_nx hup hyup hop) (evOpsY_nx hup hyup rest A1 s1 x A' s' h)
      · rename_i v A1 s1 hop
        have h1 := operY_nx hup hyup hop
        simp only [Option.some.injEq, Prod.mk.injEq] at h
        rw [← h.2.2]; exact h1
      · cases h
    · split at h
      · rename_i A1 hput
        exact evOpsY_nx hup hyup rest A1 s x A' s' h
      · cases h
    · cases h

include hE in
theorem evOpsY_ok {rr : Option Nat} (hcall : CallOK P E fl call) (hyld : YieldOK P E fl yld) (hup : CallUp call) (hyup : YieldUp yld) (h1 : E.G ≤ fl) {ops : Array Oper} (hnd : rr = none ∨ ∀ o ∈ ops.toList, noDefO o = true) : ∀ (l : List Oper) (k : Nat) (A : AA) (s : St) (x : AX) (A' : AA) (s' : St) (ρ : Ren) (a : Act) (w : World), (∀ j, j < l.length → l[j]? = ops[k + j]?) →
    evOpsY E call yld fl ops l A s = some (x, A', s') → RS E.G ρ s.h w → fl ≤ s.nx → Fit s → RA ρ A a → Free ρ s.nx s'.nx → wpOpsIn (FRd rr) 0 P ops (XPost E.G fl ρ s w x A' s') (List.range' k l.length) a w
  | [], k, A, s, x, A', s', ρ, a, w, _, h, hrs, _, _, ha, _ => by
    simp only [evOpsY, Option.some.injEq, Prod.mk.injEq] at h
    obtain ⟨rfl, rfl, rfl⟩ := h
    exact ⟨ρ, trivial, ha, hrs, .refl _ _ _ _⟩
  | o :: rest, k, A, s, x, A', s', ρ, a, w, hl, h, hrs, h2, hfit, ha, hfree => by
    have ho : ops[k]? = some o := by have := hl 0 (by simp); simpa using this.symm
    have hl' : ∀ j, j < rest.length → rest[j]? = ops[k + 1 + j]? := fun j hj => by
      have := hl (j + 1) (by simp; omega)
      rw [show k + 1 + j = k + (j + 1) by omega, ← this]
      simp
    have hndo : rr = none ∨ noDefO o = true := hnd.imp id fun hh => hh o (List.mem_of_getElem? (i := k) (by simpa using ho))
    simp only [List.length_cons, List.range'_succ]
    rw [wpOpsIn_cons]
    simp only [wpOpIn, ho]
    unfold evOpsY at h
    split at h
    · rename_i hg
      rw [guardA_ok ha hg]
      simp only [if_true]
      split at h
      · rename_i A1 s1 hop
        have hn1 := operY_nx hup hyup hop
        have hn2 := evOpsY_nx hup hyup rest A1 s1 x A' s' h
        refine operY_ok hE hcall hyld hrs h1 h2 hfit ha hop (hfree.left hn2) hndo (fun A2 s2 he a' w' hpost => ?_) (fun v A2 s2 he => by cases he)
        cases he
        obtain ⟨ρ1, ha1, hrs1, ht1⟩ := hpost
        have ih := evOpsY_ok hcall hyld hup hyup h1 hnd rest (k + 1) A1 s1 x A' s' ρ1 a' w' hl' h hrs1 (Nat.le_trans h2 ht1.nx) (ht1.fit hfit) ha1 (ht1.free hfree)
        exact wpOpsIn_mono (fun e a w hx => hx.trans ht1) _ _ _ ih
      · rename_i v A1 s1 hop
        simp only [Option.some.injEq, Prod.mk.injEq] at h
        obtain ⟨rfl, rfl, rfl⟩ := h
        refine operY_ok hE hcall hyld hrs h1 h2 hfit ha hop hfree hndo (fun A2 s2 he => by cases he) (fun v2 A2 s2 he e a' w' hpost => ?_)
        cases he
        exact hpost
      · cases h
    · rename_i hg
      rw [guardA_ok ha hg]
      simp only [Bool.false_eq_true, if_false]
      split at h
      · rename_i A1 hput
        exact ⟨fun _ _ => trivial, evOpsY_ok hcall hyld hup hyup h1 hnd rest (k + 1) A1 s x A' s' ρ _ w hl' h hrs h2 hfit (put_ok ha (undefVR ρ) hput) hfree⟩
      · cases h
    · cases h

end
end Go.Ev
