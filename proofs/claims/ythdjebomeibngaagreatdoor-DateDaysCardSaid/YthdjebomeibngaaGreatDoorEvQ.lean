/- A checked interpreter for closed calls, part 17: a region that draws its order. What each operation yields does not hang on the order: each is reckoned from what must come before it alone. -/
import Derived.Test.YthdjebomeibngaaGreatDoorEvP
namespace Go.Ev
open Go Go.MapKept

/-- What is known of a world, as a relation. -/
structure RSR (G : Nat) (ρ : Ren) (has : Nat → AObj → Prop) (w : World) : Prop where
  glob : ∀ i r n, i < G → ρ i = some (r, n) → r = i
  obj : ∀ i o, has i o → ∃ r n o', ρ i = some (r, n) ∧ w.heap[r]? = some o' ∧ OR ρ n o o'
  inj : ∀ i j o o' r n m, has i o → has j o' → ρ i = some (r, n) → ρ j = some (r, m) → i = j

theorem RS.rel {G : Nat} {ρ : Ren} {h : T AObj} {w : World} (hrs : RS G ρ h w) : RSR G ρ (fun i o => h.get i = some o) w := ⟨hrs.glob, hrs.obj, hrs.inj⟩

theorem RSR.weak {G : Nat} {ρ : Ren} {has has' : Nat → AObj → Prop} {w : World} (h : RSR G ρ has w) (hs : ∀ i o, has' i o → has i o) : RSR G ρ has' w :=
  ⟨h.glob, fun i o hi => h.obj i o (hs i o hi), fun i j o o' r n m hi hj => h.inj i j o o' r n m (hs _ _ hi) (hs _ _ hj)⟩

theorem RSR.tree {G : Nat} {ρ : Ren} {has : Nat → AObj → Prop} {h : T AObj} {w : World} (k : RSR G ρ has w) (hs : ∀ i o, h.get i = some o → has i o) : RS G ρ h w :=
  ⟨k.glob, fun i o hi => k.obj i o (hs i o hi), fun i j o o' r n m hi hj => k.inj i j o o' r n m (hs _ _ hi) (hs _ _ hj)⟩

/-- What has become of the world since a region began. -/
structure Since (fl : Nat) (ρ₀ : Ren) (s₀ : St) (w₀ : World) (ρ : Ren) (has : Nat → AObj → Prop) (w : World) : Prop where
  le : Le ρ₀ ρ
  os : w.os = w₀.os
  tape : w.tape = w₀.tape
  output : w.output = w₀.output
  size : w₀.heap.size ≤ w.heap.size
  frame : ∀ r, r < w₀.heap.size → (∀ i o n, fl ≤ i → s₀.h.get i = some o → ρ₀ i ≠ some (r, n)) → w.heap[r]? = w₀.heap[r]?
  own : ∀ i o r n, fl ≤ i → has i o → ρ i = some (r, n) → r < w₀.heap.size → ∃ j o' m, fl ≤ j ∧ s₀.h.get j = some o' ∧ ρ₀ j = some (r, m)

/-- A step that reads what is known in part, and writes nothing that was there. -/
theorem step_read {G fl fi : Nat} {ρ₀ ρ ρ' : Ren} {s₀ : St} {w₀ w w' : World} {has : Nat → AObj → Prop} {h : T AObj} {n : Nat} {s' : St} (hR : RSR G ρ has w) (hS : Since fl ρ₀ s₀ w₀ ρ has w)
    (hrs : RS G ρ' s'.h w') (ht : Tr fi ρ ⟨h, n⟩ w ρ' s' w') (hno : ∀ i, fi ≤ i → h.get i = none) (d : List (Nat × AObj)) (hd : ∀ p ∈ d, s'.h.get p.1 = some p.2 ∧ fi ≤ p.1) :
    RSR G ρ' (fun i o => has i o ∨ (i, o) ∈ d) w' ∧ Since fl ρ₀ s₀ w₀ ρ' (fun i o => has i o ∨ (i, o) ∈ d) w' := by
  have hat : ∀ r, r < w.heap.size → w'.heap[r]? = w.heap[r]? := fun r hr => ht.frame r hr fun i o m hi ho => by rw [hno i hi] at ho; cases ho
  have hold : ∀ i o, has i o → ∃ r m o', ρ i = some (r, m) ∧ r < w.heap.size ∧ w.heap[r]? = some o' ∧ OR ρ m o o' := fun i o hi => by
    obtain ⟨r, m, o', h1, h2, h3⟩ := hR.obj i o hi
    refine ⟨r, m, o', h1, ?_, h2, h3⟩
    rcases Nat.lt_or_ge r w.heap.size with h | h
    · exact h
    · simp [Array.getElem?_eq_none h] at h2
  have hnew : ∀ i o r m, (i, o) ∈ d → ρ' i = some (r, m) → w.heap.size ≤ r := fun i o r m hi hr => by
    obtain ⟨h1, h2⟩ := hd _ hi
    rcases Nat.lt_or_ge r w.heap.size with h | h
    · obtain ⟨j, o', m', hj, hjo, _⟩ := ht.own i o r m h2 h1 hr h
      rw [hno j hj] at hjo; cases hjo
    · exact h
  refine ⟨⟨hrs.glob, ?_, ?_⟩, ⟨hS.le.trans ht.le, ht.os.trans hS.os, ht.tape.trans hS.tape, ht.output.trans hS.output, Nat.le_trans hS.size ht.size, ?_, ?_⟩⟩
  · rintro i o (hi | hi)
    · obtain ⟨r, m, o', h1, h2, h3, h4⟩ := hold i o hi
      exact ⟨r, m, o', ht.le _ _ h1, by rw [hat r h2]; exact h3, h4.mono ht.le⟩
    · exact hrs.obj i o (hd _ hi).1
  · rintro i j o o' r m m' (hi | hi) (hj | hj) hir hjr
    · obtain ⟨r1, m1, _, h1, _⟩ := hold i o hi
      obtain ⟨r2, m2, _, h2, _⟩ := hold j o' hj
      have e1 := ht.le _ _ h1
      have e2 := ht.le _ _ h2
      rw [e1] at hir
      rw [e2] at hjr
      cases hir
      cases hjr
      exact hR.inj i j o o' _ _ _ hi hj h1 h2
    · obtain ⟨r1, m1, _, h1, hlt, _⟩ := hold i o hi
      have e1 := ht.le _ _ h1
      rw [e1] at hir
      cases hir
      have := hnew j o' _ _ hj hjr
      omega
    · obtain ⟨r1, m1, _, h1, hlt, _⟩ := hold j o' hj
      have e1 := ht.le _ _ h1
      rw [e1] at hjr
      cases hjr
      have := hnew i o _ _ hi hir
      omega
    · exact hrs.inj i j o o' r m m' (hd _ hi).1 (hd _ hj).1 hir hjr
  · intro r hr hno'
    rw [hat r (Nat.lt_of_lt_of_le hr hS.size)]
    exact hS.frame r hr hno'
  · rintro i o r m hi (ho | ho) hr hlt
    · obtain ⟨r1, m1, _, h1, _⟩ := hold i o ho
      have e1 := ht.le _ _ h1
      rw [e1] at hr
      cases hr
      exact hS.own i o _ _ hi ho h1 hlt
    · have := hnew i o r m ho hr
      have := hS.size
      omega

/-- A step that knows all, and may write. -/
theorem step_write {fl : Nat} {ρ₀ ρ ρ' : Ren} {s₀ s s' : St} {w₀ w w' : World} (hS : Since fl ρ₀ s₀ w₀ ρ (fun i o => s.h.get i = some o) w) (ht : Tr fl ρ s w ρ' s' w') :
    Since fl ρ₀ s₀ w₀ ρ' (fun i o => s'.h.get i = some o) w' where
  le := hS.le.trans ht.le
  os := ht.os.trans hS.os
  tape := ht.tape.trans hS.tape
  output := ht.output.trans hS.output
  size := Nat.le_trans hS.size ht.size
  frame := fun r hr hno => by
    rw [ht.frame r (Nat.lt_of_lt_of_le hr hS.size) fun i o n hi ho hri => by
      obtain ⟨j, o', m, hj, hjo, hjr⟩ := hS.own i o r n hi ho hri hr
      exact hno j o' m hj hjo hjr]
    exact hS.frame r hr hno
  own := fun i o r n hi ho hr hlt => by
    obtain ⟨j, o', m, hj, hjo, hjr⟩ := ht.own i o r n hi ho hr (Nat.lt_of_lt_of_le hlt hS.size)
    exact hS.own j o' r m hj hjo hjr hlt

theorem Since.weak {fl : Nat} {ρ₀ ρ : Ren} {s₀ : St} {w₀ w : World} {has has' : Nat → AObj → Prop} (h : Since fl ρ₀ s₀ w₀ ρ has w) (hs : ∀ i o, has' i o → has i o) : Since fl ρ₀ s₀ w₀ ρ has' w :=
  ⟨h.le, h.os, h.tape, h.output, h.size, h.frame, fun i o r n hi ho => h.own i o r n hi (hs _ _ ho)⟩

/-- What is reckoned of a region that draws its order. -/
structure Plan where
  anc : Nat → Nat → Bool
  own : Nat → Option Nat
  v : Nat → Value
  gd : Nat → Bool
  cls : Nat → Nat
  lo : Nat → Nat
  hi : Nat → Nat
  d : Nat → List (Nat × AObj)
  W : List Nat
  S : Nat → St

/-- The operands of the operation number i: of what the region itself writes only what surely is written then, or surely is not. -/
def Plan.ev (p : Plan) (G : Nat) (ts : T Value) (i : Nat) (h : T AObj) (x : Operand) : Option Value :=
  match x with
  | .tmp t =>
    match p.own t with
    | none => ts.get t
    | some k => cond (p.anc i k) (some (p.v k)) (cond (p.anc k i) (ts.get t) none)
  | x => evA G h ts x

def Plan.guard (p : Plan) (ts : T Value) (ops : Array Oper) (i : Nat) (o : Oper) : Option Bool :=
  match o.guard with
  | none => some true
  | some (j, want) =>
    match ops.toList[j]? with
    | some oj =>
      match oj.dst with
      | some d => match p.ev 0 ts i .e (.tmp d) with | some (.bool b) => some (cond b want (!want)) | _ => none
      | none => none
    | none => none

/-- The plan is sound. -/
structure Plan.OK (p : Plan) (E : Env) (call : Nat → FuncId → List Value → St → Option (AE × St)) (fl : Nat) (ops : Array Oper) (A : AA) (s : St) : Prop where
  edge : ∀ i o, ops[i]? = some o → ∀ e ∈ o.after.toList, Region.binds .any e = true → e.on < i ∧ p.anc i e.on = true ∧ ∀ k, p.anc e.on k = true → p.anc i k = true
  anc : ∀ i o k, ops[i]? = some o → p.anc i k = true → ∃ e ∈ o.after.toList, Region.binds .any e = true ∧ (k = e.on ∨ p.anc e.on k = true)
  own : ∀ i o t, ops[i]? = some o → o.dst = some t → p.own t = some i ∧ t < A.n
  own' : ∀ t k, p.own t = some k → ∃ o, ops[k]? = some o ∧ o.dst = some t
  gd : ∀ i o, ops[i]? = some o → p.guard A.ts ops i o = some (p.gd i)
  off : ∀ i o, ops[i]? = some o → p.gd i = false → p.v i = undef ∧ p.cls i = 0
  pure : ∀ i o, ops[i]? = some o → p.gd i = true → p.cls i = 0 → ∃ s1, valA E (call s.nx) s.nx o.op (p.ev E.G A.ts i .e) ⟨.e, s.nx⟩ = some (p.v i, s1) ∧ s1.nx = s.nx
  read : ∀ i o, ops[i]? = some o → p.gd i = true → p.cls i = 1 → s.nx ≤ p.lo i ∧ p.lo i ≤ p.hi i ∧ p.hi i ≤ (p.S 0).nx ∧
    ∃ h s1, valA E (call (p.lo i)) (p.lo i) o.op (p.ev E.G A.ts i h) ⟨h, p.lo i⟩ = some (p.v i, s1) ∧ s1.nx = p.hi i ∧ (∀ id x, h.get id = some x → s.h.get id = some x ∨ ∃ k, p.anc i k = true ∧ p.cls k = 1 ∧ (id, x) ∈ p.d k) ∧
      (∀ id, p.lo i ≤ id → h.get id = none) ∧ (∀ q ∈ p.d i, s1.h.get q.1 = some q.2 ∧ p.lo i ≤ q.1)
  apart : ∀ i k, p.cls i = 1 → p.cls k = 1 → i ≠ k → p.hi i ≤ p.lo k ∨ p.hi k ≤ p.lo i
  write : ∀ (j i : Nat), p.W[j]? = some i → p.cls i = 2 ∧ p.gd i = true ∧ ∀ o, ops[i]? = some o → valA E (call fl) fl o.op (p.ev E.G A.ts i (p.S j).h) (p.S j) = some (p.v i, p.S (j + 1))
  two : ∀ i o, ops[i]? = some o → p.gd i = true → p.cls i ≠ 0 → p.cls i ≠ 1 → ∃ j : Nat, p.W[j]? = some i
  first : ∀ id x, (p.S 0).h.get id = some x → s.h.get id = some x ∨ ∃ k, k < ops.size ∧ p.cls k = 1 ∧ p.gd k = true ∧ (id, x) ∈ p.d k
  firstNx : s.nx ≤ (p.S 0).nx
  firstFit : Fit (p.S 0)
  firstLow : ∀ i, i < fl → (p.S 0).h.get i = s.h.get i
  later : ∀ (j i k : Nat), p.W[j]? = some i → p.cls k = 1 → k < ops.size → p.anc i k = true
  chain : ∀ (j j' i i' : Nat), p.W[j]? = some i → p.W[j']? = some i' → j < j' → p.anc i' i = true
  inside : ∀ (j i : Nat), p.W[j]? = some i → i < ops.size

theorem filter_lt {α : Type} {p q : α → Bool} : ∀ (l : List α), (∀ x, q x = true → p x = true) → (∃ x ∈ l, p x = true ∧ q x = false) → (l.filter q).length < (l.filter p).length
  | [], _, h => by obtain ⟨x, hx, _⟩ := h; cases hx
  | y :: l, hs, h => by
    have hle : ∀ l : List α, (l.filter q).length ≤ (l.filter p).length := fun l => by
      induction l with
      | nil => simp
      | cons z l ih =>
        simp only [List.filter_cons]
        by_cases hq : q z = true
        · rw [if_pos hq, if_pos (hs z hq)]; simpa using ih
        · rw [if_neg hq]
          split
          · simp; omega
          · exact ih
    obtain ⟨x, hx, h1, h2⟩ := h
    simp only [List.filter_cons]
    rcases List.mem_cons.1 hx with rfl | hx
    · rw [if_pos h1, if_neg (by rw [h2]; decide)]
      have := hle l
      simp only [List.length_cons]
      omega
    · have ih := filter_lt l hs ⟨x, hx, h1, h2⟩
      by_cases hq : q y = true
      · rw [if_pos hq, if_pos (hs y hq)]; simpa using ih
      · rw [if_neg hq]
        split
        · simp; omega
        · exact ih

def left (ops : Array Oper) (listed : Array Bool) : Nat := ((List.range ops.size).filter fun i => !listed.getD i true).length

/-- What is known of the blocks when the operations of 'listed' are done, m writers among them. -/
def Plan.has (p : Plan) (s : St) (listed : Array Bool) (m : Nat) (i : Nat) (o : AObj) : Prop :=
  if m = 0 then s.h.get i = some o ∨ ∃ k, listed.getD k false = true ∧ p.cls k = 1 ∧ (i, o) ∈ p.d k else (p.S m).h.get i = some o

structure Plan.Inv (p : Plan) (E : Env) (fl : Nat) (ops : Array Oper) (A : AA) (s : St) (ρ₀ : Ren) (w₀ : World) (listed : Array Bool) (ρ : Ren) (a : Act) (w : World) (m : Nat) : Prop where
  sz : listed.size = ops.size
  closed : ∀ j, listed.getD j false = true → ∀ k, p.anc j k = true → listed.getD k false = true
  tsz : a.tmps.size = A.n
  base : ∀ t u, A.ts.get t = some u → (∀ k, p.own t = some k → listed.getD k false = false) → ∃ u', a.tmps[t]? = some u' ∧ VR ρ u u'
  done : ∀ t k, p.own t = some k → listed.getD k false = true → ∃ u', a.tmps[t]? = some u' ∧ VR ρ (p.v k) u'
  defers : DRs ρ A.defers a.defers
  mle : m ≤ p.W.length
  wl : ∀ (j i : Nat), p.W[j]? = some i → (listed.getD i false = true ↔ j < m)
  readers : 0 < m → ∀ k, k < ops.size → p.cls k = 1 → listed.getD k false = true
  heap : RSR E.G ρ (p.has s listed m) w
  since : Since fl ρ₀ s w₀ ρ (p.has s listed m) w
  dom : ∀ id x, ρ id = some x → ρ₀ id = some x ∨ (∃ k, listed.getD k false = true ∧ p.cls k = 1 ∧ p.gd k = true ∧ k < ops.size ∧ p.lo k ≤ id ∧ id < p.hi k) ∨ ((p.S 0).nx ≤ id ∧ id < (p.S m).nx)
  low : ∀ i, i < fl → (p.S m).h.get i = s.h.get i
  fit : Fit (p.S m)
  up : (p.S 0).nx ≤ (p.S m).nx

section
variable {P : Program} {E : Env} {fl : Nat} {call : Nat → FuncId → List Value → St → Option (AE × St)} {ops : Array Oper} {A : AA} {s : St} {p : Plan} {ρ₀ ρ : Ren} {w₀ w : World} {listed : Array Bool} {a : Act} {m : Nat}

/-- Is it ready? -/
theorem ready_spec {i : Nat} (h : i ∈ Region.ready .any ops listed) : ∃ o, ops[i]? = some o ∧ i < ops.size ∧ listed.getD i true = false ∧ ∀ e ∈ o.after.toList, Region.binds .any e = true → listed.getD e.on false = true := by
  unfold Region.ready at h
  rw [List.mem_filter, List.mem_range] at h
  obtain ⟨hi, hb⟩ := h
  rw [Bool.and_eq_true] at hb
  have ho : ops[i]? = some ops[i] := Array.getElem?_eq_getElem hi
  refine ⟨ops[i], ho, hi, by simpa using hb.1, fun e he hbe => ?_⟩
  have h2 := hb.2
  rw [ho] at h2
  simp only [Option.map_some, Option.getD_some, Array.all_eq_true_iff_forall_mem] at h2
  have := h2 e (by simpa using he)
  rw [hbe] at this
  simpa using this

theorem ready_of {i : Nat} (hi : i < ops.size) (hl : listed.getD i true = false) (he : ∀ e ∈ (ops[i]).after.toList, Region.binds .any e = true → listed.getD e.on false = true) : i ∈ Region.ready .any ops listed := by
  unfold Region.ready
  rw [List.mem_filter, List.mem_range]
  refine ⟨hi, ?_⟩
  rw [Array.getElem?_eq_getElem hi]
  simp only [Option.map_some, Option.getD_some, Bool.and_eq_true, Array.all_eq_true_iff_forall_mem]
  refine ⟨by simp [hl], fun e hm => ?_⟩
  cases hb : Region.binds .any e with
  | false => rfl
  | true => simpa using he e (by simpa using hm) hb

theorem getD_tf {i : Nat} (h : listed.getD i true = false) : listed.getD i false = false := by
  by_cases hi : i < listed.size
  · simp [Array.getD, hi] at h ⊢; exact h
  · simp [Array.getD, hi]

theorem getD_lt {i : Nat} (h : listed.getD i true = false) : i < listed.size := by
  rcases Nat.lt_or_ge i listed.size with h' | h'
  · exact h'
  · simp [Array.getD, Nat.not_lt.2 h'] at h

theorem getD_set {i j : Nat} (hi : i < listed.size) (b : Bool) : (listed.setIfInBounds i true).getD j b = if j = i then true else listed.getD j b := by
  simp only [Array.getD_eq_getD_getElem?]
  by_cases e : j = i
  · subst e; simp [hi]
  · rw [Array.getElem?_setIfInBounds_ne (Ne.symm e), if_neg e]

/-- All ancestors of what is ready are done. -/
theorem anc_listed (hp : p.OK E call fl ops A s) (hI : p.Inv E fl ops A s ρ₀ w₀ listed ρ a w m) {i : Nat} (hr : i ∈ Region.ready .any ops listed) : ∀ k, p.anc i k = true → listed.getD k false = true := by
  obtain ⟨o, ho, _, _, hd⟩ := ready_spec hr
  intro k hk
  obtain ⟨e, he, hb, h⟩ := hp.anc i o k ho hk
  have hl := hd e he hb
  rcases h with rfl | h
  · exact hl
  · exact hI.closed _ hl k h

/-- The operands of what is ready. -/
theorem plan_ev (hp : p.OK E call fl ops A s) (hI : p.Inv E fl ops A s ρ₀ w₀ listed ρ a w m) {i : Nat} (hr : i ∈ Region.ready .any ops listed) {h : T AObj} (hh : ∀ id x, h.get id = some x → p.has s listed m id x) (G : Nat) (hG : G = E.G ∨ h = .e)
    (x : Operand) (u : Value) (hx : p.ev G A.ts i h x = some u) : VR ρ u (a.eval x) := by
  obtain ⟨o, ho, hin, hun, _⟩ := ready_spec hr
  have hun' := getD_tf hun
  unfold Plan.ev at hx
  split at hx
  · rename_i t
    have key : ∃ u', a.tmps[t]? = some u' ∧ VR ρ u u' := by
      split at hx
      · rename_i hn
        exact hI.base t u hx fun k hk => by rw [hn] at hk; cases hk
      · rename_i k hk
        cases h1 : p.anc i k with
        | true =>
          rw [h1] at hx
          simp only [cond_true, Option.some.injEq] at hx
          subst hx
          exact hI.done t k hk (anc_listed hp hI hr k h1)
        | false =>
          rw [h1] at hx
          simp only [cond_false] at hx
          cases h2 : p.anc k i with
          | false => rw [h2] at hx; cases hx
          | true =>
            rw [h2] at hx
            simp only [cond_true] at hx
            refine hI.base t u hx fun k' hk' => ?_
            rw [hk] at hk'
            cases hk'
            cases h3 : listed.getD k false with
            | false => rfl
            | true => rw [hI.closed k h3 i h2] at hun'; cases hun'
    obtain ⟨u', h1, h2⟩ := key
    have : a.eval (.tmp t) = u' := by simp [Act.eval, h1]
    rw [this]
    exact h2
  · rename_i hnt
    have hrs := hI.heap.tree hh
    have hra : RA ρ { ts := .e, n := A.n, defers := A.defers } a := ⟨hI.tsz, fun t v hv => by simp [T.get] at hv, hI.defers⟩
    cases x with
    | tmp t => exact absurd rfl (hnt t)
    | const v => exact evA_ok (G := E.G) hrs hra (.const v) u hx
    | func f => exact evA_ok (G := E.G) hrs hra (.func f) u hx
    | global g =>
      rcases hG with rfl | rfl
      · exact evA_ok hrs hra (.global g) u hx
      · simp [evA, T.get] at hx

theorem plan_guard (hp : p.OK E call fl ops A s) (hI : p.Inv E fl ops A s ρ₀ w₀ listed ρ a w m) {i : Nat} (hr : i ∈ Region.ready .any ops listed) {o : Oper} (ho : ops[i]? = some o) : Region.wanted o (yielded ops a.tmps) = p.gd i := by
  have hg := hp.gd i o ho
  unfold Plan.guard at hg
  unfold Region.wanted
  split at hg
  · rename_i hn
    rw [hn]
    simp only [Option.some.injEq] at hg
    exact hg
  · rename_i j want hn
    rw [hn]
    split at hg
    · rename_i oj hj
      split at hg
      · rename_i d hd
        split at hg
        · rename_i b hb
          simp only [Option.some.injEq] at hg
          have hv := plan_ev hp hI hr (h := .e) (by simp [T.get]) 0 (.inr rfl) _ _ hb
          have hj' : ops[j]? = some oj := by simpa using hj
          generalize hq : a.eval (.tmp d) = q at hv
          cases hv
          have h1 : a.tmps[d]? = some (.bool b) := by
            simp only [Act.eval] at hq
            rw [Array.getD_eq_getD_getElem?] at hq
            cases h2 : a.tmps[d]? with
            | none => rw [h2] at hq; simp [undef] at hq
            | some z => rw [h2] at hq; simpa using hq
          simp only [yielded, hj', Option.bind_some, hd, h1]
          rw [← hg]
          cases b <;> cases want <;> rfl
        · cases hg
      · cases hg
    · cases hg

end
end Go.Ev
