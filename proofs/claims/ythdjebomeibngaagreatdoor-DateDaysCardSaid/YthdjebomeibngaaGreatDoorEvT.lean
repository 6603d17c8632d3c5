/- A checked interpreter for closed calls, part 20: a plan is made, operation by operation. -/
import Derived.Test.YthdjebomeibngaaGreatDoorEvS
namespace Go.Ev
open Go Go.MapKept

/-- What is reckoned of one operation: is it done; of what class (0: nothing of memory, 1: reads and makes, 2: writes); its value; the numbers and blocks that it has made; the state behind it. -/
structure Rec where
  g : Bool
  c : Nat
  v : Value
  lo : Nat
  hi : Nat
  d : List (Nat × AObj)
  st : St

def planOf (ms D : T Nat) (f : Nat → Option Rec) (W : List Nat) (S : Nat → St) : Plan where
  anc := ancT ms
  own := D.get
  v k := match f k with | some r => r.v | none => undef
  gd k := match f k with | some r => r.g | none => false
  cls k := match f k with | some r => r.c | none => 0
  lo k := match f k with | some r => r.lo | none => 0
  hi k := match f k with | some r => r.hi | none => 0
  d k := match f k with | some r => r.d | none => []
  W := W
  S := S

theorem plan_ev_congr {ms D : T Nat} {f f' : Nat → Option Rec} {W W' : List Nat} {S S' : Nat → St} {i : Nat} (h : ∀ k, ancT ms i k = true → f k = f' k) (G : Nat) (ts : T Value) (hp : T AObj) (x : Operand) :
    (planOf ms D f W S).ev G ts i hp x = (planOf ms D f' W' S').ev G ts i hp x := by
  unfold Plan.ev
  cases x with
  | tmp t =>
    simp only [planOf]
    cases hD : D.get t with
    | none => rfl
    | some k =>
      simp only
      cases ha : ancT ms i k with
      | true => rw [h k ha]
      | false => rfl
  | _ => rfl

theorem plan_guard_congr {ms D : T Nat} {f f' : Nat → Option Rec} {W W' : List Nat} {S S' : Nat → St} {i : Nat} (h : ∀ k, ancT ms i k = true → f k = f' k) (ts : T Value) (ops : Array Oper) (o : Oper) :
    (planOf ms D f W S).guard ts ops i o = (planOf ms D f' W' S').guard ts ops i o := by
  unfold Plan.guard
  cases o.guard with
  | none => rfl
  | some jw =>
    obtain ⟨j, want⟩ := jw
    simp only
    cases ops.toList[j]? with
    | none => rfl
    | some oj =>
      simp only
      cases oj.dst with
      | none => rfl
      | some d => simp only [plan_ev_congr (W' := W') (S' := S') h]

/-- The blocks that an operation may look at: those of the start, and those that its ancestors have made. -/
def heapAt (prev : T Rec) (ms : T Nat) (i : Nat) (base : T AObj) : Nat → T AObj
  | 0 => base
  | k + 1 =>
    cond (ancT ms i k)
      (match prev.get k with
       | some r => cond (Nat.beq r.c 1) (addAll (heapAt prev ms i base k) r.d) (heapAt prev ms i base k)
       | none => heapAt prev ms i base k)
      (heapAt prev ms i base k)

theorem heapAt_get {prev : T Rec} {ms : T Nat} {i : Nat} {base : T AObj} : ∀ (n : Nat), (∀ k r, k < n → prev.get k = some r → ∀ q ∈ r.d, ok q.1 = true) → ∀ (id : Nat) (x : AObj), (heapAt prev ms i base n).get id = some x →
    base.get id = some x ∨ ∃ k r, k < n ∧ ancT ms i k = true ∧ prev.get k = some r ∧ r.c = 1 ∧ (id, x) ∈ r.d
  | 0, _, _, _, h => .inl h
  | n + 1, hok, id, x, h => by
    have up : ∀ {id x}, (heapAt prev ms i base n).get id = some x → base.get id = some x ∨ ∃ k r, k < n + 1 ∧ ancT ms i k = true ∧ prev.get k = some r ∧ r.c = 1 ∧ (id, x) ∈ r.d := fun h => by
      rcases heapAt_get n (fun k r hk => hok k r (by omega)) _ _ h with h | ⟨k, r, h1, h2⟩
      · exact .inl h
      · exact .inr ⟨k, r, by omega, h2⟩
    unfold heapAt at h
    cases ha : ancT ms i n with
    | false => rw [ha] at h; exact up h
    | true =>
      rw [ha] at h
      simp only [cond_true] at h
      split at h
      · rename_i r hr
        cases hc : Nat.beq r.c 1 with
        | false => rw [hc] at h; exact up h
        | true =>
          rw [hc] at h
          simp only [cond_true] at h
          rcases addAll_get r.d id x (hok n r (by omega) hr) h with h1 | h1
          · exact .inr ⟨n, r, by omega, ha, hr, Nat.eq_of_beq_eq_true hc, h1⟩
          · exact up h1
      · exact up h

/-- Of what class an operation is at first sight. -/
def clsO : Op → Nat
  | .store .. | .insert .. | .mapUpdate .. => 2
  | .call { callee := .builtin .append, .. } => 2
  | .call { callee := .value _, .. } | .alloc _ | .box .. | .buildSlice .. | .makeMap .. | .makeSlice .. => 1
  | _ => 0

def readRec (E : Env) (call : Nat → FuncId → List Value → St → Option (AE × St)) (p : Plan) (A : AA) (base : T AObj) (ms : T Nat) (prev : T Rec) (i : Nat) (o : Oper) (cur : St) : Option Rec :=
  match valA E (call cur.nx) cur.nx o.op (p.ev E.G A.ts i (heapAt prev ms i base i)) ⟨heapAt prev ms i base i, cur.nx⟩ with
  | some (v, s1) =>
    let d := cond (plainV v) [] (blocksFrom s1.h cur.nx (s1.nx - cur.nx))
    some { g := true, c := 1, v, lo := cur.nx, hi := s1.nx, d, st := ⟨addAll cur.h d, s1.nx⟩ }
  | none => none

def stepRec (E : Env) (call : Nat → FuncId → List Value → St → Option (AE × St)) (fl : Nat) (ops : Array Oper) (A : AA) (s : St) (ms D : T Nat) (prev : T Rec) (i : Nat) (o : Oper) (cur : St) (wr : Bool) : Option Rec :=
  let p := planOf ms D prev.get [] (fun _ => s)
  match p.guard A.ts ops i o with
  | some false => some { g := false, c := 0, v := undef, lo := 0, hi := 0, d := [], st := cur }
  | some true =>
    match clsO o.op with
    | 2 =>
      match valA E (call fl) fl o.op (p.ev E.G A.ts i cur.h) cur with
      | some (v, st) => some { g := true, c := 2, v, lo := 0, hi := 0, d := [], st }
      | none => none
    | 1 => cond wr none (readRec E call p A s.h ms prev i o cur)
    | _ =>
      match valA E (call s.nx) s.nx o.op (p.ev E.G A.ts i .e) ⟨.e, s.nx⟩ with
      | some (v, s1) => cond (Nat.beq s1.nx s.nx) (some { g := true, c := 0, v, lo := 0, hi := 0, d := [], st := cur }) (cond wr none (readRec E call p A s.h ms prev i o cur))
      | none => cond wr none (readRec E call p A s.h ms prev i o cur)
  | none => none

def mkRecs (E : Env) (call : Nat → FuncId → List Value → St → Option (AE × St)) (fl : Nat) (ops : Array Oper) (A : AA) (s : St) (ms D : T Nat) : List Oper → Nat → T Rec → St → Bool → Option (List Rec)
  | [], _, _, _, _ => some []
  | o :: rest, i, prev, cur, wr =>
    match stepRec E call fl ops A s ms D prev i o cur wr with
    | some r =>
      match mkRecs E call fl ops A s ms D rest (i + 1) (prev.set deep i (some r)) r.st (wr || Nat.beq r.c 2) with
      | some rs => some (r :: rs)
      | none => none
    | none => none

/-- The state ahead of the number j of a list of records. -/
def stAt (cur : St) (rs : List Rec) (j : Nat) : St :=
  match j with
  | 0 => cur
  | j + 1 => match rs[j]? with | some r => r.st | none => cur

def anyW (rs : List Rec) : Bool := rs.any fun r => Nat.beq r.c 2

section
variable {E : Env} {call : Nat → FuncId → List Value → St → Option (AE × St)} {fl : Nat} {ops : Array Oper} {A : AA} {s : St} {ms D : T Nat}

theorem mkRecs_spec : ∀ (l : List Oper) (i : Nat) (prev : T Rec) (cur : St) (wr : Bool) (rs : List Rec), i + l.length ≤ 1000000000 → mkRecs E call fl ops A s ms D l i prev cur wr = some rs →
    rs.length = l.length ∧ ∀ (j : Nat) (o : Oper), l[j]? = some o → ∃ r prevj, rs[j]? = some r ∧ stepRec E call fl ops A s ms D prevj (i + j) o (stAt cur rs j) (wr || anyW (rs.take j)) = some r ∧
      (∀ k, k < j → prevj.get (i + k) = rs[k]?) ∧ (∀ k, k < i → prevj.get k = prev.get k)
  | [], _, _, _, _, rs, _, h => by
    simp [mkRecs] at h
    subst h
    exact ⟨rfl, fun j o ho => by simp at ho⟩
  | o :: l, i, prev, cur, wr, rs, hn, h => by
    unfold mkRecs at h
    split at h
    · rename_i r hr
      split at h
      · rename_i rs' hrs
        simp only [Option.some.injEq] at h
        subst h
        simp only [List.length_cons] at hn
        obtain ⟨h1, h2⟩ := mkRecs_spec l (i + 1) _ r.st _ rs' (by omega) hrs
        have hget : ∀ k, (prev.set deep i (some r)).get k = if k = i then some r else prev.get k := fun k => T.get_set _ _ _ _ _ (by simp only [deep]; omega)
        refine ⟨by simp [h1], fun j o' ho' => ?_⟩
        cases j with
        | zero =>
          simp at ho'
          subst ho'
          refine ⟨r, prev, rfl, ?_, fun k hk => by omega, fun _ _ => rfl⟩
          have : anyW ([] : List Rec) = false := rfl
          simp only [List.take_zero, this, Bool.or_false, Nat.add_zero, stAt]
          exact hr
        | succ j =>
          obtain ⟨r', prevj, g1, g2, g3, g4⟩ := h2 j o' (by simpa using ho')
          refine ⟨r', prevj, by simpa using g1, ?_, fun k hk => ?_, fun k hk => ?_⟩
          · have e1 : i + 1 + j = i + (j + 1) := by omega
            have e2 : stAt r.st rs' j = stAt cur (r :: rs') (j + 1) := by
              cases j with
              | zero => rfl
              | succ j =>
                have hlt : j < rs'.length := by
                  have : j + 1 < l.length := by
                    rcases Nat.lt_or_ge (j + 1) l.length with h | h
                    · exact h
                    · simp [List.getElem?_eq_none h] at ho'
                  omega
                simp [stAt, List.getElem?_eq_getElem hlt]
            have e3 : ((wr || Nat.beq r.c 2) || anyW (rs'.take j)) = (wr || anyW ((r :: rs').take (j + 1))) := by
              simp [anyW, Bool.or_assoc]
            rw [e1, e2, e3] at g2
            exact g2
          · cases k with
            | zero =>
              rw [Nat.add_zero, g4 i (by omega), hget, if_pos rfl]
              rfl
            | succ k =>
              have := g3 k (by omega)
              rw [show i + 1 + k = i + (k + 1) by omega] at this
              simpa using this
          · rw [g4 k (by omega), hget, if_neg (by omega)]
      · cases h
    · cases h

end
end Go.Ev
