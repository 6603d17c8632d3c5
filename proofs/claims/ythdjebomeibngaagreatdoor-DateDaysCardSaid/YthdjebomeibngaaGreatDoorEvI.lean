/- A checked interpreter for closed calls, part 9: maps and append. -/
import Derived.Test.YthdjebomeibngaaGreatDoorEvH
namespace Go.Ev
open Go Go.MapKept

/-! Maps. -/

def keyB (d : TypeDesc) (k : Value) : Bool :=
  match d, k with
  | .bool, .bool _ => true
  | .int j, .int k _ => kEq j k
  | .string, .string _ => true
  | _, _ => false

theorem keyB_ok {d : TypeDesc} {k : Value} (h : keyB d k = true) : IsKey d k := by
  unfold keyB at h
  split at h
  · trivial
  · exact (kEq_spec h).symm
  · trivial
  · cases h

theorem keyB_same {ρ : Ren} {d : TypeDesc} {k k' : Value} (h : keyB d k = true) (hk : VR ρ k k') : k' = k ∧ plainV k = true := by
  unfold keyB at h
  split at h
  · cases hk; exact ⟨rfl, rfl⟩
  · cases hk; exact ⟨rfl, rfl⟩
  · cases hk; exact ⟨rfl, rfl⟩
  · cases h

theorem eqCell_now {d : TypeDesc} {a b : Value} {r : Bool} (h : eqCell d a b = some r) : Instr.sameNow d a b = some r := by
  unfold eqCell at h
  split at h
  · rename_i x y
    simp only [Option.some.injEq] at h
    subst h
    cases x <;> cases y <;> rfl
  · rename_i j x k y
    cases hk : kEq j k with
    | false => rw [hk] at h; cases h
    | true =>
      rw [hk] at h
      simp only [cond_true, Option.some.injEq] at h
      subst h
      have := kEq_spec hk
      subst this
      simp [Instr.sameNow, iEq_eq]
  · rename_i x y
    simp only [Option.some.injEq] at h
    subst h
    simp [Instr.sameNow, bEq_eq, beq_toListBytes, ByteArray.toList_eq]
  · cases h

theorem eqCell_true {d : TypeDesc} {a b : Value} (h : eqCell d a b = some true) : a = b := by
  unfold eqCell at h
  split at h
  · rename_i x y
    cases x <;> cases y <;> simp_all
  · rename_i j x k y
    cases hk : kEq j k with
    | false => rw [hk] at h; cases h
    | true =>
      rw [hk] at h
      simp only [cond_true, Option.some.injEq] at h
      rw [iEq_eq] at h
      rw [kEq_spec hk, eq_of_beq h]
  · rename_i x y
    simp only [Option.some.injEq, bEq_eq] at h
    have e : x.data.toList = y.data.toList := eq_of_beq h
    have : x = y := by
      apply ByteArray.ext
      exact Array.ext' e
    rw [this]
  · cases h

def findA (d : TypeDesc) (k : Value) : List MapEntry → Nat → Option (Option (Nat × Value))
  | [], _ => some none
  | e :: es, i =>
    match eqCell d k e.key with
    | some true => some (some (i, e.val))
    | some false => findA d k es (i + 1)
    | none => none

/-- An entry, and what it stands for. -/
def ER (ρ : Ren) (x x' : MapEntry) : Prop := x.key = x'.key ∧ plainV x.key = true ∧ VR ρ x.val x'.val ∧ x.born = x'.born

/-- What is found. -/
def FR (ρ : Ren) : Option (Nat × Value) → Option (Nat × Value) → Prop
  | none, none => True
  | some (i, v), some (j, v') => i = j ∧ VR ρ v v'
  | _, _ => False

theorem findA_ok {ρ : Ren} {d : TypeDesc} {k : Value} : ∀ (es es' : List MapEntry) (i : Nat) (r : Option (Nat × Value)), es.length = es'.length → (∀ (j : Nat) (x x' : MapEntry), es[j]? = some x → es'[j]? = some x' → ER ρ x x') →
    findA d k es i = some r → ∃ r', Instr.findNow d k es' i = some r' ∧ FR ρ r r' ∧ (∀ j v, r = some (j, v) → i ≤ j ∧ (es[j - i]?).map (·.key) = some k)
  | [], es', i, r, hl, _, h => by
    have : es' = [] := List.length_eq_zero_iff.1 (by simpa using hl.symm)
    subst this
    simp [findA] at h
    subst h
    exact ⟨none, rfl, trivial, fun j v hh => by cases hh⟩
  | e :: es, es', i, r, hl, he, h => by
    cases es' with
    | nil => simp at hl
    | cons e' es' =>
      have h0 := he 0 e e' rfl rfl
      unfold findA at h
      split at h
      · rename_i hq
        simp only [Option.some.injEq] at h
        subst h
        refine ⟨some (i, e'.val), ?_, ⟨rfl, h0.2.2.1⟩, ?_⟩
        · have := eqCell_now hq
          rw [h0.1] at this
          simp [Instr.findNow, this]
        · intro j v hj
          simp only [Option.some.injEq, Prod.mk.injEq] at hj
          obtain ⟨rfl, rfl⟩ := hj
          refine ⟨Nat.le_refl _, ?_⟩
          simp [eqCell_true hq]
      · rename_i hq
        obtain ⟨r', h1, h2, h3⟩ := findA_ok es es' (i + 1) r (by simpa using hl) (fun j x x' hx hx' => he (j + 1) x x' (by simpa using hx) (by simpa using hx')) h
        refine ⟨r', ?_, h2, ?_⟩
        · have := eqCell_now hq
          rw [h0.1] at this
          simp [Instr.findNow, this, h1]
        · intro j v hj
          obtain ⟨h4, h5⟩ := h3 j v hj
          refine ⟨by omega, ?_⟩
          rw [show j - i = (j - (i + 1)) + 1 by omega]
          simpa using h5
      · cases h

section
variable {P : Program} {E : Env} (hE : EnvOK P E) {fl : Nat} {ρ : Ren} {s : St} {w : World}

/-- A map's entries. -/
theorem RS.entries {G : Nat} {h : T AObj} (hrs : RS G ρ h w) {b r n : Nat} {es : List MapEntry} {cl : Nat} (hb : h.get b = some (.map es cl)) (hr : ρ b = some (r, n)) :
    ∃ es' : Array MapEntry, w.heap[r]? = some (.map es' cl) ∧ es.length = es'.toList.length ∧ ∀ (j : Nat) (x x' : MapEntry), es[j]? = some x → es'.toList[j]? = some x' → ER ρ x x' := by
  obtain ⟨r', n', o', h1, h2, h3⟩ := hrs.obj b _ hb
  rw [hr] at h1
  cases h1
  cases h3 with
  | map _ es' _ hs he => exact ⟨es', h2, by simpa using hs, fun j x x' hx hx' => he j x x' hx (by simpa using hx')⟩

def lookupA (E : Env) (h : T AObj) (t : TypeId) (m k : Value) (commaOk : Bool) : Option Value :=
  match E.tt t with
  | some (.map kt et, _) =>
    match E.tt kt, E.tt et with
    | some (d, _), some (_, ie) =>
      match (match m with | .map none => some [] | .map (some b) => (match h.get b with | some (.map es _) => some es | _ => none) | _ => none) with
      | some es =>
        cond (keyB d k)
          (match findA d k es 0 with
           | some (some (_, v)) => some (cond commaOk (.tuple #[v, .bool true]) v)
           | some none => match ie.zero with | some z => cond (plainV z) (some (cond commaOk (.tuple #[z, .bool false]) z)) none | none => none
           | none => none)
          none
      | none => none
    | _, _ => none
  | _ => none

theorem VR.pair {ρ : Ren} {a a' b b' : Value} (h : VR ρ a a') (k : VR ρ b b') : VR ρ (.tuple #[a, b]) (.tuple #[a', b']) :=
  VR.tupleOf (VRs.cons h (VRs.cons k (VRs.nil ρ)))

include hE in
theorem lookupA_ok (hrs : RS E.G ρ s.h w) {t : TypeId} {m m' k k' v : Value} {c : Bool} (hm : VR ρ m m') (hk : VR ρ k k') (hp : lookupA E s.h t m k c = some v) : ∃ v', (Instr.lookup t m' k' c).run P w = .ok v' w ∧ VR ρ v v' := by
  unfold lookupA at hp
  split at hp
  · rename_i kt et i ht
    split at hp
    · rename_i d i1 i2 ie hkt het
      split at hp
      · rename_i es hes
        cases hkb : keyB d k with
        | false => rw [hkb] at hp; cases hp
        | true =>
          rw [hkb] at hp
          simp only [cond_true] at hp
          obtain ⟨rfl, _⟩ := keyB_same hkb hk
          have hes' : ∃ es' : Array MapEntry, ((m' = .map none ∧ es' = #[]) ∨ ∃ r cl, m' = .map (some r) ∧ w.heap[r]? = some (.map es' cl)) ∧
              es.length = es'.toList.length ∧ ∀ (j : Nat) (x x' : MapEntry), es[j]? = some x → es'.toList[j]? = some x' → ER ρ x x' := by
            cases hm with
            | mapNil => simp at hes; subst hes; exact ⟨#[], .inl ⟨rfl, rfl⟩, rfl, by simp⟩
            | map hb =>
              simp only at hes
              split at hes
              · rename_i es2 cl hg
                simp only [Option.some.injEq] at hes
                subst hes
                obtain ⟨es', h1, h2, h3⟩ := RS.entries hrs hg hb
                exact ⟨es', .inr ⟨_, cl, rfl, h1⟩, h2, h3⟩
              · cases hes
            | _ => cases hes
          obtain ⟨es', hmm, hl, he⟩ := hes'
          have hkd := (hE.tt _ _ _ hkt).1
          have hck : ∀ em : Bool, (Instr.checkKey em 10000 kt k').run P w = .ok () w := fun em => run_checkKey hkd (keyB_ok hkb) em 9999
          split at hp
          · rename_i j u hf
            simp only [Option.some.injEq] at hp
            subst hp
            obtain ⟨r', h1, h2, _⟩ := findA_ok (ρ := ρ) es es'.toList 0 _ hl he hf
            cases r' with
            | none => cases h2
            | some x =>
              obtain ⟨j', u'⟩ := x
              obtain ⟨_, hu⟩ := h2
              have hfk := run_findKey (P := P) (w := w) hkd h1
              refine ⟨if c then .tuple #[u', .bool true] else u', ?_, ?_⟩
              · rcases hmm with ⟨rfl, rfl⟩ | ⟨r, cl, rfl, hw⟩
                · simp [Instr.findNow] at h1
                · simp [Instr.lookup, run_und hE ht, getObj, Sem.run, hw, hck, hfk]
              · cases c
                · exact hu
                · exact hu.pair (.bool true)
          · rename_i hf
            split at hp
            · rename_i z hz
              cases hpl : plainV z with
              | false => rw [hpl] at hp; cases hp
              | true =>
                rw [hpl] at hp
                simp only [cond_true, Option.some.injEq] at hp
                subst hp
                obtain ⟨r', h1, h2, _⟩ := findA_ok (ρ := ρ) es es'.toList 0 _ hl he hf
                cases r' with
                | some x => cases h2
                | none =>
                  have hfk := run_findKey (P := P) (w := w) hkd h1
                  refine ⟨if c then .tuple #[z, .bool false] else z, ?_, ?_⟩
                  · rcases hmm with ⟨rfl, rfl⟩ | ⟨r, cl, rfl, hw⟩
                    · have hfk' : (Instr.findKey kt k' []).run P w = .ok none w := hfk
                      simp [Instr.lookup, run_und hE ht, hck, hfk', run_zero hE het hz]
                    · simp [Instr.lookup, run_und hE ht, getObj, Sem.run, hw, hck, hfk, run_zero hE het hz]
                  · cases c
                    · exact .of_plain hpl
                    · exact (VR.of_plain hpl).pair (.bool false)
            · cases hp
          · cases hp
      · cases hp
    · cases hp
  · cases hp

end
end Go.Ev
