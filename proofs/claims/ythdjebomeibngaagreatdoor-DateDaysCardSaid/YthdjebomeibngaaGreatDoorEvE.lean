/- A checked interpreter for closed calls, part 5: parts of values and addresses, lengths, lookups. -/
import Derived.Test.YthdjebomeibngaaGreatDoorEvD
namespace Go.Ev
open Go

section
variable {P : Program} {E : Env} (hE : EnvOK P E) {G : Nat} {ρ : Ren} {h : T AObj} {w : World}
include hE

/-! A field of a struct, a part of an array. -/

def partA (E : Env) (t : TypeId) (cs : List Value) (o : Nat) : Option Value :=
  match E.tt t with
  | some (d, i) => cond (aggD d) ((midOf cs o i.size).map fun l => .agg l.toArray) (cs[o]?)
  | none => none

theorem partA_ok {t : TypeId} {cs : List Value} {cs' : Array Value} {o : Nat} {v : Value} (hv : VRs ρ cs cs'.toList) (hp : partA E t cs o = some v) : ∃ v', (part t cs' o).run P w = .ok v' w ∧ VR ρ v v' := by
  unfold partA at hp
  split at hp
  · rename_i d i ht
    cases ha : aggD d with
    | true =>
      rw [ha] at hp
      simp only [cond_true, Option.map_eq_some_iff] at hp
      obtain ⟨l, hm, rfl⟩ := hp
      obtain ⟨h1, h2⟩ := midOf_some hm
      have hvs := (hv.drop o).take i.size
      rw [← h1] at hvs
      refine ⟨.agg (cs'.extract o (o + i.size)), by simp [part, run_isAgg hE ht, ha, run_size hE ht], ?_⟩
      have e : cs'.extract o (o + i.size) = ((cs'.toList.drop o).take i.size).toArray := by
        apply Array.ext'
        simp [Array.toList_extract, List.extract]
      rw [e]
      exact VR.aggOf hvs
    | false =>
      rw [ha] at hp
      simp only [cond_false] at hp
      obtain ⟨v', h1, h2⟩ := hv.get hp
      exact ⟨v', part_cell hE ht ha (by simpa using h1) w, h2⟩
  · cases hp

def fieldA (E : Env) (t : TypeId) (x : Value) (f : Nat) : Option Value :=
  match E.tt t, x with
  | some (.struct fs, _), .agg cs => match fs[f]? with | some fd => partA E fd.type cs.toList fd.offset | none => none
  | _, _ => none

theorem fieldA_ok {t : TypeId} {x x' v : Value} {f : Nat} (hx : VR ρ x x') (hp : fieldA E t x f = some v) : ∃ v', (Instr.field t x' f).run P w = .ok v' w ∧ VR ρ v v' := by
  unfold fieldA at hp
  split at hp
  · rename_i fs i cs ht
    obtain ⟨cs', rfl, hv⟩ := hx.agg_inv
    split at hp
    · rename_i fd hf
      obtain ⟨v', h1, h2⟩ := partA_ok hE (w := w) hv hp
      exact ⟨v', by simp [Instr.field, run_und hE ht, hf, asAgg, h1], h2⟩
    · cases hp
  · cases hp

/-- The address of a field: fields without a cell are left out. -/
def fieldAtA (E : Env) (t : TypeId) (x : Value) (f : Nat) : Option Value :=
  match E.tt t, x with
  | some (.struct fs, _), .pointer (some ⟨b, o, none⟩) =>
    match fs[f]? with
    | some fd => match E.tt fd.type with | some (_, i) => cond (Nat.beq i.size 0) none (some (.pointer (some ⟨b, o + fd.offset, none⟩))) | none => none
    | none => none
  | _, _ => none

theorem fieldAtA_ok {t : TypeId} {x x' v : Value} {f : Nat} (hx : VR ρ x x') (hp : fieldAtA E t x f = some v) : ∃ v', (Instr.fieldAt t x' f).run P w = .ok v' w ∧ VR ρ v v' := by
  unfold fieldAtA at hp
  split at hp
  · rename_i fs i b o ht
    cases hx with
    | ptr _ hb =>
      rename_i r n
      split at hp
      · rename_i fd hf
        split at hp
        · rename_i d j hj
          cases hs : Nat.beq j.size 0 with
          | true => rw [hs] at hp; cases hp
          | false =>
            rw [hs] at hp
            simp only [cond_false, Option.some.injEq] at hp
            subst hp
            have := Nat.ne_of_beq_eq_false hs
            exact ⟨.pointer (some ⟨r, o + fd.offset, none⟩), by simp [Instr.fieldAt, run_und hE ht, hf, Instr.sureAddr, fieldPlace, run_size hE hj, this, add_none], .ptr _ hb⟩
        · cases hp
      · cases hp
  · cases hp

/-- An index, and what it is at most. -/
def ixA (x : Value) (len : Nat) : Option Nat :=
  match x with
  | .int _ (.ofNat i) => cond (Nat.ble (i + 1) len) (some i) none
  | _ => none

omit hE in
theorem ixA_ok {x x' : Value} {len i : Nat} (hx : VR ρ x x') (hi : ixA x len = some i) : ∃ k, x' = .int k (i : Int) ∧ i < len := by
  unfold ixA at hi
  split at hi
  · rename_i k i'
    cases hx
    cases hb : Nat.ble (i' + 1) len with
    | false => rw [hb] at hi; cases hi
    | true =>
      rw [hb] at hi
      simp only [cond_true, Option.some.injEq] at hi
      subst hi
      exact ⟨k, rfl, Nat.le_of_ble_eq_true hb⟩
  · cases hi

def indexA (E : Env) (t : TypeId) (x ix : Value) : Option Value :=
  match E.tt t, x with
  | some (.array len e, _), .agg cs =>
    match ixA ix len, E.tt e with
    | some i, some (_, j) => partA E e cs.toList (i * j.size)
    | _, _ => none
  | some (.string, _), .string s =>
    match ixA ix s.data.toList.length with
    | some i => match s.data.toList[i]? with | some b => some (.int .u8 b.toNat) | none => none
    | none => none
  | _, _ => none

theorem indexA_ok {t : TypeId} {x x' ix ix' v : Value} (hx : VR ρ x x') (hix : VR ρ ix ix') (hp : indexA E t x ix = some v) : ∃ v', (Instr.index t x' ix').run P w = .ok v' w ∧ VR ρ v v' := by
  unfold indexA at hp
  split at hp
  · rename_i len e j cs ht
    obtain ⟨cs', rfl, hv⟩ := hx.agg_inv
    split at hp
    · rename_i i d k hi he
      obtain ⟨q, rfl, hlt⟩ := ixA_ok hix hi
      obtain ⟨v', h1, h2⟩ := partA_ok hE (w := w) hv hp
      exact ⟨v', by simp [Instr.index, asIntOf, run_und hE ht, hlt, run_size hE he, h1], h2⟩
    · cases hp
  · rename_i j s ht
    cases hx
    split at hp
    · rename_i i hi
      obtain ⟨q, rfl, hlt⟩ := ixA_ok hix hi
      split at hp
      · rename_i b hb
        simp only [Option.some.injEq] at hp
        subst hp
        have hsz : s.data.toList.length = s.size := by rw [Array.length_toList]; rfl
        have hlt' : i < s.size := by omega
        have hbb : s[i] = b := by
          have h1 : s.data.toList[i]? = some s[i] := by
            rw [List.getElem?_eq_getElem hlt]
            rfl
          rw [h1] at hb; exact Option.some.inj hb
        exact ⟨.int .u8 b.toNat, by rw [run_index_string w t s q (i : Int) (hE.tt _ _ _ ht).1]; simp [hlt', hbb], .int _ _⟩
      · cases hp
    · cases hp
  · cases hp

/-- The address of an element. -/
def indexAtA (E : Env) (t : TypeId) (x ix : Value) : Option Value :=
  match E.tt t, x with
  | some (.array len e, _), .pointer (some ⟨b, o, none⟩) =>
    match ixA ix len, E.tt e with
    | some i, some (_, j) => some (.pointer (some ⟨b, o + i * j.size, none⟩))
    | _, _ => none
  | some (.slice e, _), .slice (some ⟨b, o, none⟩) len _ =>
    match ixA ix len, E.tt e with
    | some i, some (_, j) => some (.pointer (some ⟨b, o + i * j.size, none⟩))
    | _, _ => none
  | _, _ => none

theorem indexAtA_ok {t : TypeId} {x x' ix ix' v : Value} (hx : VR ρ x x') (hix : VR ρ ix ix') (hp : indexAtA E t x ix = some v) : ∃ v', (Instr.indexAt t x' ix').run P w = .ok v' w ∧ VR ρ v v' := by
  unfold indexAtA at hp
  split at hp
  · rename_i len e j b o ht
    cases hx with
    | ptr _ hb =>
      rename_i r n
      split at hp
      · rename_i i d k hi he
        obtain ⟨q, rfl, hlt⟩ := ixA_ok hix hi
        simp only [Option.some.injEq] at hp
        subst hp
        exact ⟨.pointer (some ⟨r, o + i * k.size, none⟩), by simp [Instr.indexAt, asIntOf, run_und hE ht, Instr.sureAddr, hlt, run_size hE he, add_none], .ptr _ hb⟩
      · cases hp
  · rename_i e j b o len c ht
    split at hp
    · rename_i i d k hi he
      obtain ⟨q, rfl, hlt⟩ := ixA_ok hix hi
      simp only [Option.some.injEq] at hp
      subst hp
      cases hx with
      | slice _ _ _ hb _ =>
        exact ⟨.pointer (some ⟨_, o + i * k.size, none⟩), by simp [Instr.indexAt, asIntOf, run_und hE ht, hlt, run_size hE he, add_none], .ptr _ hb⟩
      | sliceOpen _ _ _ _ hb _ _ _ =>
        exact ⟨.pointer (some ⟨_, o + i * k.size, none⟩), by simp [Instr.indexAt, asIntOf, run_und hE ht, hlt, run_size hE he, add_none], .ptr _ hb⟩
    · cases hp
  · cases hp

/-! Cuts. -/

def bndA (x : Value) (y : Nat) : Option Nat :=
  match x with
  | .int _ (.ofNat i) => cond (Nat.ble i y) (some i) none
  | _ => none

omit hE in
theorem bndA_ok {x x' : Value} {y i : Nat} (hx : VR ρ x x') (hi : bndA x y = some i) : (∀ (c : BoundsCode) (w : World), (Instr.sliceBound x' y c).run P w = .ok i w) ∧ i ≤ y := by
  unfold bndA at hi
  split at hi
  · rename_i k i'
    cases hx
    cases hb : Nat.ble i' y with
    | false => rw [hb] at hi; cases hi
    | true =>
      rw [hb] at hi
      simp only [cond_true, Option.some.injEq] at hi
      subst hi
      have := Nat.le_of_ble_eq_true hb
      refine ⟨fun c w => ?_, this⟩
      have h0 : (0 : Int) ≤ (i' : Int) ∧ (i' : Int) ≤ (y : Int) := ⟨by omega, by omega⟩
      show (Instr.sliceBound (.int k (i' : Int)) y c).run P w = _
      simp [Instr.sliceBound, asIntOf, this]
  · cases hi

/-- Lower and upper bound, where no third one is given. -/
def bndsA (len top : Nat) (lo hi : Option (Option Value)) : Option (Nat × Nat) :=
  match (match hi with | none => some len | some (some v) => bndA v top | some none => none) with
  | some h => (match lo with | none => some 0 | some (some v) => bndA v h | some none => none).map fun l => (l, h)
  | none => none

/-- What an operand that need not be there stands for. -/
def VRo (ρ : Ren) : Option (Option Value) → Option Value → Prop
  | none, none => True
  | some (some v), some v' => VR ρ v v'
  | some none, some _ => True
  | _, _ => False

omit hE in
theorem bndsA_ok {len top : Nat} {lo hi : Option (Option Value)} {lo' hi' : Option Value} {l h : Nat} (hlo : VRo ρ lo lo') (hhi : VRo ρ hi hi') (hp : bndsA len top lo hi = some (l, h)) (hlen : len ≤ top) (isS : Bool) (w : World) :
    (Instr.sliceBounds isS len top lo' hi' none).run P w = .ok (l, h, top) w ∧ l ≤ h ∧ h ≤ top := by
  unfold bndsA at hp
  split at hp
  · rename_i h0 hh
    rw [Option.map_eq_some_iff] at hp
    obtain ⟨l0, hl, he⟩ := hp
    simp only [Prod.mk.injEq] at he
    obtain ⟨rfl, rfl⟩ := he
    have h1 : h0 ≤ top ∧ ((hi' = none ∧ h0 = len) ∨ ∃ v', hi' = some v' ∧ ∀ c (w : World), (Instr.sliceBound v' top c).run P w = .ok h0 w) := by
      cases hi with
      | none =>
        cases hi' with
        | none => simp at hh; subst hh; exact ⟨hlen, .inl ⟨rfl, rfl⟩⟩
        | some v' => cases hhi
      | some v =>
        cases v with
        | none => cases hh
        | some v =>
          cases hi' with
          | none => cases hhi
          | some v' =>
            obtain ⟨h2, h3⟩ := bndA_ok (P := P) (ρ := ρ) (x' := v') hhi hh
            exact ⟨h3, .inr ⟨v', rfl, h2⟩⟩
    have h2 : l0 ≤ h0 ∧ ((lo' = none ∧ l0 = 0) ∨ ∃ v', lo' = some v' ∧ ∀ c (w : World), (Instr.sliceBound v' h0 c).run P w = .ok l0 w) := by
      cases lo with
      | none =>
        cases lo' with
        | none => simp at hl; subst hl; exact ⟨Nat.zero_le _, .inl ⟨rfl, rfl⟩⟩
        | some v' => cases hlo
      | some v =>
        cases v with
        | none => cases hl
        | some v =>
          cases lo' with
          | none => cases hlo
          | some v' =>
            obtain ⟨h2, h3⟩ := bndA_ok (P := P) (ρ := ρ) (x' := v') hlo hl
            exact ⟨h3, .inr ⟨v', rfl, h2⟩⟩
    refine ⟨?_, h2.1, h1.1⟩
    rcases h1.2 with ⟨rfl, e1⟩ | ⟨v', rfl, e1⟩ <;> rcases h2.2 with ⟨rfl, e2⟩ | ⟨u', rfl, e2⟩
    · subst e1; subst e2; simp [Instr.sliceBounds]
    · subst e1; simp [Instr.sliceBounds, e2]
    · subst e2; simp [Instr.sliceBounds, e1]
    · simp [Instr.sliceBounds, e1, e2]
  · cases hp

end
end Go.Ev
