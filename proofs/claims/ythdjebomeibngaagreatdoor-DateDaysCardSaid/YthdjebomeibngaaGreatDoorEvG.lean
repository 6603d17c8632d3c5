/- A checked interpreter for closed calls, part 7: lookups, built values. -/
import Derived.Test.YthdjebomeibngaaGreatDoorEvF
import Derived.Laws.Tables
import Derived.Great.BuildSlice
namespace Go.Ev
open Go

/-! Built values. -/

def fillA (place : Nat → Option (Nat × Nat)) : List Value → List (Nat × Value) → Option (List Value)
  | cs, [] => some cs
  | cs, (i, v) :: rest =>
    match place i with
    | none => none
    | some (off, size) =>
      let vs := v.cells.toList
      cond (Nat.beq vs.length size && Nat.ble (off + size) cs.length) (fillA place (cs.take off ++ (vs ++ cs.drop (off + size))) rest) none

theorem setRun (off : Nat) : ∀ (vs : List Value) (k : Nat) (cs : Array Value), off + k + vs.length ≤ cs.size →
    ((vs.zipIdx k).foldl (fun cs (x : Value × Nat) => cs.setIfInBounds (off + x.2) x.1) cs).toList = cs.toList.take (off + k) ++ (vs ++ cs.toList.drop (off + k + vs.length))
  | [], k, cs, _ => by simp
  | v :: vs, k, cs, h => by
    simp only [List.zipIdx_cons, List.foldl_cons]
    have hk : off + k < cs.toList.length := by simp at h ⊢; omega
    rw [setRun off vs (k + 1) _ (by simp at h ⊢; omega)]
    apply List.ext_getElem?
    intro j
    simp only [Array.toList_setIfInBounds, List.getElem?_append, List.getElem?_take, List.getElem?_drop, List.getElem?_set, List.length_take, List.length_set, List.length_cons, List.getElem?_cons]
    have hlen : cs.toList.length = cs.size := by simp
    simp only [List.length_cons] at h
    rcases Nat.lt_trichotomy j (off + k) with hj | hj | hj
    · rw [if_pos (by omega), if_pos (by omega), if_neg (by omega), if_pos (by omega), if_pos (by omega)]
    · subst hj
      rw [if_pos (by omega), if_pos (by omega), if_pos rfl, if_pos (by omega), if_neg (by omega), if_pos (by omega), if_pos (by omega)]
    · rw [if_neg (by omega), if_neg (show ¬ j < min (off + k) cs.toList.length by omega)]
      by_cases hj2 : j < off + k + 1 + vs.length
      · rw [if_pos (by omega), if_pos (by omega), if_neg (by omega)]
        congr 1
        omega
      · rw [if_neg (by omega), if_neg (by omega), if_neg (by omega)]
        congr 1
        omega

theorem fill_ok {ρ : Ren} (place : Nat → Option (Nat × Nat)) : ∀ (parts : List (Nat × Value)) (parts' : List (Nat × Value)) (cs : List Value) (cs' : Array Value) (out : List Value),
    parts.length = parts'.length → (∀ (i : Nat) (x x' : Nat × Value), parts[i]? = some x → parts'[i]? = some x' → x.1 = x'.1 ∧ VR ρ x.2 x'.2) → VRs ρ cs cs'.toList → fillA place cs parts = some out →
    ∃ out', Instr.fill place cs' parts' = some out' ∧ VRs ρ out out'.toList
  | [], parts', cs, cs', out, hl, _, hv, h => by
    have : parts' = [] := List.length_eq_zero_iff.1 (by simpa using hl.symm)
    subst this
    simp [fillA] at h
    subst h
    exact ⟨cs', rfl, hv⟩
  | (i, v) :: rest, parts', cs, cs', out, hl, hp, hv, h => by
    cases parts' with
    | nil => simp at hl
    | cons p rest' =>
      obtain ⟨i', v'⟩ := p
      have h0 := hp 0 (i, v) (i', v') rfl rfl
      obtain ⟨rfl, hvv⟩ := h0
      unfold fillA at h
      split at h
      · cases h
      · rename_i off size hpl
        cases hq : (Nat.beq v.cells.toList.length size && Nat.ble (off + size) cs.length) with
        | false => simp only [hq, cond_false] at h; cases h
        | true =>
          simp only [hq, cond_true] at h
          rw [Bool.and_eq_true] at hq
          have h1 := Nat.eq_of_beq_eq_true hq.1
          have h2 := Nat.le_of_ble_eq_true hq.2
          have hcv := hvv.cells
          have hsz : v'.cells.size = size := by have := hcv.1; simp at this h1; omega
          have hcs : cs'.size = cs.length := by have := hv.1; simp at this; omega
          have hrun := setRun off v'.cells.toList 0 cs' (by simp; omega)
          have hfold : (v'.cells.zipIdx.foldl (fun cs (x : Value × Nat) => cs.setIfInBounds (off + x.2) x.1) cs').toList = cs'.toList.take off ++ (v'.cells.toList ++ cs'.toList.drop (off + size)) := by
            rw [← Array.foldl_toList, Array.toList_zipIdx]
            rw [hrun]
            simp [hsz]
          obtain ⟨out', ho, hov⟩ := fill_ok place rest rest' _ (v'.cells.zipIdx.foldl (fun cs (x : Value × Nat) => cs.setIfInBounds (off + x.2) x.1) cs') out (by simpa using hl)
            (fun j x x' hx hx' => hp (j + 1) x x' (by simpa using hx) (by simpa using hx')) (by rw [hfold]; exact (hv.take off).append (hcv.append (hv.drop _))) h
          refine ⟨out', ?_, hov⟩
          unfold Instr.fill
          simp only [hpl]
          rw [if_neg]
          · exact ho
          · simp [hsz]; omega

/-- The parts of a built value. -/
def partsA (ev : Operand → Option Value) : List (Nat × Operand) → Option (List (Nat × Value))
  | [] => some []
  | (i, x) :: rest => match ev x, partsA ev rest with | some v, some l => some ((i, v) :: l) | _, _ => none

theorem partsA_ok {ρ : Ren} {ev : Operand → Option Value} {ev' : Operand → Value} (he : ∀ x v, ev x = some v → VR ρ v (ev' x)) : ∀ (l : List (Nat × Operand)) (out : List (Nat × Value)), partsA ev l = some out →
    out.length = (l.map fun p => (p.1, ev' p.2)).length ∧ ∀ (i : Nat) (x x' : Nat × Value), out[i]? = some x → (l.map fun p => (p.1, ev' p.2))[i]? = some x' → x.1 = x'.1 ∧ VR ρ x.2 x'.2
  | [], out, h => by simp [partsA] at h; subst h; simp
  | (i, x) :: rest, out, h => by
    unfold partsA at h
    split at h
    · rename_i v l hv hl
      simp only [Option.some.injEq] at h
      subst h
      obtain ⟨h1, h2⟩ := partsA_ok he rest l hl
      refine ⟨by simpa using h1, fun j y y' hy hy' => ?_⟩
      cases j with
      | zero => simp at hy hy'; subst hy; subst hy'; exact ⟨rfl, he _ _ hv⟩
      | succ j => exact h2 j y y' (by simpa using hy) (by simpa using hy')
    · cases h

def placesA (E : Env) : List Field → Option (List (Nat × Nat))
  | [] => some []
  | f :: fs => match E.tt f.type, placesA E fs with | some (_, i), some l => some ((f.offset, i.size) :: l) | _, _ => none

theorem placesA_ok {P : Program} {E : Env} (hE : EnvOK P E) : ∀ (fs : List Field) (l : List (Nat × Nat)), placesA E fs = some l → fs.mapM (fun f => (P.info? f.type).map fun i => (f.offset, i.size)) = some l
  | [], l, h => by simp [placesA] at h; subst h; rfl
  | f :: fs, l, h => by
    unfold placesA at h
    split at h
    · rename_i d i l' ht hl
      simp only [Option.some.injEq] at h
      subst h
      have := placesA_ok hE fs l' hl
      simp [List.mapM_cons, (hE.tt _ _ _ ht).2, this]
    · cases h

def buildA (E : Env) (t : TypeId) (parts : List (Nat × Value)) : Option Value :=
  match E.tt t with
  | some (.struct fs, i) =>
    match i.zero, placesA E fs.toList with
    | some z, some pl => cond (plainV z) ((fillA (fun j => pl[j]?) z.cells.toList parts).map fun l => .agg l.toArray) none
    | _, _ => none
  | some (.array _ e, i) =>
    match i.zero, E.tt e with
    | some z, some (_, j) => cond (plainV z) ((fillA (fun k => some (k * j.size, j.size)) z.cells.toList parts).map fun l => .agg l.toArray) none
    | _, _ => none
  | _ => none

theorem buildA_ok {P : Program} {E : Env} (hE : EnvOK P E) {ρ : Ren} {t : TypeId} {ev : Operand → Option Value} {ev' : Operand → Value} (he : ∀ x v, ev x = some v → VR ρ v (ev' x)) {ps : Array (Nat × Operand)} {l : List (Nat × Value)}
    (hl : partsA ev ps.toList = some l) {v : Value} (h : buildA E t l = some v) (w : World) : ∃ v', (Instr.build t (ps.map fun (i, x) => (i, ev' x))).run P w = .ok v' w ∧ VR ρ v v' := by
  obtain ⟨h1, h2⟩ := partsA_ok he _ _ hl
  unfold buildA at h
  split at h
  · rename_i fs i ht
    split at h
    · rename_i z pl hz hpl
      cases hp : plainV z with
      | false => rw [hp] at h; cases h
      | true =>
        rw [hp] at h
        simp only [cond_true, Option.map_eq_some_iff] at h
        obtain ⟨out, hf, rfl⟩ := h
        obtain ⟨out', ho, hov⟩ := fill_ok (ρ := ρ) _ l _ _ z.cells out h1 h2 (VR.of_plain hp).cells hf
        refine ⟨.agg out', run_build w t _ out' ?_, by have := VR.aggOf hov; simpa using this⟩
        unfold Program.built
        rw [(hE.tt _ _ _ ht).2, (hE.tt _ _ _ ht).1]
        simp only [hz, placesA_ok hE _ _ hpl]
        simpa using ho
    · cases h
  · rename_i n e i ht
    split at h
    · rename_i z j' d hz he'
      cases hp : plainV z with
      | false => rw [hp] at h; cases h
      | true =>
        rw [hp] at h
        simp only [cond_true, Option.map_eq_some_iff] at h
        obtain ⟨out, hf, rfl⟩ := h
        obtain ⟨out', ho, hov⟩ := fill_ok (ρ := ρ) _ l _ _ z.cells out h1 h2 (VR.of_plain hp).cells hf
        refine ⟨.agg out', run_build w t _ out' ?_, by have := VR.aggOf hov; simpa using this⟩
        unfold Program.built
        rw [(hE.tt _ _ _ ht).2, (hE.tt _ _ _ ht).1]
        simp only [hz, (hE.tt _ _ _ he').2]
        simpa using ho
    · cases h
  · cases h

end Go.Ev
