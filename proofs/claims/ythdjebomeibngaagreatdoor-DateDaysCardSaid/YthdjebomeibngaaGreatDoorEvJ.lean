/- A checked interpreter for closed calls, part 10: writes to maps, append, bytes of strings. -/
import Derived.Test.YthdjebomeibngaaGreatDoorEvI
namespace Go.Ev
open Go Go.MapKept

section
variable {P : Program} {E : Env} (hE : EnvOK P E) {fl : Nat} {ρ : Ren} {s : St} {w : World}

def setVal : List MapEntry → Nat → Value → List MapEntry
  | [], _, _ => []
  | e :: es, 0, v => { e with val := v } :: es
  | e :: es, i + 1, v => e :: setVal es i v

theorem setVal_length : ∀ (es : List MapEntry) (i : Nat) (v : Value), (setVal es i v).length = es.length
  | [], _, _ => rfl
  | _ :: _, 0, _ => rfl
  | _ :: es, i + 1, v => by simp [setVal, setVal_length es i v]

theorem setVal_get : ∀ (es : List MapEntry) (i : Nat) (v : Value) (j : Nat), (setVal es i v)[j]? = if j = i then (es[j]?).map (fun e => { e with val := v }) else es[j]?
  | [], i, v, j => by simp [setVal]
  | e :: es, 0, v, j => by cases j <;> simp [setVal]
  | e :: es, i + 1, v, j => by
    cases j with
    | zero => simp [setVal]
    | succ j => simp [setVal, setVal_get es i v j]

def mapUpdateA (E : Env) (fl : Nat) (s : St) (t : TypeId) (b : Nat) (k v : Value) : Option St :=
  match E.tt t, s.h.get b with
  | some (.map kt _, _), some (.map es cl) =>
    match E.tt kt with
    | some (d, _) =>
      cond (keyB d k && ok b && Nat.ble fl b && Nat.ble (b + 1) s.nx)
        (match findA d k es 0 with
         | some (some (i, _)) => some (s.put b (some (.map (setVal es i v) cl)))
         | some none => some (s.put b (some (.map (es ++ [{ key := k, val := v, born := cl }]) (cl + 1))))
         | none => none)
        none
    | none => none
  | _, _ => none

include hE in
theorem mapUpdateA_ok (hrs : RS E.G ρ s.h w) {t : TypeId} {b : Nat} {m' k k' v v' : Value} {s' : St} (hm : VR ρ (.map (some b)) m') (hk : VR ρ k k') (hv : VR ρ v v') (hp : mapUpdateA E fl s t b k v = some s') :
    ∃ w', (Instr.mapUpdate t m' k' v').run P w = .ok () w' ∧ RS E.G ρ s'.h w' ∧ Tr fl ρ s w ρ s' w' := by
  unfold mapUpdateA at hp
  split at hp
  · rename_i kt et i es cl ht hb
    split at hp
    · rename_i d i1 hkt
      cases hq : (keyB d k && ok b && Nat.ble fl b && Nat.ble (b + 1) s.nx) with
      | false => rw [hq] at hp; cases hp
      | true =>
        rw [hq] at hp
        simp only [cond_true] at hp
        simp only [Bool.and_eq_true] at hq
        obtain ⟨⟨⟨hkb, hok⟩, hfl⟩, hnx⟩ := hq
        have hfl := Nat.le_of_ble_eq_true hfl
        have hnx := Nat.le_of_ble_eq_true hnx
        obtain ⟨rfl, hkp⟩ := keyB_same hkb hk
        cases hm with
        | map hr =>
          rename_i r n
          obtain ⟨es', hw, hl, he⟩ := RS.entries hrs hb hr
          have hkd := (hE.tt _ _ _ hkt).1
          have hck : (Instr.checkKey false 10000 kt k').run P w = .ok () w := run_checkKey hkd (keyB_ok hkb) false 9999
          have hrlt : r < w.heap.size := by
            rcases Nat.lt_or_ge r w.heap.size with h | h
            · exact h
            · simp [Array.getElem?_eq_none h] at hw
          split at hp
          · rename_i j u hf
            simp only [Option.some.injEq] at hp
            subst hp
            obtain ⟨r', h1, h2, h3⟩ := findA_ok (ρ := ρ) es es'.toList 0 _ hl he hf
            cases r' with
            | none => cases h2
            | some x =>
              obtain ⟨j', u'⟩ := x
              obtain ⟨rfl, hu⟩ := h2
              have hfk := run_findKey (P := P) (w := w) hkd h1
              obtain ⟨_, hkey⟩ := h3 j u rfl
              simp only [Nat.sub_zero] at hkey
              have hjlt : j < es.length := by
                rcases Nat.lt_or_ge j es.length with h | h
                · exact h
                · simp [List.getElem?_eq_none h] at hkey
              have hkey' : (es'[j]?).map (·.key) = some k' := by
                have hj' : j < es'.toList.length := by omega
                have h5 := he j _ _ (List.getElem?_eq_getElem hjlt) (List.getElem?_eq_getElem hj')
                rw [List.getElem?_eq_getElem hjlt] at hkey
                simp only [Option.map_some, Option.some.injEq] at hkey
                have hj'' : j < es'.size := by simpa using hj'
                rw [Array.getElem?_eq_getElem hj'']
                have : es'.toList[j] = es'[j] := by simp
                rw [this] at h5
                simp [← h5.1, hkey]
              have hstay := run_keyThatStays (P := P) (w := w) (keyB_ok hkb)
              refine ⟨{ w with heap := w.heap.setIfInBounds r (.map (es'.modify j fun e => { e with key := k', val := v' }) cl) }, ?_, ?_⟩
              · simp [Instr.mapUpdate, run_und hE ht, getObj, Sem.run, hw, hck, hfk, hkey', hstay, setObj]
              · refine write_block hrs hok hfl hnx hb hr (o' := .map (es'.modify j fun e => { e with key := k', val := v' }) cl) ?_ rfl rfl rfl (by simp) (by simp [hrlt]) (fun q hq => by simp [Array.getElem?_setIfInBounds_ne (Ne.symm hq)])
                refine .map _ _ _ (by rw [setVal_length]; simpa using hl) (fun q x x' hx hx' => ?_)
                rw [setVal_get] at hx
                rw [Array.getElem?_modify] at hx'
                by_cases hqj : q = j
                · subst hqj
                  rw [if_pos rfl] at hx hx'
                  rw [Option.map_eq_some_iff] at hx hx'
                  obtain ⟨y, hy, rfl⟩ := hx
                  obtain ⟨y', hy', rfl⟩ := hx'
                  have h6 := he q y y' hy (by simpa using hy')
                  have hyk : y.key = k' := by rw [hy] at hkey; simpa using hkey
                  exact ⟨hyk, h6.2.1, hv, h6.2.2.2⟩
                · rw [if_neg hqj] at hx
                  rw [if_neg (Ne.symm hqj)] at hx'
                  exact he q x x' hx (by simpa using hx')
          · rename_i hf
            simp only [Option.some.injEq] at hp
            subst hp
            obtain ⟨r', h1, h2, _⟩ := findA_ok (ρ := ρ) es es'.toList 0 _ hl he hf
            cases r' with
            | some x => cases h2
            | none =>
              have hfk := run_findKey (P := P) (w := w) hkd h1
              refine ⟨{ w with heap := w.heap.setIfInBounds r (.map (es'.push { key := k', val := v', born := cl }) (cl + 1)) }, ?_, ?_⟩
              · simp [Instr.mapUpdate, run_und hE ht, getObj, Sem.run, hw, hck, hfk, setObj]
              · refine write_block hrs hok hfl hnx hb hr (o' := .map (es'.push { key := k', val := v', born := cl }) (cl + 1)) ?_ rfl rfl rfl (by simp) (by simp [hrlt]) (fun q hq => by simp [Array.getElem?_setIfInBounds_ne (Ne.symm hq)])
                have hl' : es.length = es'.size := by simpa using hl
                refine .map _ _ _ (by simp [hl']) (fun q x x' hx hx' => ?_)
                rw [Array.getElem?_push] at hx'
                rw [List.getElem?_append] at hx
                by_cases hq : q < es.length
                · rw [if_pos hq] at hx
                  rw [if_neg (by omega)] at hx'
                  exact he q x x' hx (by simpa using hx')
                · rw [if_neg hq] at hx
                  by_cases hqe : q = es'.size
                  · rw [if_pos hqe] at hx'
                    have : q - es.length = 0 := by omega
                    rw [this] at hx
                    simp at hx hx'
                    subst hx; subst hx'
                    exact ⟨rfl, hkp, hv, rfl⟩
                  · rw [if_neg hqe] at hx'
                    rw [Array.getElem?_eq_none (by omega)] at hx'
                    cases hx'
          · cases hp
    · cases hp
  · cases hp

end
end Go.Ev
