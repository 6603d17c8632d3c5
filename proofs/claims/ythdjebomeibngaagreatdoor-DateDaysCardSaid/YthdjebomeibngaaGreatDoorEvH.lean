/- A checked interpreter for closed calls, part 8: operations that make and write memory. -/
import Derived.Test.YthdjebomeibngaaGreatDoorEvG
import Derived.Laws.CopyRow
import Derived.Deep.AppendSrc
import Derived.Laws.MakeOwn
namespace Go.Ev
open Go

/-- What an operation that turns memory leaves. -/
def Post (G fl : Nat) (ρ : Ren) (s : St) (w : World) (v : Value) (s' : St) (v' : Value) (w' : World) : Prop :=
  ∃ ρ', RS G ρ' s'.h w' ∧ Tr fl ρ s w ρ' s' w' ∧ VR ρ' v v'

theorem undefVR (ρ : Ren) : VR ρ undef undef := .of_plain rfl

/-! New rows. -/

def newRowA (s : St) (cs : List Value) (e : TypeId) (op rw : Bool) : St := { s.put s.nx (some (.cells cs e op rw)) with nx := s.nx + 1 }

section
variable {P : Program} {E : Env} (hE : EnvOK P E) {fl : Nat} {ρ : Ren} {s : St} {w : World}

theorem newRow_ok (hrs : RS E.G ρ s.h w) (h1 : E.G ≤ fl) (h2 : fl ≤ s.nx) (hok : ok s.nx = true) (hfree : Free ρ s.nx (s.nx + 1)) {cs : List Value} {cs' : Array Value} (hcs : VRs ρ cs cs'.toList) (e : TypeId) :
    ∃ n, RS E.G (upd ρ s.nx (w.heap.size, n)) (newRowA s cs e false true).h (w.alloc (.cells cs' e)) ∧ Tr fl ρ s w (upd ρ s.nx (w.heap.size, n)) (newRowA s cs e false true) (w.alloc (.cells cs' e)) := by
  have hsz : cs.length = cs'.size := by have := hcs.1; simpa using this
  refine ⟨cs'.size, new_block hrs (by omega) h2 hok hfree ?_⟩
  refine .cells cs cs' e false true (0, 0) rfl (by omega) (fun _ => hsz) (fun _ => rfl) ?_
  rw [List.take_of_length_le (by simp; omega)]
  exact hcs.mono (upd_le (hfree s.nx (Nat.le_refl _) (by omega)))

/-- A new variable. -/
def boxA (s : St) (e : TypeId) (v : Value) : Option (Value × St) :=
  cond (ok s.nx) (some (.pointer (some ⟨s.nx, 0, none⟩), newRowA s v.cells.toList e false true)) none

theorem boxA_ok (hrs : RS E.G ρ s.h w) (h1 : E.G ≤ fl) (h2 : fl ≤ s.nx) {e : TypeId} {v v' out : Value} {s' : St} (hv : VR ρ v v') (hp : boxA s e v = some (out, s')) (hfree : Free ρ s.nx s'.nx) :
    ∃ out' w', (Instr.box e v').run P w = .ok out' w' ∧ Post E.G fl ρ s w out s' out' w' := by
  unfold boxA at hp
  cases hok : ok s.nx with
  | false => rw [hok] at hp; cases hp
  | true =>
    rw [hok] at hp
    simp only [cond_true, Option.some.injEq, Prod.mk.injEq] at hp
    obtain ⟨rfl, rfl⟩ := hp
    obtain ⟨n, ha, hb⟩ := newRow_ok hrs h1 h2 hok hfree hv.cells e
    exact ⟨.pointer (some ⟨w.heap.size, 0, none⟩), w.alloc (.cells v'.cells e), by simp [Instr.box, newVar, newRow], _, ha, hb, .ptr _ (upd_at _ _ _)⟩

def allocA (E : Env) (s : St) (e : TypeId) : Option (Value × St) :=
  match E.tt e with
  | some (_, i) => match i.zero with | some z => cond (plainV z) (boxA s e z) none | none => none
  | none => none

include hE in
theorem allocA_ok (hrs : RS E.G ρ s.h w) (h1 : E.G ≤ fl) (h2 : fl ≤ s.nx) {e : TypeId} {out : Value} {s' : St} (hp : allocA E s e = some (out, s')) (hfree : Free ρ s.nx s'.nx) :
    ∃ out' w', (Instr.alloc e true (.tuple #[])).run P w = .ok out' w' ∧ Post E.G fl ρ s w out s' out' w' := by
  unfold allocA at hp
  split at hp
  · rename_i d i ht
    split at hp
    · rename_i z hz
      cases hpl : plainV z with
      | false => rw [hpl] at hp; cases hp
      | true =>
        rw [hpl] at hp
        obtain ⟨out', w', hr, hpost⟩ := boxA_ok (P := P) hrs h1 h2 (VR.of_plain hpl) hp hfree
        refine ⟨out', w', ?_, hpost⟩
        simp only [Instr.box] at hr
        simp only [Instr.alloc, Sem.run_bind, run_zero hE ht hz, Result.andThen_ok]
        simpa using hr
    · cases hp
  · cases hp

/-- The cells of so many zero values. -/
def zerosA (z : Value) (n : Nat) : List Value := ((Array.range n).map (z.cells[· % z.cells.size]!)).toList

/-- A slice literal. -/
def buildSliceA (E : Env) (s : St) (t : TypeId) (len : Nat) (parts : List (Nat × Value)) : Option (Value × St) :=
  match E.tt t with
  | some (.slice e, _) =>
    match E.tt e with
    | some (_, i) =>
      match i.zero with
      | some z =>
        cond (ok s.nx && Nat.ble (len * i.size) 100000 && Nat.ble len 100000)
          (cond (Nat.beq (len * i.size) 0)
            (cond (parts.isEmpty) (some (.slice (some ⟨s.nx, 0, none⟩) len len, newRowA s [] e false true)) none)
            (cond ((zerosA z (len * i.size)).all plain1)
              (match fillA (fun k => some (k * i.size, i.size)) (zerosA z (len * i.size)) parts with
               | some cs => some (.slice (some ⟨s.nx, 0, none⟩) len len, newRowA s cs e false true)
               | none => none) none))
          none
      | none => none
    | none => none
  | _ => none

include hE in
theorem buildSliceA_ok (hrs : RS E.G ρ s.h w) (h1 : E.G ≤ fl) (h2 : fl ≤ s.nx) {t : TypeId} {len : Nat} {ev : Operand → Option Value} {ev' : Operand → Value} (he : ∀ x v, ev x = some v → VR ρ v (ev' x)) {ps : Array (Nat × Operand)} {l : List (Nat × Value)}
    (hl : partsA ev ps.toList = some l) {out : Value} {s' : St} (hp : buildSliceA E s t len l = some (out, s')) (hfree : Free ρ s.nx s'.nx) :
    ∃ out' w', (Instr.buildSlice t len (ps.map fun (i, x) => (i, ev' x))).run P w = .ok out' w' ∧ Post E.G fl ρ s w out s' out' w' := by
  obtain ⟨hp1, hp2⟩ := partsA_ok he _ _ hl
  unfold buildSliceA at hp
  split at hp
  · rename_i e j ht
    split at hp
    · rename_i d i hte
      split at hp
      · rename_i z hz
        cases hq : (ok s.nx && Nat.ble (len * i.size) 100000 && Nat.ble len 100000) with
        | false => rw [hq] at hp; cases hp
        | true =>
          rw [hq] at hp
          simp only [Bool.and_eq_true] at hq
          obtain ⟨⟨hok, hle⟩, hll⟩ := hq
          have hle := Nat.le_of_ble_eq_true hle
          have hll := Nat.le_of_ble_eq_true hll
          simp only [cond_true] at hp
          cases h0 : Nat.beq (len * i.size) 0 with
          | true =>
            rw [h0] at hp
            have h0' := Nat.eq_of_beq_eq_true h0
            simp only [cond_true] at hp
            cases hpe : l.isEmpty with
            | false => rw [hpe] at hp; cases hp
            | true =>
              rw [hpe] at hp
              simp only [cond_true, Option.some.injEq, Prod.mk.injEq] at hp
              obtain ⟨rfl, rfl⟩ := hp
              obtain ⟨n, ha, hb⟩ := newRow_ok hrs h1 h2 hok hfree (cs := []) (cs' := #[]) (VRs.nil ρ) e
              have hle0 : l = [] := by simpa using hpe
              have hps : ps = #[] := by
                have : (ps.toList.map fun p => (p.1, ev' p.2)).length = 0 := by rw [← hp1, hle0]; rfl
                apply Array.ext'
                simpa using this
              subst hps
              refine ⟨.slice (some ⟨w.heap.size, 0, none⟩) len len, w.alloc (.cells #[] e), ?_, _, ha, hb, ?_⟩
              · simp [Instr.buildSlice, run_und hE ht, run_size hE hte, h0', Instr.fill, newRow, Array.range_zero']
              · exact .slice _ _ _ (upd_at _ _ _) (by unfold big; omega)
          | false =>
            rw [h0] at hp
            have h0' := Nat.ne_of_beq_eq_false h0
            simp only [cond_false] at hp
            cases hpl : (zerosA z (len * i.size)).all plain1 with
            | false => rw [hpl] at hp; cases hp
            | true =>
              rw [hpl] at hp
              simp only [cond_true] at hp
              split at hp
              · rename_i cs hf
                simp only [Option.some.injEq, Prod.mk.injEq] at hp
                obtain ⟨rfl, rfl⟩ := hp
                obtain ⟨out', ho, hov⟩ := fill_ok (ρ := ρ) _ l _ _ ((Array.range (len * i.size)).map (z.cells[· % z.cells.size]!)) cs hp1 hp2 (VRs.of_plain hpl) hf
                obtain ⟨n, ha, hb⟩ := newRow_ok hrs h1 h2 hok hfree hov e
                refine ⟨_, _, run_buildSlice w t e len _ out' i z (hE.tt _ _ _ ht).1 (hE.tt _ _ _ hte).2 hz (by omega) h0' (by simpa using ho), _, ha, hb, .slice _ _ _ (upd_at _ _ _) ?_⟩
                have : len ≤ len * i.size := Nat.le_mul_of_pos_right _ (Nat.pos_of_ne_zero (fun e => h0' (by rw [e, Nat.mul_zero])))
                unfold big; omega
              · cases hp
      · cases hp
    · cases hp
  · cases hp

/-- A new map. -/
def makeMapA (s : St) : Option (Value × St) :=
  cond (ok s.nx) (some (.map (some s.nx), { s.put s.nx (some (.map [] 0)) with nx := s.nx + 1 })) none

theorem makeMapA_ok (hrs : RS E.G ρ s.h w) (h1 : E.G ≤ fl) (h2 : fl ≤ s.nx) {t : TypeId} {out : Value} {s' : St} (hp : makeMapA s = some (out, s')) (hfree : Free ρ s.nx s'.nx) :
    ∃ out' w', (Instr.makeMap t none).run P w = .ok out' w' ∧ Post E.G fl ρ s w out s' out' w' := by
  unfold makeMapA at hp
  cases hok : ok s.nx with
  | false => rw [hok] at hp; cases hp
  | true =>
    rw [hok] at hp
    simp only [cond_true, Option.some.injEq, Prod.mk.injEq] at hp
    obtain ⟨rfl, rfl⟩ := hp
    obtain ⟨ha, hb⟩ := new_block (n := 0) (o := .map [] 0) (o' := .map #[] 0) hrs (by omega) h2 hok hfree (.map [] #[] 0 rfl (by simp))
    exact ⟨.map (some w.heap.size), w.alloc (.map #[] 0), by simp [Instr.makeMap], _, ha, hb, .map (upd_at _ _ _)⟩

/-- A made slice: of a number of zero values. -/
def makeSliceA (E : Env) (s : St) (t : TypeId) (len cap : Value) : Option (Value × St) :=
  match E.tt t, len, cap with
  | some (.slice e, _), .int _ (.ofNat n), .int _ (.ofNat c) =>
    match E.tt e with
    | some (_, i) =>
      match i.zero with
      | some z =>
        cond (ok s.nx && Nat.ble n c && Nat.ble (c * i.size) 100000 && Nat.ble c 100000 && Nat.ble i.bytes 1000000 && (zerosA z (c * i.size)).all plain1)
          (some (.slice (some ⟨s.nx, 0, none⟩) n c, newRowA s (zerosA z (c * i.size)) e false true)) none
      | none => none
    | none => none
  | _, _, _ => none

include hE in
theorem makeSliceA_ok (hrs : RS E.G ρ s.h w) (h1 : E.G ≤ fl) (h2 : fl ≤ s.nx) {t : TypeId} {len cap len' cap' : Value} (hlen : VR ρ len len') (hcap : VR ρ cap cap') {out : Value} {s' : St} (hp : makeSliceA E s t len cap = some (out, s')) (hfree : Free ρ s.nx s'.nx) :
    ∃ out' w', (Instr.makeSlice t len' cap').run P w = .ok out' w' ∧ Post E.G fl ρ s w out s' out' w' := by
  unfold makeSliceA at hp
  split at hp
  · rename_i e j k n k' c ht
    cases hlen; cases hcap
    split at hp
    · rename_i d i hte
      split at hp
      · rename_i z hz
        cases hq : (ok s.nx && Nat.ble n c && Nat.ble (c * i.size) 100000 && Nat.ble c 100000 && Nat.ble i.bytes 1000000 && (zerosA z (c * i.size)).all plain1) with
        | false => rw [hq] at hp; cases hp
        | true =>
          rw [hq] at hp
          simp only [Bool.and_eq_true] at hq
          obtain ⟨⟨⟨⟨⟨hok, hnc⟩, hcs⟩, hc⟩, hby⟩, hpl⟩ := hq
          have hnc := Nat.le_of_ble_eq_true hnc
          have hc := Nat.le_of_ble_eq_true hc
          have hby := Nat.le_of_ble_eq_true hby
          simp only [cond_true, Option.some.injEq, Prod.mk.injEq] at hp
          obtain ⟨rfl, rfl⟩ := hp
          obtain ⟨m, ha, hb⟩ := newRow_ok hrs h1 h2 hok hfree (cs := zerosA z (c * i.size)) (cs' := madeCells z.cells (c * i.size)) (by
            have e : (madeCells z.cells (c * i.size)).toList = zerosA z (c * i.size) := rfl
            rw [e]; exact VRs.of_plain hpl) e
          have hprod : i.bytes * c ≤ 100000000000 := Nat.le_trans (Nat.mul_le_mul hby hc) (by decide)
          have hbig : (i.bytes : Int) * (c : Int) ≤ 281474976710656 := by
            have h3 : ((i.bytes * c : Nat) : Int) ≤ 100000000000 := by omega
            rw [Int.natCast_mul] at h3
            omega
          exact ⟨.slice (some ⟨w.heap.size, 0, none⟩) n c, w.alloc (.cells (madeCells z.cells (c * i.size)) e),
            run_make w t e i z (hE.tt _ _ _ ht).1 (hE.tt _ _ _ hte).2 hz k k' (n : Int) (c : Int) (by omega) (by omega) hbig (by omega), _, ha, hb, .slice _ _ _ (upd_at _ _ _) (by unfold big; omega)⟩
      · cases hp
    · cases hp
  · cases hp

/-! Writes. -/

def storeA (E : Env) (fl : Nat) (s : St) (t : TypeId) (b o : Nat) (v : Value) : Option St :=
  match s.h.get b, E.tt t with
  | some (.cells c e op rw), some (_, i) =>
    let vs := v.cells.toList
    cond (rw && ok b && Nat.ble fl b && Nat.ble (b + 1) s.nx && Nat.beq vs.length i.size && Nat.ble (o + vs.length) c.length && vs.all (·.oneCell'))
      (some (s.put b (some (.cells (c.take o ++ (vs ++ c.drop (o + vs.length))) e op rw)))) none
  | _, _ => none

theorem VRs.all_one {ρ : Ren} {l l' : List Value} (h : VRs ρ l l') (ha : l.all (·.oneCell') = true) : ∀ v ∈ l', v.oneCell' = true := fun v hv => by
  obtain ⟨i, hi⟩ := List.getElem?_of_mem hv
  have hl : i < l.length := by
    have : i < l'.length := by
      rcases Nat.lt_or_ge i l'.length with h | h
      · exact h
      · simp [List.getElem?_eq_none h] at hi
    rw [h.1]; exact this
  have := h.2 i l[i] v (List.getElem?_eq_getElem hl) hi
  rw [← this.oneCell]
  exact List.all_eq_true.1 ha _ (List.getElem_mem hl)

/-- Cells of a row are written. -/
theorem write_cells (hrs : RS E.G ρ s.h w) {b : Nat} {c : List Value} {e : TypeId} {op : Bool} (hb : s.h.get b = some (.cells c e op true)) (hok : ok b = true) (hfl : fl ≤ b) (hnx : b < s.nx) {o : Nat} {vs vs' : List Value}
    (hv : VRs ρ vs vs') (hle : o + vs.length ≤ c.length) (hone : vs.all (·.oneCell') = true) :
    ∃ r n w', ρ b = some (r, n) ∧ (storeCells ⟨r, o, none⟩ vs').run P w = .ok () w' ∧ RS E.G ρ (s.put b (some (.cells (c.take o ++ (vs ++ c.drop (o + vs.length))) e op true))).h w' ∧
      Tr fl ρ s w ρ (s.put b (some (.cells (c.take o ++ (vs ++ c.drop (o + vs.length))) e op true))) w' := by
  obtain ⟨r, n, c', fz, h1, h2, h3, h4, h5, h6, h7⟩ := hrs.cells hb
  have hfz := h6 rfl
  subst hfz
  have hst := run_storeCells_at P r o e vs' 0 c' w h2 (by have := hv.1; omega) (hv.all_one hone)
  refine ⟨r, n, _, h1, hst, ?_⟩
  refine write_block hrs hok hfl hnx hb h1 ?_ rfl rfl rfl (by simp) (setRow_heap w r c' _ e (0, 0) h2) (fun k hk => setRow_other w r k _ hk)
  have hlc : c.length ≤ c'.toList.length := by simp; omega
  refine .cells _ _ _ _ _ _ ?_ ?_ ?_ (fun _ => rfl) ?_
  · have := hv.1; simp; omega
  · simp; omega
  · intro ho; have := h5 ho; simp; omega
  · have hl1 : (c.take o ++ (vs ++ c.drop (o + vs.length))).length = c.length := by simp; omega
    rw [hl1]
    have ht : c'.toList.take c.length = c'.toList.take c.length := rfl
    have he : (c'.toList.take (o + 0) ++ vs' ++ c'.toList.drop (o + 0 + vs'.length)).toArray.toList.take c.length = (c'.toList.take c.length).take o ++ (vs' ++ (c'.toList.take c.length).drop (o + vs'.length)) := by
      have hvl := hv.1
      simp only [Nat.add_zero, List.append_assoc]
      rw [List.take_append, List.length_take, Nat.min_eq_left (by omega), List.take_take, List.take_take, Nat.min_eq_right (by omega), Nat.min_eq_left (by omega)]
      congr 1
      rw [List.take_append]
      congr 1
      · exact List.take_of_length_le (by omega)
      · rw [List.drop_take]
        congr 1
        omega
    rw [he]
    rw [hv.1]
    exact (h7.take o).append (hv.append (h7.drop _))

include hE in
theorem storeA_ok (hrs : RS E.G ρ s.h w) {t : TypeId} {b o : Nat} {x' v v' : Value} {s' : St} (hx : VR ρ (.pointer (some ⟨b, o, none⟩)) x') (hv : VR ρ v v') (hp : storeA E fl s t b o v = some s') :
    ∃ w', (Instr.storeAt t x' v').run P w = .ok () w' ∧ RS E.G ρ s'.h w' ∧ Tr fl ρ s w ρ s' w' := by
  unfold storeA at hp
  split at hp
  · rename_i c e op rw' d i hb ht
    cases hq : (rw' && ok b && Nat.ble fl b && Nat.ble (b + 1) s.nx && Nat.beq v.cells.toList.length i.size && Nat.ble (o + v.cells.toList.length) c.length && v.cells.toList.all (·.oneCell')) with
    | false => simp only [hq, cond_false] at hp; cases hp
    | true =>
      simp only [hq, cond_true, Option.some.injEq] at hp
      subst hp
      simp only [Bool.and_eq_true] at hq
      obtain ⟨⟨⟨⟨⟨⟨hrw, hok⟩, hfl⟩, hnx⟩, hsz⟩, hle⟩, hone⟩ := hq
      subst hrw
      have hcv := hv.cells
      obtain ⟨r, n, w', h1, h2, h3, h4⟩ := write_cells (P := P) hrs hb hok (Nat.le_of_ble_eq_true hfl) (Nat.le_of_ble_eq_true hnx) hcv (Nat.le_of_ble_eq_true hle) hone
      cases hx with
      | ptr _ hb' =>
        rw [h1] at hb'
        cases hb'
        have hsz' : v'.cells.size = i.size := by
          have := Nat.eq_of_beq_eq_true hsz
          have h5 := hcv.1
          simp at this h5
          omega
        exact ⟨w', by simp [Instr.storeAt, Instr.sureAddr, storeVar, run_size hE ht, hsz', h2], h3, h4⟩
  · cases hp

end
end Go.Ev
