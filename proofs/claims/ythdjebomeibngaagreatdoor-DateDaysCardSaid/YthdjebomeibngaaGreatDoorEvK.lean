/- A checked interpreter for closed calls, part 11: append. -/
import Derived.Test.YthdjebomeibngaaGreatDoorEvJ
namespace Go.Ev
open Go Go.MapKept

section
variable {P : Program} {E : Env} (hE : EnvOK P E) {fl : Nat} {ρ : Ren} {s : St} {w : World}

/-- A block's content goes over to a new number, and is written on there. -/
theorem move_block {G fl : Nat} {ρ : Ren} {s : St} {w w' : World} {b r n : Nat} {o₀ o : AObj} {o' : Obj} (hrs : RS G ρ s.h w) (hokb : ok b = true) (hok : ok s.nx = true) (hG : G ≤ s.nx) (hfl : fl ≤ b) (hfn : fl ≤ s.nx) (hb : b < s.nx)
    (hfree : Free ρ s.nx (s.nx + 1)) (hold : s.h.get b = some o₀) (hr : ρ b = some (r, n)) (ho : OR (upd ρ s.nx (r, n)) n o o') (hos : w'.os = w.os) (htape : w'.tape = w.tape) (hout : w'.output = w.output) (hsize : w'.heap.size = w.heap.size)
    (hat : w'.heap[r]? = some o') (hoth : ∀ k, k ≠ r → w'.heap[k]? = w.heap[k]?) :
    RS G (upd ρ s.nx (r, n)) ({ (s.put b none).put s.nx (some o) with nx := s.nx + 1 } : St).h w' ∧
    Tr fl ρ s w (upd ρ s.nx (r, n)) { (s.put b none).put s.nx (some o) with nx := s.nx + 1 } w' := by
  have hnone : ρ s.nx = none := hfree s.nx (Nat.le_refl _) (by omega)
  have hle : Le ρ (upd ρ s.nx (r, n)) := upd_le hnone
  have hget : ∀ j, ({ (s.put b none).put s.nx (some o) with nx := s.nx + 1 } : St).h.get j = if j = s.nx then some o else if j = b then none else s.h.get j := fun j => by
    show ((s.put b none).put s.nx (some o)).h.get j = _
    rw [St.put_get hok, St.put_get hokb]
  have hlive : ∀ j x, s.h.get j = some x → j ≠ s.nx := fun i x hx e => by
    obtain ⟨r, m, o', h1, _⟩ := hrs.obj i x hx
    rw [e, hnone] at h1; cases h1
  refine ⟨⟨?_, ?_, ?_⟩, ⟨hle, ?_, by simp, hos, htape, hout, by omega, ?_, ?_, ?_, ?_⟩⟩
  · intro i r' m hi hr'
    by_cases e : i = s.nx
    · omega
    · simp only [upd, e, if_false] at hr'; exact hrs.glob i r' m hi hr'
  · intro i x hx
    rw [hget] at hx
    by_cases e : i = s.nx
    · subst e
      simp at hx
      subst hx
      exact ⟨r, n, o', upd_at _ _ _, hat, ho⟩
    · simp only [e, if_false] at hx
      by_cases eb : i = b
      · simp [eb] at hx
      · simp only [eb, if_false] at hx
        obtain ⟨r', m, p, h1, h2, h3⟩ := hrs.obj i x hx
        have hne : r' ≠ r := fun er => eb (hrs.inj i b x o₀ r m n hx hold (er ▸ h1) hr)
        exact ⟨r', m, p, hle _ _ h1, by rw [hoth r' hne]; exact h2, h3.mono hle⟩
  · intro i j x y r' a c hi hj hir hjr
    rw [hget] at hi hj
    have key : ∀ i x c, (if i = s.nx then some o else if i = b then none else s.h.get i) = some x → i ≠ s.nx → upd ρ s.nx (r, n) i = some (r, c) → False := fun i x c hi e hir => by
      simp only [e, if_false] at hi
      by_cases eb : i = b
      · simp [eb] at hi
      · simp only [eb, if_false] at hi
        simp only [upd, e, if_false] at hir
        exact eb (hrs.inj i b x o₀ r c n hi hold hir hr)
    by_cases ei : i = s.nx
    · by_cases ej : j = s.nx
      · omega
      · have : r' = r := by simp only [upd, ei, if_true] at hir; cases hir; rfl
        subst this
        exact (key j y c hj ej hjr).elim
    · by_cases ej : j = s.nx
      · have : r' = r := by simp only [upd, ej, if_true] at hjr; cases hjr; rfl
        subst this
        exact (key i x a hi ei hir).elim
      · simp only [ei, ej, if_false] at hi hj
        by_cases ib : i = b
        · simp [ib] at hi
        · by_cases jb : j = b
          · simp [jb] at hj
          · simp only [ib, jb, if_false] at hi hj
            simp only [upd, ei, ej, if_false] at hir hjr
            exact hrs.inj i j x y r' a c hi hj hir hjr
  · intro i x hx
    by_cases e : i = s.nx
    · right; subst e; exact ⟨Nat.le_refl _, by simp⟩
    · simp only [upd, e, if_false] at hx; exact .inl hx
  · intro k _ hno
    exact hoth k fun e => hno b o₀ n hfl hold (e ▸ hr)
  · intro i x r' m hi hx hir hlt
    rw [hget] at hx
    by_cases e : i = s.nx
    · simp only [upd, e, if_true] at hir
      cases hir
      exact ⟨b, o₀, n, hfl, hold, hr⟩
    · simp only [e, if_false] at hx
      by_cases eb : i = b
      · simp [eb] at hx
      · simp only [eb, if_false] at hx
        simp only [upd, e, if_false] at hir
        exact ⟨i, x, m, hi, hx, hir⟩
  · intro i hi
    rw [hget, if_neg (by omega), if_neg (by omega)]
  · intro i hi
    have : s.nx + 1 ≤ i := hi
    rw [hget, if_neg (by omega), if_neg (by omega)]

/-- A new row whose end is not known. -/
theorem newOpen_ok (hrs : RS E.G ρ s.h w) (h1 : E.G ≤ fl) (h2 : fl ≤ s.nx) (hok : ok s.nx = true) (hfree : Free ρ s.nx (s.nx + 1)) {cs : List Value} {cs' rest : List Value} (hcs : VRs ρ cs cs') (e : TypeId) (rw' : Bool) :
    RS E.G (upd ρ s.nx (w.heap.size, cs'.length + rest.length)) (newRowA s cs e true rw').h (w.drew.alloc (.cells (cs' ++ rest).toArray e)) ∧
    Tr fl ρ s w (upd ρ s.nx (w.heap.size, cs'.length + rest.length)) (newRowA s cs e true rw') (w.drew.alloc (.cells (cs' ++ rest).toArray e)) := by
  have hnb := new_block (w := w.drew) (fl := fl) (o := .cells cs e true rw') (o' := .cells (cs' ++ rest).toArray e) (n := cs'.length + rest.length) hrs.drew (by omega) h2 hok hfree (by
    refine .cells cs _ e true rw' (0, 0) (by simp) (by rw [hcs.1]; omega) (fun h => by cases h) (fun _ => rfl) ?_
    have : (cs' ++ rest).toArray.toList.take cs.length = cs' := by rw [hcs.1]; simp
    rw [this]
    exact hcs.mono (upd_le (hfree s.nx (Nat.le_refl _) (by omega))))
  refine ⟨hnb.1, ?_⟩
  have h := hnb.2
  exact ⟨h.le, h.dom, h.nx, h.os, h.tape, h.output, h.size, h.frame, h.own, h.low, h.hi⟩

/-- What is appended: how many elements, and their cells. -/
def newsA (E : Env) (h : T AObj) (tx : TypeId) (size : Nat) (x : Value) : Option (Nat × List Value) :=
  match E.tt tx, x with
  | some (.slice _, _), .slice none 0 0 => some (0, [])
  | some (.slice _, _), .slice (some ⟨b, o, none⟩) n _ =>
    match h.get b with
    | some (.cells c _ _ _) => match midOf c o (n * size) with | some cs => cond (cs.all (·.oneCell')) (some (n, cs)) none | none => none
    | _ => none
  | some (.string, _), .string s => cond (Nat.beq size 1) (some (s.data.toList.length, s.data.toList.map fun b => .int .u8 b.toNat)) none
  | _, _ => none

include hE in
theorem newsA_ok (hrs : RS E.G ρ s.h w) {tx : TypeId} {size : Nat} {x x' : Value} (hx : VR ρ x x') {n : Nat} {l : List Value} (hp : newsA E s.h tx size x = some (n, l)) :
    ∃ l', VRs ρ l l' ∧ l.length = n * size ∧ Src P size tx x' n l' w ∧ l.all (·.oneCell') = true := by
  unfold newsA at hp
  split at hp
  · rename_i e i ht
    simp only [Option.some.injEq, Prod.mk.injEq] at hp
    obtain ⟨rfl, rfl⟩ := hp
    cases hx
    exact ⟨[], VRs.nil ρ, by simp, Src.ofNil w (hE.tt _ _ _ ht).1 0, rfl⟩
  · rename_i e i b o m c ht
    split at hp
    · rename_i c2 e2 op2 rw2 hb
      split at hp
      · rename_i cs hm
        cases ha : cs.all (·.oneCell') with
        | false => rw [ha] at hp; cases hp
        | true =>
          rw [ha] at hp
          simp only [cond_true, Option.some.injEq, Prod.mk.injEq] at hp
          obtain ⟨rfl, rfl⟩ := hp
          obtain ⟨r, k, c', fz, h1, h2, h3, h4, h5, h6, h7⟩ := hrs.cells hb
          obtain ⟨cs', hr, hvs, hcell⟩ := run_mid (P := P) h2 h7 hm
          have hlen := (midOf_some hm).2
          have hsrc : ∀ c3, Src P size tx (.slice (some ⟨r, o, none⟩) m c3) m cs' w := fun c3 =>
            Src.ofSlice w (hE.tt _ _ _ ht).1 ⟨r, o, none⟩ m c3 cs' (by have := hvs.1; omega) (fun j u hj => by rw [add_none]; exact hcell j u hj) (hvs.all_one ha)
          cases hx with
          | slice _ _ _ hb' _ => rw [h1] at hb'; cases hb'; exact ⟨cs', hvs, hlen, hsrc _, ha⟩
          | sliceOpen _ _ _ _ hb' _ _ _ => rw [h1] at hb'; cases hb'; exact ⟨cs', hvs, hlen, hsrc _, ha⟩
      · cases hp
    · cases hp
  · rename_i i s' ht
    cases hx
    cases hs : Nat.beq size 1 with
    | false => rw [hs] at hp; cases hp
    | true =>
      rw [hs] at hp
      have hs1 := Nat.eq_of_beq_eq_true hs
      subst hs1
      simp only [cond_true, Option.some.injEq, Prod.mk.injEq] at hp
      obtain ⟨rfl, rfl⟩ := hp
      have hl : s'.data.toList.length = s'.size := by rw [Array.length_toList]; rfl
      refine ⟨byteCells s', ?_, by simp, ?_, ?_⟩
      · refine ⟨by simp [byteCells], fun i v v' hv hv' => ?_⟩
        unfold byteCells at hv'
        rw [hv] at hv'
        cases hv'
        rw [List.getElem?_map, Option.map_eq_some_iff] at hv
        obtain ⟨b, _, rfl⟩ := hv
        exact .int _ _
      · rw [hl]
        exact Src.ofString w (hE.tt _ _ _ ht).1 s'
      · rw [List.all_eq_true]
        intro v hv
        rw [List.mem_map] at hv
        obtain ⟨_, _, rfl⟩ := hv
        rfl
  · cases hp

/-- There is room: the cells are stored behind the length. -/
theorem run_append_room_at {t tx ty e : TypeId} {i : TypeInfo} (ht : P.underlying t = some (.slice e)) (hi : P.info? e = some i) {b off sLen sCap : Nat} {x : Value} {n : Nat} {news : List Value} (hs : Src P i.size tx x n news w) (hroom : sLen + n ≤ sCap) {w' : World}
    (hst : (storeCells ⟨b, off + sLen * i.size, none⟩ news).run P w = .ok () w') :
    (Builtin.append_ #[t, tx] ty #[.slice (some ⟨b, off, none⟩) sLen sCap, x]).run P w = .ok (.slice (some ⟨b, off, none⟩) (sLen + n) sCap) w' := by
  rcases hs.kind with ⟨e', hk⟩ | hk <;> simp [Builtin.append_, run_underlying ht, run_underlying hk, sizeOf, typeInfo, hi, hs.len, hroom, hs.cells, add_none, hst]

/-- A block is forgotten. -/
theorem drop_block {G fl : Nat} {ρ : Ren} {s : St} {w : World} (hrs : RS G ρ s.h w) {b : Nat} (hok : ok b = true) (hfl : fl ≤ b) (hb : b < s.nx) : RS G ρ (s.put b none).h w ∧ Tr fl ρ s w ρ (s.put b none) w := by
  have hget := fun j => St.put_get (s := s) hok none j
  refine ⟨⟨hrs.glob, fun i o hi => ?_, fun i j o o' r n m hi hj hir hjr => ?_⟩, ⟨.refl _, fun _ _ h => .inl h, Nat.le_refl _, rfl, rfl, rfl, Nat.le_refl _, fun _ _ _ => rfl, fun i o r n hi ho hr hlt => ?_, fun i hi => ?_, fun i hi => ?_⟩⟩
  · rw [hget] at hi
    by_cases e : i = b
    · simp [e] at hi
    · rw [if_neg e] at hi; exact hrs.obj i o hi
  · rw [hget] at hi hj
    by_cases e : i = b
    · simp [e] at hi
    · by_cases e' : j = b
      · simp [e'] at hj
      · rw [if_neg e] at hi
        rw [if_neg e'] at hj
        exact hrs.inj i j o o' r n m hi hj hir hjr
  · rw [hget] at ho
    by_cases e : i = b
    · simp [e] at ho
    · rw [if_neg e] at ho; exact ⟨i, o, n, hi, ho, hr⟩
  · rw [hget, if_neg (by omega)]
  · have : s.nx ≤ i := hi
    rw [hget, if_neg (by omega)]

/-- append makes a new row. -/
def growA (s : St) (e : TypeId) (i : TypeInfo) (olds news : List Value) (need : Nat) : Option (Value × St) :=
  match i.zero with
  | some z => cond (ok s.nx && Nat.ble need 100000 && Nat.ble i.bytes 1000000 && Nat.beq z.cells.toList.length i.size) (some (.slice (some ⟨s.nx, 0, none⟩) need (big + i.size), newRowA s (olds ++ news) e true true)) none
  | none => none

include hE in
theorem growA_ok (hrs : RS E.G ρ s.h w) (h1 : E.G ≤ fl) (h2 : fl ≤ s.nx) {t tx ty e : TypeId} {j : TypeInfo} {d : TypeDesc} {i : TypeInfo} (ht : E.tt t = some (.slice e, j)) (hte : E.tt e = some (d, i)) (hpos : 1 ≤ i.size) {olds olds' news news' : List Value} {base : Option Addr} {len cap n : Nat} {x : Value}
    (ho : VRs ρ olds olds') (hn : VRs ρ news news') (hs : Src P i.size tx x n news' w) (hol : olds.length = len * i.size) (hnl : news.length = n * i.size)
    (hold : (Builtin.firstCells i.size len (.slice base len cap)).run P w.drew = .ok olds'.toArray w.drew) (hg : cap < len + n) {out : Value} {s' : St} (hp : growA s e i olds news (len + n) = some (out, s')) (hfree : Free ρ s.nx s'.nx) :
    ∃ out' w', (Builtin.append_ #[t, tx] ty #[.slice base len cap, x]).run P w = .ok out' w' ∧ Post E.G fl ρ s w out s' out' w' := by
  unfold growA at hp
  split at hp
  · rename_i z hz
    cases hq : (ok s.nx && Nat.ble (len + n) 100000 && Nat.ble i.bytes 1000000 && Nat.beq z.cells.toList.length i.size) with
    | false => rw [hq] at hp; cases hp
    | true =>
      rw [hq] at hp
      simp only [cond_true, Option.some.injEq, Prod.mk.injEq] at hp
      obtain ⟨rfl, rfl⟩ := hp
      simp only [Bool.and_eq_true] at hq
      obtain ⟨⟨⟨hok, hne⟩, hby⟩, hzs⟩ := hq
      have hne := Nat.le_of_ble_eq_true hne
      have hby := Nat.le_of_ble_eq_true hby
      have hzs := Nat.eq_of_beq_eq_true hzs
      have hcap := nextslicecap_le hg
      have hprod : Builtin.nextslicecap (len + n) cap * i.bytes ≤ 200000000000 := Nat.le_trans (Nat.mul_le_mul (show _ ≤ 200000 by omega) hby) (by decide)
      have hrun := run_append_grow_src (P := P) w t tx ty e i z (hE.tt _ _ _ ht).1 (hE.tt _ _ _ hte).2 hz base len cap olds' hold x n news' hs hg (by omega) (by omega)
      have hrest : (((olds' ++ news').toArray ++ Builtin.zeroCells z.cells (grownCap w (len + n) cap e - (len + n))) : Array Value) = ((olds' ++ news') ++ (Builtin.zeroCells z.cells (grownCap w (len + n) cap e - (len + n))).toList).toArray := by
        apply Array.ext'; simp
      rw [hrest] at hrun
      obtain ⟨ha, hb⟩ := newOpen_ok (rest := (Builtin.zeroCells z.cells (grownCap w (len + n) cap e - (len + n))).toList) hrs h1 h2 hok hfree (ho.append hn) e true
      refine ⟨_, _, hrun, _, ha, hb, .sliceOpen _ _ _ _ (upd_at _ _ _) hpos ?_ (grownCap_ge w _ _ _)⟩
      have hge := grownCap_ge w (len + n) cap e
      have hzl : (Builtin.zeroCells z.cells (grownCap w (len + n) cap e - (len + n))).toList.length = (grownCap w (len + n) cap e - (len + n)) * i.size := by
        have : z.cells.size = i.size := by rw [← hzs]; simp
        simp [Builtin.zeroCells, this]
      have h3 := ho.1
      have h4 := hn.1
      rw [hzl, List.length_append, ← h3, ← h4, hol, hnl, ← Nat.add_mul, ← Nat.add_mul, Nat.zero_add]
      congr 1
      omega
  · cases hp

def appendA (E : Env) (fl : Nat) (s : St) (t tx : TypeId) (x y : Value) : Option (Value × St) :=
  match E.tt t with
  | some (.slice e, _) =>
    match E.tt e with
    | some (_, i) =>
      cond (Nat.ble 1 i.size)
        (match newsA E s.h tx i.size y with
         | some (n, news) =>
           match x with
           | .slice none 0 0 => cond (Nat.beq n 0) (some (.slice none 0 0, s)) (growA s e i [] news (0 + n))
           | .slice (some ⟨b, o, none⟩) len cap =>
             match s.h.get b with
             | some (.cells c e2 op rw) =>
               cond (Nat.ble (cap + 1) big)
                 (cond (Nat.ble (len + n) cap)
                   (cond (Nat.beq n 0) (some (x, s))
                     (cond (rw && ok b && Nat.ble fl b && Nat.ble (b + 1) s.nx && Nat.ble (o + len * i.size + news.length) c.length)
                       (some (.slice (some ⟨b, o, none⟩) (len + n) cap, s.put b (some (.cells (c.take (o + len * i.size) ++ (news ++ c.drop (o + len * i.size + news.length))) e2 op rw)))) none))
                   (match midOf c o (len * i.size) with
                    | some olds => growA s e i olds news (len + n)
                    | none => none))
                 (cond (Nat.beq cap (big + i.size))
                   (cond (Nat.beq n 0) (some (x, s))
                     (cond (rw && ok b && Nat.ble fl b && Nat.ble (b + 1) s.nx)
                       (cond (Nat.ble (o + (len + n) * i.size) c.length)
                         (some (.slice (some ⟨b, o, none⟩) (len + n) cap, s.put b (some (.cells (c.take (o + len * i.size) ++ (news ++ c.drop (o + len * i.size + news.length))) e2 op rw))))
                         (cond (Nat.beq o 0 && Nat.beq e2 e)
                           (match midOf c 0 (len * i.size) with
                            | some olds => growA (s.put b none) e i olds news (len + n)
                            | none => none) none))
                       none))
                   none)
             | _ => none
           | _ => none
         | none => none)
        none
    | none => none
  | _ => none

include hE in
/-- In place: the cells are there. -/
theorem append_in (hrs : RS E.G ρ s.h w) {t tx ty e : TypeId} {j : TypeInfo} {d : TypeDesc} {i : TypeInfo} (ht : E.tt t = some (.slice e, j)) (hte : E.tt e = some (d, i)) {b o len n r m cap' : Nat} {c : List Value} {e2 : TypeId} {op : Bool} {news news' : List Value} {x' : Value}
    (hb : s.h.get b = some (.cells c e2 op true)) (hr : ρ b = some (r, m)) (hok : ok b = true) (hfl : fl ≤ b) (hnx : b < s.nx) (hn : VRs ρ news news') (hs : Src P i.size tx x' n news' w) (hone : news.all (·.oneCell') = true)
    (hle : o + len * i.size + news.length ≤ c.length) (hroom : len + n ≤ cap') :
    ∃ w', (Builtin.append_ #[t, tx] ty #[.slice (some ⟨r, o, none⟩) len cap', x']).run P w = .ok (.slice (some ⟨r, o, none⟩) (len + n) cap') w' ∧
      RS E.G ρ (s.put b (some (.cells (c.take (o + len * i.size) ++ (news ++ c.drop (o + len * i.size + news.length))) e2 op true))).h w' ∧
      Tr fl ρ s w ρ (s.put b (some (.cells (c.take (o + len * i.size) ++ (news ++ c.drop (o + len * i.size + news.length))) e2 op true))) w' := by
  obtain ⟨r', m', w', h1, h2, h3, h4⟩ := write_cells (P := P) hrs hb hok hfl hnx hn hle hone
  rw [hr] at h1
  cases h1
  exact ⟨w', run_append_room_at (hE.tt _ _ _ ht).1 (hE.tt _ _ _ hte).2 hs hroom h2, h3, h4⟩

theorem cells_run {r o k : Nat} {c olds : List Value} {c' : Array Value} {e : TypeId} {fz : Nat × Nat} {size len cap : Nat} (hw : w.heap[r]? = some (.cells c' e fz)) (h7 : VRs ρ c (c'.toList.take c.length)) (hk : k = len * size) (hm : midOf c o k = some olds) :
    ∃ olds', VRs ρ olds olds' ∧ (Builtin.firstCells size len (.slice (some ⟨r, o, none⟩) len cap)).run P w.drew = .ok olds'.toArray w.drew := by
  subst hk
  obtain ⟨olds', hr, hvs, hcell⟩ := run_mid (P := P) hw h7 hm
  refine ⟨olds', hvs, run_firstCells_some w.drew size len ⟨r, o, none⟩ len cap olds' ?_ ?_⟩
  · have := (midOf_some hm).2
    have h2 := hvs.1
    omega
  · intro j v hj
    rw [add_none]
    exact hcell j v hj

set_option maxHeartbeats 2000000 in
include hE in
theorem appendA_ok (hrs : RS E.G ρ s.h w) (h1 : E.G ≤ fl) (h2 : fl ≤ s.nx) {t tx ty : TypeId} {x y x' y' : Value} (hx : VR ρ x x') (hy : VR ρ y y') {out : Value} {s' : St} (hp : appendA E fl s t tx x y = some (out, s')) (hfree : Free ρ s.nx s'.nx) :
    ∃ out' w', (Builtin.append_ #[t, tx] ty #[x', y']).run P w = .ok out' w' ∧ Post E.G fl ρ s w out s' out' w' := by
  unfold appendA at hp
  split at hp
  · rename_i e j ht
    split at hp
    · rename_i d i hte
      cases hsz : Nat.ble 1 i.size with
      | false => rw [hsz] at hp; cases hp
      | true =>
        rw [hsz] at hp
        have hpos := Nat.le_of_ble_eq_true hsz
        simp only [cond_true] at hp
        split at hp
        · rename_i n news hnews
          obtain ⟨news', hnv, hnl, hsrc, hone⟩ := newsA_ok hE hrs hy hnews
          split at hp
          · -- nil
            cases hx
            cases hn0 : Nat.beq n 0 with
            | true =>
              rw [hn0] at hp
              simp only [cond_true, Option.some.injEq, Prod.mk.injEq] at hp
              obtain ⟨rfl, rfl⟩ := hp
              have hn0 := Nat.eq_of_beq_eq_true hn0
              subst hn0
              have hnil : news' = [] := List.length_eq_zero_iff.1 (by rw [← hnv.1, hnl]; simp)
              subst hnil
              refine ⟨.slice none 0 0, w, ?_, ρ, hrs, .refl _ _ _ _, .sliceNil⟩
              have ha := (hE.tt _ _ _ ht).1
              have hb := (hE.tt _ _ _ hte).2
              rcases hsrc.kind with ⟨e', hk⟩ | hk <;> simp [Builtin.append_, run_underlying ha, run_underlying hk, sizeOf, typeInfo, hb, hsrc.len, hsrc.cells]
            | false =>
              rw [hn0] at hp
              have hn0 := Nat.ne_of_beq_eq_false hn0
              simp only [cond_false] at hp
              exact growA_ok hE hrs h1 h2 ht hte hpos (VRs.nil ρ) hnv hsrc (by simp) hnl (run_firstCells_none w.drew i.size 0 0 0) (by omega) hp hfree
          · -- a row
            rename_i b o len cap
            split at hp
            · rename_i c e2 op rw' hb
              obtain ⟨r, m, c', fz, g1, g2, g3, g4, g5, g6, g7⟩ := hrs.cells hb
              cases hcb : Nat.ble (cap + 1) big with
              | true =>
                rw [hcb] at hp
                have hcb := Nat.le_of_ble_eq_true hcb
                simp only [cond_true] at hp
                cases hx with
                | sliceOpen _ _ _ _ _ _ _ _ => omega
                | slice _ _ _ hb' hc' =>
                  rw [g1] at hb'
                  cases hb'
                  cases hroom : Nat.ble (len + n) cap with
                  | true =>
                    rw [hroom] at hp
                    have hroom := Nat.le_of_ble_eq_true hroom
                    simp only [cond_true] at hp
                    cases hn0 : Nat.beq n 0 with
                    | true =>
                      rw [hn0] at hp
                      simp only [cond_true, Option.some.injEq, Prod.mk.injEq] at hp
                      obtain ⟨rfl, rfl⟩ := hp
                      have hn0 := Nat.eq_of_beq_eq_true hn0
                      subst hn0
                      have hnil : news' = [] := List.length_eq_zero_iff.1 (by rw [← hnv.1, hnl]; simp)
                      subst hnil
                      refine ⟨_, w, run_append_room_at (hE.tt _ _ _ ht).1 (hE.tt _ _ _ hte).2 hsrc hroom rfl, ρ, hrs, .refl _ _ _ _, ?_⟩
                      exact .slice _ _ _ g1 hc'
                    | false =>
                      rw [hn0] at hp
                      simp only [cond_false] at hp
                      cases hq : (rw' && ok b && Nat.ble fl b && Nat.ble (b + 1) s.nx && Nat.ble (o + len * i.size + news.length) c.length) with
                      | false => rw [hq] at hp; cases hp
                      | true =>
                        rw [hq] at hp
                        simp only [cond_true, Option.some.injEq, Prod.mk.injEq] at hp
                        obtain ⟨rfl, rfl⟩ := hp
                        simp only [Bool.and_eq_true] at hq
                        obtain ⟨⟨⟨⟨hrw, hok⟩, hfl⟩, hnx⟩, hle⟩ := hq
                        subst hrw
                        obtain ⟨w', k1, k2, k3⟩ := append_in (P := P) (ty := ty) hE hrs ht hte hb g1 hok (Nat.le_of_ble_eq_true hfl) (Nat.le_of_ble_eq_true hnx) hnv hsrc hone (Nat.le_of_ble_eq_true hle) hroom
                        exact ⟨_, w', k1, ρ, k2, k3, .slice _ _ _ g1 hc'⟩
                  | false =>
                    rw [hroom] at hp
                    have hroom : ¬ len + n ≤ cap := fun h => by rw [Nat.ble_eq_true_of_le h] at hroom; cases hroom
                    simp only [cond_false] at hp
                    split at hp
                    · rename_i olds hm
                      obtain ⟨olds', ho, hold⟩ := cells_run (P := P) (cap := cap) g2 g7 rfl hm
                      exact growA_ok hE hrs h1 h2 ht hte hpos ho hnv hsrc (midOf_some hm).2 hnl hold (by omega) hp hfree
                    · cases hp
              | false =>
                rw [hcb] at hp
                have hcb : ¬ cap + 1 ≤ big := fun h => by rw [Nat.ble_eq_true_of_le h] at hcb; cases hcb
                simp only [cond_false] at hp
                cases hx with
                | slice _ _ _ _ hc' => omega
                | sliceOpen _ _ cp sz hb' hs0 hcs hl =>
                  rw [g1] at hb'
                  cases hb'
                  cases hsq : Nat.beq (big + sz) (big + i.size) with
                  | false => rw [hsq] at hp; cases hp
                  | true =>
                    rw [hsq] at hp
                    have hsq : sz = i.size := by have := Nat.eq_of_beq_eq_true hsq; omega
                    subst hsq
                    simp only [cond_true] at hp
                    cases hn0 : Nat.beq n 0 with
                    | true =>
                      rw [hn0] at hp
                      simp only [cond_true, Option.some.injEq, Prod.mk.injEq] at hp
                      obtain ⟨rfl, rfl⟩ := hp
                      have hn0 := Nat.eq_of_beq_eq_true hn0
                      subst hn0
                      have hnil : news' = [] := List.length_eq_zero_iff.1 (by rw [← hnv.1, hnl]; simp)
                      subst hnil
                      exact ⟨_, w, run_append_room_at (hE.tt _ _ _ ht).1 (hE.tt _ _ _ hte).2 hsrc hl rfl, ρ, hrs, .refl _ _ _ _, .sliceOpen _ _ _ _ g1 hs0 hcs hl⟩
                    | false =>
                      rw [hn0] at hp
                      simp only [cond_false] at hp
                      cases hq : (rw' && ok b && Nat.ble fl b && Nat.ble (b + 1) s.nx) with
                      | false => rw [hq] at hp; cases hp
                      | true =>
                        rw [hq] at hp
                        simp only [cond_true] at hp
                        simp only [Bool.and_eq_true] at hq
                        obtain ⟨⟨⟨hrw, hok⟩, hfl⟩, hnx⟩ := hq
                        have hfl := Nat.le_of_ble_eq_true hfl
                        have hnx := Nat.le_of_ble_eq_true hnx
                        subst hrw
                        have hmul : (len + n) * i.size = len * i.size + n * i.size := Nat.add_mul _ _ _
                        cases hin : Nat.ble (o + (len + n) * i.size) c.length with
                        | true =>
                          rw [hin] at hp
                          have hin := Nat.le_of_ble_eq_true hin
                          simp only [cond_true, Option.some.injEq, Prod.mk.injEq] at hp
                          obtain ⟨rfl, rfl⟩ := hp
                          have hroom : len + n ≤ cp := by
                            have : (len + n) * i.size ≤ cp * i.size := by omega
                            exact Nat.le_of_mul_le_mul_right this hs0
                          have hle2 : o + len * i.size + news.length ≤ c.length := by rw [hnl]; omega
                          obtain ⟨w', k1, k2, k3⟩ := append_in (P := P) (ty := ty) hE hrs ht hte hb g1 hok hfl hnx hnv hsrc hone hle2 hroom
                          exact ⟨_, w', k1, ρ, k2, k3, .sliceOpen _ _ _ _ g1 hs0 hcs hroom⟩
                        | false =>
                          rw [hin] at hp
                          simp only [cond_false] at hp
                          cases hoe : (Nat.beq o 0 && Nat.beq e2 e) with
                          | false => rw [hoe] at hp; cases hp
                          | true =>
                            rw [hoe] at hp
                            rw [Bool.and_eq_true] at hoe
                            have ho0 := Nat.eq_of_beq_eq_true hoe.1
                            have hee := Nat.eq_of_beq_eq_true hoe.2
                            subst ho0
                            subst hee
                            simp only [cond_true] at hp
                            split at hp
                            · rename_i olds hm
                              obtain ⟨olds', ho, hold⟩ := cells_run (P := P) (cap := cp) g2 g7 rfl hm
                              by_cases hroom : len + n ≤ cp
                              · -- there is room: the block goes on under the new number
                                have hlen := (midOf_some hm).2
                                have hmid := (midOf_some hm).1
                                simp only [List.drop_zero] at hmid
                                unfold growA at hp
                                split at hp
                                · rename_i z hz
                                  cases hq2 : (ok (s.put b none).nx && Nat.ble (len + n) 100000 && Nat.ble i.bytes 1000000 && Nat.beq z.cells.toList.length i.size) with
                                  | false => rw [hq2] at hp; cases hp
                                  | true =>
                                    rw [hq2] at hp
                                    simp only [cond_true, Option.some.injEq, Prod.mk.injEq] at hp
                                    obtain ⟨rfl, rfl⟩ := hp
                                    simp only [Bool.and_eq_true] at hq2
                                    obtain ⟨⟨⟨hok2, _⟩, _⟩, _⟩ := hq2
                                    have hfz := g6 rfl
                                    subst hfz
                                    have hroom2 : (len + n) * i.size ≤ cp * i.size := Nat.mul_le_mul_right _ hroom
                                    have hst := run_storeCells_at P r (0 + len * i.size) e2 news' 0 c' w g2 (by rw [← hnv.1]; omega) (hnv.all_one hone)
                                    have hfree' : Free ρ s.nx (s.nx + 1) := hfree
                                    have hmv := move_block (fl := fl) (o := .cells (olds ++ news) e2 true true) (w' := w.setRow r (c'.toList.take (0 + len * i.size + 0) ++ news' ++ c'.toList.drop (0 + len * i.size + 0 + news'.length)).toArray) hrs hok hok2 (by omega) hfl h2 hnx hfree' hb g1 (o' := .cells (c'.toList.take (0 + len * i.size + 0) ++ news' ++ c'.toList.drop (0 + len * i.size + 0 + news'.length)).toArray e2 (0, 0)) (by
                                      have hnl' := hnv.1
                                      have hcl : c'.toList.length = c'.size := by simp
                                      refine .cells _ _ _ _ _ _ (by simp; omega) (by rw [List.length_append]; omega) (fun h => by cases h) (fun _ => rfl) ?_
                                      have he : (c'.toList.take (0 + len * i.size + 0) ++ news' ++ c'.toList.drop (0 + len * i.size + 0 + news'.length)).toArray.toList.take (olds ++ news).length = (c'.toList.take c.length).take (len * i.size) ++ news' := by
                                        have hlc : len * i.size ≤ c.length := by
                                          have := congrArg List.length hmid
                                          rw [List.length_take] at this
                                          omega
                                        simp only [Nat.zero_add, Nat.add_zero]
                                        rw [List.take_take, Nat.min_eq_left hlc, List.length_append, hlen, hnl']
                                        have : (c'.toList.take (len * i.size) ++ news').length = len * i.size + news'.length := by
                                          rw [List.length_append, List.length_take]; omega
                                        rw [← this]
                                        exact List.take_left
                                      rw [he]
                                      have hov : VRs ρ olds ((c'.toList.take c.length).take (len * i.size)) := by rw [hmid]; exact g7.take _
                                      exact (hov.append hnv).mono (upd_le (hfree s.nx (Nat.le_refl _) (by show s.nx < s.nx + 1; omega)))) rfl rfl rfl (by simp) (setRow_heap w r c' _ e2 (0, 0) g2) (fun k hk => setRow_other w r k _ hk)
                                    refine ⟨_, _, run_append_room_at (hE.tt _ _ _ ht).1 (hE.tt _ _ _ hte).2 hsrc hroom hst, _, hmv.1, hmv.2, ?_⟩
                                    exact .sliceOpen _ _ _ _ (upd_at _ _ _) hs0 hcs hroom
                                · cases hp
                              · -- there is none
                                have hd := drop_block hrs hok hfl hnx
                                obtain ⟨out', w', k1, ρ', k2, k3, k4⟩ := growA_ok (s := s.put b none) (w := w) hE hd.1 h1 h2 ht hte hpos ho hnv hsrc (midOf_some hm).2 hnl hold (by omega) hp hfree
                                exact ⟨out', w', k1, ρ', k2, hd.2.trans k3, k4⟩
                            · cases hp
            · cases hp
          · cases hp
        · cases hp
    · cases hp
  · cases hp

end
end Go.Ev
