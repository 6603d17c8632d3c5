/- A checked interpreter for closed calls, part 12: all operations that call nothing. -/
import Derived.Test.YthdjebomeibngaaGreatDoorEvK
import Derived.Laws.IdiomStrings
import Derived.Laws.Small
namespace Go.Ev
open Go Go.MapKept

section
variable {P : Program} {E : Env} (hE : EnvOK P E) {fl : Nat} {ρ : Ren} {s : St} {w : World}

/-- The bytes of a string: a row that is only read. -/
def bytesA (E : Env) (s : St) (src dst : TypeId) (x : Value) : Option (Value × St) :=
  match E.tt src, E.tt dst, x with
  | some (.string, _), some (.slice e, _), .string b =>
    match E.tt e with
    | some (.int .u8, _) => cond (ok s.nx) (some (.slice (some ⟨s.nx, 0, none⟩) b.data.toList.length (big + 1), newRowA s (b.data.toList.map fun c => .int .u8 c.toNat) e true false)) none
    | _ => none
  | _, _, _ => none

include hE in
theorem bytesA_ok (hrs : RS E.G ρ s.h w) (h1 : E.G ≤ fl) (h2 : fl ≤ s.nx) {src dst : TypeId} {x x' out : Value} {s' : St} (hx : VR ρ x x') (hp : bytesA E s src dst x = some (out, s')) (hfree : Free ρ s.nx s'.nx) :
    ∃ out' w', (convert src dst x').run P w = .ok out' w' ∧ Post E.G fl ρ s w out s' out' w' := by
  unfold bytesA at hp
  split at hp
  · rename_i i e j b hs hd
    split at hp
    · rename_i k he
      cases hx
      cases hok : ok s.nx with
      | false => rw [hok] at hp; cases hp
      | true =>
        rw [hok] at hp
        simp only [cond_true, Option.some.injEq, Prod.mk.injEq] at hp
        obtain ⟨rfl, rfl⟩ := hp
        have hl : b.data.toList.length = b.size := by rw [Array.length_toList]; rfl
        have hge := grownCap_ge w b.size 0 e
        have hrow : (bytesRow b (grownCap w b.size 0 e)).toList = (b.data.toList.map fun c => Value.int .u8 c.toNat) ++ List.replicate (grownCap w b.size 0 e - b.size) (.int .u8 0) := by
          simp [bytesRow]
        have hsz : (bytesRow b (grownCap w b.size 0 e)).size = grownCap w b.size 0 e := by
          rw [← Array.length_toList, hrow]
          simp only [List.length_append, List.length_map, List.length_replicate, hl]
          omega
        have hnb := new_block (w := w.drew) (fl := fl) (o := .cells (b.data.toList.map fun c => .int .u8 c.toNat) e true false)
          (o' := .cells (bytesRow b (grownCap w b.size 0 e)) e ((bytesRow b (grownCap w b.size 0 e)).size, (bytesRow b (grownCap w b.size 0 e)).size + 1)) (n := grownCap w b.size 0 e) hrs.drew (by omega) h2 hok hfree (by
            refine .cells _ _ e true false _ hsz (by simp only [List.length_map, hl]; exact hge) (fun h => by cases h) (fun h => by cases h) ?_
            rw [hrow, List.take_left]
            refine ⟨rfl, fun i v v' hv hv' => ?_⟩
            rw [hv] at hv'
            cases hv'
            rw [List.getElem?_map, Option.map_eq_some_iff] at hv
            obtain ⟨_, _, rfl⟩ := hv
            exact .int _ _)
        have h := hnb.2
        refine ⟨_, _, run_bytes_of_string w src dst e b (hE.tt _ _ _ hs).1 (hE.tt _ _ _ hd).1 (hE.tt _ _ _ he).1, _, hnb.1, ⟨h.le, h.dom, h.nx, h.os, h.tape, h.output, h.size, h.frame, h.own, h.low, h.hi⟩, ?_⟩
        rw [hl]
        exact .sliceOpen _ _ _ 1 (upd_at _ _ _) (by omega) (by omega) hge
    · cases hp
  · cases hp

/-- Operands. -/
def argsA (ev : Operand → Option Value) : List Operand → Option (List Value)
  | [] => some []
  | x :: rest => match ev x, argsA ev rest with | some v, some l => some (v :: l) | _, _ => none

theorem argsA_ok {ev : Operand → Option Value} {ev' : Operand → Value} (he : ∀ x v, ev x = some v → VR ρ v (ev' x)) : ∀ (l : List Operand) (out : List Value), argsA ev l = some out → VRs ρ out (l.map ev')
  | [], out, h => by simp [argsA] at h; subst h; exact VRs.nil ρ
  | x :: rest, out, h => by
    unfold argsA at h
    split at h
    · rename_i v l hv hl
      simp only [Option.some.injEq] at h
      subst h
      exact VRs.cons (he _ _ hv) (argsA_ok he rest l hl)
    · cases h

/-- Calls of Go's own functions. -/
def builtinA (E : Env) (fl : Nat) (s : St) (b : Builtin) (ts : List TypeId) (vs : List Value) : Option (Value × St) :=
  match b, ts, vs with
  | .len, [t], [x] => (lenA E s.h t x).map fun v => (v, s)
  | .append, [t, tx], [x, y] => appendA E fl s t tx x y
  | .min, _, [.int j x, .int k y] => cond (kEq j k) (some (.int j (cond (iLe x y) x y), s)) none
  | .max, _, [.int j x, .int k y] => cond (kEq j k) (some (.int j (cond (iLe y x) x y), s)) none
  | .cap, [t], [.slice _ _ c] => match E.tt t with | some (.slice _, _) => cond (Nat.ble (c + 1) big) (some (goInt c, s)) none | _ => none
  | _, _, _ => none

def opA (E : Env) (fl : Nat) (s : St) (o : Op) (ev : Operand → Option Value) : Option (Value × St) :=
  match o with
  | .move x => (ev x).map fun v => (v, s)
  | .assign x => (ev x).map fun v => (v, s)
  | .pick c a b => match ev c with | some (.bool t) => (cond t (ev a) (ev b)).map fun v => (v, s) | _ => none
  | .alloc e => allocA E s e
  | .box e x => match ev x with | some v => boxA s e v | none => none
  | .build t ps => match partsA ev ps.toList with | some l => (buildA E t l).map fun v => (v, s) | none => none
  | .buildSlice t n ps => match partsA ev ps.toList with | some l => buildSliceA E s t n l | none => none
  | .insert t m k v => match ev m, ev k, ev v with | some (.map (some b)), some k, some v => (mapUpdateA E fl s t b k v).map fun s => (undef, s) | _, _, _ => none
  | .mapUpdate t m k v => match ev m, ev k, ev v with | some (.map (some b)), some k, some v => (mapUpdateA E fl s t b k v).map fun s => (undef, s) | _, _, _ => none
  | .load t a => match ev a with | some (.pointer (some ⟨b, o, none⟩)) => (loadV E s.h t b o).map fun v => (v, s) | _ => none
  | .store t a v => match ev a, ev v with | some (.pointer (some ⟨b, o, none⟩)), some v => (storeA E fl s t b o v).map fun s => (undef, s) | _, _ => none
  | .nilCheck x => match ev x with | some v => (nilCheckA v).map fun v => (v, s) | none => none
  | .binOp op t x y _ => match ev x, ev y with | some a, some b => (binV E op t y a b).map fun v => (v, s) | _, _ => none
  | .unOp op _ x => match ev x with | some v => (unV op v).map fun v => (v, s) | none => none
  | .convert src dst x =>
    match ev x with
    | some v => match convA E src dst v with | some u => some (u, s) | none => bytesA E s src dst v
    | none => none
  | .makeInterface t x => match ev x with | some v => (mkIfaceA E t v).map fun v => (v, s) | none => none
  | .makeFunc fn first cap =>
    match argsA ev first.toList, argsA ev cap.toList with
    | some f, some c => cond (fnPlain fn) (some (.func fn f.toArray c.toArray, s)) none
    | _, _ => none
  | .makeMap _ none => makeMapA s
  | .makeSlice t l c => match ev l, ev c with | some l, some c => makeSliceA E s t l c | _, _ => none
  | .slice t x lo hi none => match ev x with | some v => (sliceAtA E t v (lo.map ev) (hi.map ev)).map fun v => (v, s) | none => none
  | .fieldAddr t x f => match ev x with | some v => (fieldAtA E t v f).map fun v => (v, s) | none => none
  | .field t x f => match ev x with | some v => (fieldA E t v f).map fun v => (v, s) | none => none
  | .indexAddr t x i => match ev x, ev i with | some v, some i => (indexAtA E t v i).map fun v => (v, s) | _, _ => none
  | .index t x i => match ev x, ev i with | some v, some i => (indexA E t v i).map fun v => (v, s) | _, _ => none
  | .lookup t m k c => match ev m, ev k with | some m, some k => (lookupA E s.h t m k c).map fun v => (v, s) | _, _ => none
  | .extract x i => match ev x with | some v => (extractA v i).map fun v => (v, s) | none => none
  | .call { callee := .builtin b, args, argTypes } => match argsA ev args.toList with | some vs => builtinA E fl s b argTypes.toList vs | none => none
  | _ => none

/-- What an operation leaves in its slot. -/
def Next.leaves (n : Next) (v : Value) : Prop := n = .value v ∨ (n = .skip ∧ v = undef)

theorem post_same {G fl : Nat} {ρ : Ren} {s : St} {w : World} {v v' : Value} (hrs : RS G ρ s.h w) (h : VR ρ v v') : Post G fl ρ s w v s v' w := ⟨ρ, hrs, .refl _ _ _ _, h⟩

theorem VRo.ofMap {ev : Operand → Option Value} {ev' : Operand → Value} (he : ∀ x v, ev x = some v → VR ρ v (ev' x)) (x : Option Operand) : VRo ρ (x.map ev) (x.map ev') := by
  cases x with
  | none => trivial
  | some x =>
    show VRo ρ (some (ev x)) (some (ev' x))
    cases h : ev x with
    | none => trivial
    | some v => exact he x v h

include hE in
theorem builtinA_ok (hrs : RS E.G ρ s.h w) (h1 : E.G ≤ fl) (h2 : fl ≤ s.nx) {b : Builtin} {ts : Array TypeId} {vs : List Value} {vs' : List Value} (hv : VRs ρ vs vs') {out : Value} {s' : St} (hp : builtinA E fl s b ts.toList vs = some (out, s')) (hfree : Free ρ s.nx s'.nx) (ty : TypeId) (cs : Array Bool) :
    ∃ n out' w', (builtin b ts ty cs vs'.toArray).run P w = .ok n w' ∧ Next.leaves n out' ∧ Post E.G fl ρ s w out s' out' w' := by
  unfold builtinA at hp
  split at hp
  · rename_i t x hts
    obtain ⟨x', m, rfl, hx, hm⟩ := hv.uncons
    have := hm.unnil
    subst this
    rw [Option.map_eq_some_iff] at hp
    obtain ⟨v, hl, he⟩ := hp
    simp only [Prod.mk.injEq] at he
    obtain ⟨rfl, rfl⟩ := he
    have hta : ts = #[t] := by apply Array.ext'; simpa using hts
    subst hta
    obtain ⟨h3, h4⟩ := lenA_ok (ty := ty) hE hrs hx hl
    exact ⟨.value v, v, w, by simp [builtin, h3], .inl rfl, post_same hrs h4⟩
  · rename_i t tx x y hts
    obtain ⟨x', m, rfl, hx, hm⟩ := hv.uncons
    obtain ⟨y', m', rfl, hy, hm'⟩ := hm.uncons
    have := hm'.unnil
    subst this
    have hta : ts = #[t, tx] := by apply Array.ext'; simpa using hts
    subst hta
    obtain ⟨out', w', h3, h4⟩ := appendA_ok (ty := ty) hE hrs h1 h2 hx hy hp hfree
    exact ⟨.value out', out', w', by simp [builtin, h3], .inl rfl, h4⟩
  · rename_i j x k y
    obtain ⟨x', m, rfl, hx, hm⟩ := hv.uncons
    obtain ⟨y', m', rfl, hy, hm'⟩ := hm.uncons
    have := hm'.unnil
    subst this
    cases hx; cases hy
    cases hk : kEq j k with
    | false => rw [hk] at hp; cases hp
    | true =>
      rw [hk] at hp
      simp only [cond_true, Option.some.injEq, Prod.mk.injEq] at hp
      obtain ⟨rfl, rfl⟩ := hp
      refine ⟨.value (.int j (cond (iLe x y) x y)), _, w, ?_, .inl rfl, post_same hrs (.int _ _)⟩
      have := run_min_int2 (P := P) w ts ty j k x y
      simp only [builtin]
      simp [this, iLe_eq]
      by_cases h : y < x
      · have : ¬ x ≤ y := by omega
        simp [h, this]
      · have : x ≤ y := by omega
        simp [h, this]
  · rename_i j x k y
    obtain ⟨x', m, rfl, hx, hm⟩ := hv.uncons
    obtain ⟨y', m', rfl, hy, hm'⟩ := hm.uncons
    have := hm'.unnil
    subst this
    cases hx; cases hy
    cases hk : kEq j k with
    | false => rw [hk] at hp; cases hp
    | true =>
      rw [hk] at hp
      simp only [cond_true, Option.some.injEq, Prod.mk.injEq] at hp
      obtain ⟨rfl, rfl⟩ := hp
      refine ⟨.value (.int j (cond (iLe y x) x y)), _, w, ?_, .inl rfl, post_same hrs (.int _ _)⟩
      have := run_max_int2 (P := P) w ts ty j k x y
      simp only [builtin]
      simp [this, iLe_eq]
      by_cases h : x < y
      · have : ¬ y ≤ x := by omega
        simp [h, this]
      · have : y ≤ x := by omega
        simp [h, this]
  · rename_i t a l c hts
    obtain ⟨x', m, rfl, hx, hm⟩ := hv.uncons
    have := hm.unnil
    subst this
    have hta : ts = #[t] := by apply Array.ext'; simpa using hts
    subst hta
    split at hp
    · rename_i e i ht
      cases hc : Nat.ble (c + 1) big with
      | false => rw [hc] at hp; cases hp
      | true =>
        rw [hc] at hp
        have hc := Nat.le_of_ble_eq_true hc
        simp only [cond_true, Option.some.injEq, Prod.mk.injEq] at hp
        obtain ⟨rfl, rfl⟩ := hp
        cases hx with
        | sliceNil => exact ⟨.value (goInt (0 : Nat)), _, w, by simp [builtin, Builtin.cap_, run_und hE ht], .inl rfl, post_same hrs (.int _ _)⟩
        | slice _ _ _ hb _ => exact ⟨.value (goInt c), _, w, by simp [builtin, Builtin.cap_, run_und hE ht], .inl rfl, post_same hrs (.int _ _)⟩
        | sliceOpen _ _ _ _ _ _ _ _ => omega
    · cases hp
  · cases hp

end
end Go.Ev
