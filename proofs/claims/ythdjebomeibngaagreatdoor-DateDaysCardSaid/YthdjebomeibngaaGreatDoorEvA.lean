/- A checked interpreter for closed calls, part 1: what the interpreter's own (abstract) state says of a world. Abstract blocks have numbers of their own; a renaming tells where each lies in the world. -/
import Derived.Orders
import Derived.Recover
import Derived.Below
import Derived.KernelRfl
namespace Go.Ev
open Go

/-- Where an abstract block lies: the block's number, and how many cells it has. -/
abbrev Ren := Nat → Option (Nat × Nat)

/-- An abstract slice whose capacity is this number and some more has an unknown capacity; what is more is the size of its elements. -/
def big : Nat := 18446744073709551616

/-- Functions that hold no block's number. -/
def fnPlain : Fn → Bool
  | .yield _ => false
  | _ => true

/-- An abstract value, and what it stands for. -/
inductive VR (ρ : Ren) : Value → Value → Prop
  | bool (b : Bool) : VR ρ (.bool b) (.bool b)
  | int (k : IntKind) (n : Int) : VR ρ (.int k n) (.int k n)
  | string (s : ByteArray) : VR ρ (.string s) (.string s)
  | ptrNil : VR ρ (.pointer none) (.pointer none)
  | ptr {b r n : Nat} (o : Nat) (h : ρ b = some (r, n)) : VR ρ (.pointer (some ⟨b, o, none⟩)) (.pointer (some ⟨r, o, none⟩))
  | sliceNil : VR ρ (.slice none 0 0) (.slice none 0 0)
  | slice {b r n : Nat} (o l c : Nat) (h : ρ b = some (r, n)) (hc : c < big) : VR ρ (.slice (some ⟨b, o, none⟩) l c) (.slice (some ⟨r, o, none⟩) l c)
  | sliceOpen {b r n : Nat} (o l c s : Nat) (h : ρ b = some (r, n)) (hs : 0 < s) (hc : o + c * s = n) (hl : l ≤ c) :
      VR ρ (.slice (some ⟨b, o, none⟩) l (big + s)) (.slice (some ⟨r, o, none⟩) l c)
  | mapNil : VR ρ (.map none) (.map none)
  | map {b r n : Nat} (h : ρ b = some (r, n)) : VR ρ (.map (some b)) (.map (some r))
  | func (fn : Fn) (f f' c c' : Array Value) (hfn : fnPlain fn = true) (hf : f.size = f'.size) (hc : c.size = c'.size)
      (h1 : ∀ (i : Nat) (v v' : Value), f[i]? = some v → f'[i]? = some v' → VR ρ v v') (h2 : ∀ (i : Nat) (v v' : Value), c[i]? = some v → c'[i]? = some v' → VR ρ v v') :
      VR ρ (.func fn f c) (.func fn f' c')
  | yield {b r n : Nat} (h : ρ b = some (r, n)) : VR ρ (.func (.yield b) #[] #[]) (.func (.yield r) #[] #[])
  | nilFunc : VR ρ .nilFunc .nilFunc
  | iface (t : TypeId) {v v' : Value} (h : VR ρ v v') : VR ρ (.iface t v) (.iface t v')
  | nilIface : VR ρ .nilIface .nilIface
  | agg (c c' : Array Value) (hs : c.size = c'.size) (h : ∀ (i : Nat) (v v' : Value), c[i]? = some v → c'[i]? = some v' → VR ρ v v') : VR ρ (.agg c) (.agg c')
  | tuple (c c' : Array Value) (hs : c.size = c'.size) (h : ∀ (i : Nat) (v v' : Value), c[i]? = some v → c'[i]? = some v' → VR ρ v v') : VR ρ (.tuple c) (.tuple c')

def Le (ρ ρ' : Ren) : Prop := ∀ i x, ρ i = some x → ρ' i = some x

theorem Le.refl (ρ : Ren) : Le ρ ρ := fun _ _ h => h
theorem Le.trans {a b c : Ren} (h : Le a b) (k : Le b c) : Le a c := fun i x hx => k i x (h i x hx)

theorem VR.mono {ρ ρ' : Ren} (hle : Le ρ ρ') {v v' : Value} (h : VR ρ v v') : VR ρ' v v' := by
  induction h with
  | bool b => exact .bool b
  | int k n => exact .int k n
  | string s => exact .string s
  | ptrNil => exact .ptrNil
  | ptr o h => exact .ptr o (hle _ _ h)
  | sliceNil => exact .sliceNil
  | slice o l c h hc => exact .slice o l c (hle _ _ h) hc
  | sliceOpen o l c s h hs hc hl => exact .sliceOpen o l c s (hle _ _ h) hs hc hl
  | mapNil => exact .mapNil
  | map h => exact .map (hle _ _ h)
  | func fn f f' c c' hfn hf hc _ _ ih1 ih2 => exact .func fn f f' c c' hfn hf hc ih1 ih2
  | yield h => exact .yield (hle _ _ h)
  | nilFunc => exact .nilFunc
  | iface t _ ih => exact .iface t ih
  | nilIface => exact .nilIface
  | agg c c' hs _ ih => exact .agg c c' hs ih
  | tuple c c' hs _ ih => exact .tuple c c' hs ih

/-- Two lists, value by value. -/
def VRs (ρ : Ren) (l l' : List Value) : Prop := l.length = l'.length ∧ ∀ (i : Nat) (v v' : Value), l[i]? = some v → l'[i]? = some v' → VR ρ v v'

theorem VRs.nil (ρ : Ren) : VRs ρ [] [] := ⟨rfl, by simp⟩

theorem VRs.cons {ρ : Ren} {v v' : Value} {l l' : List Value} (h : VR ρ v v') (t : VRs ρ l l') : VRs ρ (v :: l) (v' :: l') := by
  refine ⟨by simp [t.1], fun i u u' hu hu' => ?_⟩
  cases i with
  | zero => simp at hu hu'; subst hu; subst hu'; exact h
  | succ i => simp at hu hu'; exact t.2 i u u' hu hu'

theorem VRs.uncons {ρ : Ren} {v : Value} {l l' : List Value} (t : VRs ρ (v :: l) l') : ∃ v' m, l' = v' :: m ∧ VR ρ v v' ∧ VRs ρ l m := by
  cases l' with
  | nil => simp [VRs] at t
  | cons v' m =>
    refine ⟨v', m, rfl, t.2 0 _ _ rfl rfl, by simpa using t.1, fun i u u' hu hu' => t.2 (i + 1) u u' (by simpa using hu) (by simpa using hu')⟩

theorem VRs.unnil {ρ : Ren} {l' : List Value} (t : VRs ρ [] l') : l' = [] := by
  cases l' with
  | nil => rfl
  | cons a b => simp [VRs] at t

theorem VRs.mono {ρ ρ' : Ren} (hle : Le ρ ρ') {l l' : List Value} (h : VRs ρ l l') : VRs ρ' l l' := ⟨h.1, fun i v v' hv hv' => (h.2 i v v' hv hv').mono hle⟩

theorem VRs.append {ρ : Ren} {a a' b b' : List Value} (h : VRs ρ a a') (k : VRs ρ b b') : VRs ρ (a ++ b) (a' ++ b') := by
  refine ⟨by simp [h.1, k.1], fun i v v' hv hv' => ?_⟩
  by_cases hi : i < a.length
  · rw [List.getElem?_append_left hi] at hv
    rw [List.getElem?_append_left (h.1 ▸ hi)] at hv'
    exact h.2 i v v' hv hv'
  · rw [List.getElem?_append_right (by omega)] at hv
    rw [List.getElem?_append_right (by have := h.1; omega)] at hv'
    rw [← h.1] at hv'
    exact k.2 _ v v' hv hv'

theorem VRs.take {ρ : Ren} {l l' : List Value} (h : VRs ρ l l') (n : Nat) : VRs ρ (l.take n) (l'.take n) := by
  refine ⟨by simp [h.1], fun i v v' hv hv' => ?_⟩
  rw [List.getElem?_take] at hv hv'
  split at hv <;> simp_all
  exact h.2 i v v' hv hv'

theorem VRs.drop {ρ : Ren} {l l' : List Value} (h : VRs ρ l l') (n : Nat) : VRs ρ (l.drop n) (l'.drop n) := by
  refine ⟨by simp [h.1], fun i v v' hv hv' => ?_⟩
  rw [List.getElem?_drop] at hv hv'
  exact h.2 _ v v' hv hv'

theorem VRs.get {ρ : Ren} {l l' : List Value} (h : VRs ρ l l') {i : Nat} {v : Value} (hv : l[i]? = some v) : ∃ v', l'[i]? = some v' ∧ VR ρ v v' := by
  have hi : i < l.length := by
    rcases Nat.lt_or_ge i l.length with h | h
    · exact h
    · simp [List.getElem?_eq_none h] at hv
  have hi' : i < l'.length := h.1 ▸ hi
  exact ⟨l'[i], List.getElem?_eq_getElem hi', h.2 i v _ hv (List.getElem?_eq_getElem hi')⟩

theorem VR.aggOf {ρ : Ren} {c c' : List Value} (h : VRs ρ c c') : VR ρ (.agg c.toArray) (.agg c'.toArray) :=
  .agg _ _ (by simpa using h.1) (fun i v v' hv hv' => h.2 i v v' (by simpa using hv) (by simpa using hv'))

theorem VR.tupleOf {ρ : Ren} {c c' : List Value} (h : VRs ρ c c') : VR ρ (.tuple c.toArray) (.tuple c'.toArray) :=
  .tuple _ _ (by simpa using h.1) (fun i v v' hv hv' => h.2 i v v' (by simpa using hv) (by simpa using hv'))

theorem VR.agg_inv {ρ : Ren} {c : Array Value} {v' : Value} (h : VR ρ (.agg c) v') : ∃ c' : Array Value, v' = .agg c' ∧ VRs ρ c.toList c'.toList := by
  cases h with
  | agg _ c' hs h => exact ⟨c', rfl, by simpa using hs, fun i v v' hv hv' => h i v v' (by simpa using hv) (by simpa using hv')⟩

theorem VR.tuple_inv {ρ : Ren} {c : Array Value} {v' : Value} (h : VR ρ (.tuple c) v') : ∃ c' : Array Value, v' = .tuple c' ∧ VRs ρ c.toList c'.toList := by
  cases h with
  | tuple _ c' hs h => exact ⟨c', rfl, by simpa using hs, fun i v v' hv hv' => h i v v' (by simpa using hv) (by simpa using hv')⟩

/-- The cells of a value. -/
theorem VR.cells {ρ : Ren} {v v' : Value} (h : VR ρ v v') : VRs ρ v.cells.toList v'.cells.toList := by
  cases h with
  | agg c c' hs h => exact ⟨by simpa [Value.cells] using hs, fun i v v' hv hv' => h i v v' (by simpa [Value.cells] using hv) (by simpa [Value.cells] using hv')⟩
  | _ => exact VRs.cons (by first | constructor <;> assumption | exact .sliceOpen _ _ _ _ ‹_› ‹_› ‹_› ‹_›) (VRs.nil ρ)

theorem VR.oneCell {ρ : Ren} {v v' : Value} (h : VR ρ v v') : v.oneCell' = v'.oneCell' := by cases h <;> rfl

/-! Values that hold no address: they stand for themselves. -/

def plain1 : Value → Bool
  | .bool _ | .int .. | .string _ | .pointer none | .slice none 0 0 | .map none | .nilFunc | .nilIface => true
  | .func fn f c => fnPlain fn && f.isEmpty && c.isEmpty
  | _ => false

def plainV : Value → Bool
  | .agg c => c.toList.all plain1
  | .tuple c => c.toList.all plain1
  | .iface _ v => plain1 v
  | v => plain1 v

theorem VR.of_plain1 {ρ : Ren} {v : Value} (h : plain1 v = true) : VR ρ v v := by
  unfold plain1 at h
  split at h
  · exact .bool _
  · exact .int _ _
  · exact .string _
  · exact .ptrNil
  · exact .sliceNil
  · exact .mapNil
  · exact .nilFunc
  · exact .nilIface
  · simp only [Bool.and_eq_true, Array.isEmpty_iff] at h
    obtain ⟨⟨h1, rfl⟩, rfl⟩ := h
    exact .func _ _ _ _ _ h1 rfl rfl (by simp) (by simp)
  · cases h

theorem VRs.of_plain {ρ : Ren} {l : List Value} (h : l.all plain1 = true) : VRs ρ l l :=
  ⟨rfl, fun i v v' hv hv' => by
    rw [hv] at hv'; cases hv'
    exact .of_plain1 (by simpa using (List.all_eq_true.1 h) v (List.mem_of_getElem? hv))⟩

theorem VR.of_plain {ρ : Ren} {v : Value} (h : plainV v = true) : VR ρ v v := by
  unfold plainV at h
  split at h
  · have := VR.aggOf (VRs.of_plain (ρ := ρ) h); simpa using this
  · have := VR.tupleOf (VRs.of_plain (ρ := ρ) h); simpa using this
  · exact .iface _ (.of_plain1 h)
  · exact .of_plain1 h

/-! Abstract heaps: a tree of blocks. -/

inductive T (α : Type) where
  | e
  | n (l : T α) (v : Option α) (r : T α)

namespace T
variable {α : Type}

def get : T α → Nat → Option α
  | .e, _ => none
  | .n l v r, i => cond (Nat.beq i 0) v (cond (Nat.beq (i % 2) 1) (l.get (i / 2)) (r.get (i / 2 - 1)))

/-- Sets a place: the fuel bounds the depth. -/
def set : Nat → T α → Nat → Option α → T α
  | 0, t, _, _ => t
  | f + 1, .e, i, x => cond (Nat.beq i 0) (.n .e x .e) (cond (Nat.beq (i % 2) 1) (.n (set f .e (i / 2) x) none .e) (.n .e none (set f .e (i / 2 - 1) x)))
  | f + 1, .n l v r, i, x => cond (Nat.beq i 0) (.n l x r) (cond (Nat.beq (i % 2) 1) (.n (set f l (i / 2) x) v r) (.n l v (set f r (i / 2 - 1) x)))

theorem get_set : ∀ (f : Nat) (t : T α) (i j : Nat) (x : Option α), i < 2 ^ f - 1 → (set f t i x).get j = if j = i then x else t.get j := by
  intro f
  induction f with
  | zero => intro t i j x h; simp at h
  | succ f ih =>
    intro t i j x h
    have hp : 2 ^ (f + 1) = 2 * 2 ^ f := by rw [Nat.pow_succ]; omega
    have bz : ∀ a b : Nat, Nat.beq a b = decide (a = b) := fun a b => by
      cases h : Nat.beq a b with
      | false => have := Nat.ne_of_beq_eq_false h; simp [this]
      | true => have := Nat.eq_of_beq_eq_true h; simp [this]
    have ge : ∀ k, (T.e : T α).get k = none := fun k => by simp [get]
    cases t with
    | e =>
      simp only [set, get, bz]
      by_cases hi : i = 0
      · subst hi
        simp only [decide_true, cond_true, get, bz]
        by_cases hj : j = 0 <;> simp [hj]
      · simp only [hi, decide_false, cond_false]
        by_cases ho : i % 2 = 1
        · simp only [ho, decide_true, cond_true, get, bz]
          rw [ih _ _ _ _ (by omega)]
          by_cases hj : j = 0
          · subst hj; simp; omega
          · by_cases hjo : j % 2 = 1
            · simp only [hj, hjo, decide_true, decide_false, cond_true, cond_false, ge]
              by_cases e : j = i
              · subst e; simp
              · rw [if_neg (by omega), if_neg e]
            · simp only [hj, hjo, decide_false, cond_false, ge]
              rw [if_neg (by omega)]
        · simp only [ho, decide_false, cond_false, get, bz]
          by_cases hj : j = 0
          · subst hj; simp; omega
          · by_cases hjo : j % 2 = 1
            · simp only [hj, hjo, decide_true, decide_false, cond_true, cond_false]
              rw [if_neg (by omega)]
            · simp only [hj, hjo, decide_false, cond_false]
              rw [ih _ _ _ _ (by omega), ge]
              by_cases e : j = i
              · subst e; simp
              · rw [if_neg (by omega), if_neg e]
    | n l v r =>
      simp only [set, bz]
      by_cases hi : i = 0
      · subst hi
        simp only [decide_true, cond_true, get, bz]
        by_cases hj : j = 0 <;> simp [hj]
      · simp only [hi, decide_false, cond_false]
        by_cases ho : i % 2 = 1
        · simp only [ho, decide_true, cond_true, get, bz]
          by_cases hj : j = 0
          · subst hj; simp; omega
          · by_cases hjo : j % 2 = 1
            · simp only [hj, hjo, decide_true, decide_false, cond_true, cond_false]
              rw [ih _ _ _ _ (by omega)]
              by_cases e : j = i
              · subst e; simp
              · rw [if_neg (by omega), if_neg e]
            · simp only [hj, hjo, decide_false, cond_false]
              rw [if_neg (by omega)]
        · simp only [ho, decide_false, cond_false, get, bz]
          by_cases hj : j = 0
          · subst hj; simp; omega
          · by_cases hjo : j % 2 = 1
            · simp only [hj, hjo, decide_true, decide_false, cond_true, cond_false]
              rw [if_neg (by omega)]
            · simp only [hj, hjo, decide_false, cond_false]
              rw [ih _ _ _ _ (by omega)]
              by_cases e : j = i
              · subst e; simp
              · rw [if_neg (by omega), if_neg e]
end T

/-- What an abstract block holds. 'cells c e op rw': a row of cells; 'op': it may have more cells than these; 'rw': it may be written. -/
inductive AObj where
  | cells (c : List Value) (elem : TypeId) (op rw : Bool)
  | map (es : List MapEntry) (clock : Nat)
  /-- A block for the deferred calls of rounds; there are none. -/
  | marks
  /-- A range over a function: whether a round may begin, the jump that waits, the slots where it began, its code, and its block for deferred calls. -/
  | loop (st : LoopState) (pend : Option Code) (ts : T Value) (n : Nat) (ps : List Nat) (assign body : Code) (D : Nat)

/-- An abstract block, and the block (of n cells) that it stands for. -/
inductive OR (ρ : Ren) (n : Nat) : AObj → Obj → Prop
  | cells (c : List Value) (c' : Array Value) (e : TypeId) (op rw : Bool) (fz : Nat × Nat) (hn : c'.size = n) (hl : c.length ≤ n) (hx : op = false → c.length = n)
      (hf : rw = true → fz = (0, 0)) (h : VRs ρ c (c'.toList.take c.length)) : OR ρ n (.cells c e op rw) (.cells c' e fz)
  | map (es : List MapEntry) (es' : Array MapEntry) (clock : Nat) (hs : es.length = es'.size)
      (h : ∀ (i : Nat) (x x' : MapEntry), es[i]? = some x → es'[i]? = some x' → x.key = x'.key ∧ plainV x.key = true ∧ VR ρ x.val x'.val ∧ x.born = x'.born) : OR ρ n (.map es clock) (.map es' clock)

  | marks : OR ρ n .marks (.deferred (some []))
  | loop (r : Loop) (ts : T Value) (c D rD nD : Nat) (ps : List Nat) (hps : r.params.toList = ps) (hc : r.tmps.size = c) (hD : ρ D = some (rD, nD)) (hrD : r.defers = rD)
      (h : ∀ (t : Nat) (v : Value), ts.get t = some v → ∃ v', r.tmps[t]? = some v' ∧ VR ρ v v') : OR ρ n (.loop r.state r.pending ts c ps r.assign r.body D) (.loop r)

theorem OR.mono {ρ ρ' : Ren} (hle : Le ρ ρ') {n : Nat} {o : AObj} {o' : Obj} (h : OR ρ n o o') : OR ρ' n o o' := by
  cases h with
  | cells c c' e op rw fz hn hl hx hf h => exact .cells c c' e op rw fz hn hl hx hf (h.mono hle)
  | map es es' clock hs h => exact .map es es' clock hs fun i x x' hx hx' => ⟨(h i x x' hx hx').1, (h i x x' hx hx').2.1, (h i x x' hx hx').2.2.1.mono hle, (h i x x' hx hx').2.2.2⟩
  | marks => exact .marks
  | loop r ts c D rD nD ps hps hc hD hrD h => exact .loop r ts c D rD nD ps hps hc (hle _ _ hD) hrD fun t v hv => let ⟨v', h1, h2⟩ := h t v hv; ⟨v', h1, h2.mono hle⟩

/-- What is known of a world: G is the number of package-level variables, whose blocks have their own numbers. -/
structure RS (G : Nat) (ρ : Ren) (h : T AObj) (w : World) : Prop where
  glob : ∀ i r n, i < G → ρ i = some (r, n) → r = i
  obj : ∀ i o, h.get i = some o → ∃ r n o', ρ i = some (r, n) ∧ w.heap[r]? = some o' ∧ OR ρ n o o'
  inj : ∀ i j o o' r n m, h.get i = some o → h.get j = some o' → ρ i = some (r, n) → ρ j = some (r, m) → i = j

/-- The interpreter's state: its heap, and the number that the next block gets. -/
structure St where
  h : T AObj
  nx : Nat

def Free (ρ : Ren) (a b : Nat) : Prop := ∀ i, a ≤ i → i < b → ρ i = none

/-- What a piece of a run has done. 'fl': blocks of lower numbers are not written. -/
structure Tr (fl : Nat) (ρ : Ren) (s : St) (w : World) (ρ' : Ren) (s' : St) (w' : World) : Prop where
  le : Le ρ ρ'
  dom : ∀ i x, ρ' i = some x → ρ i = some x ∨ (s.nx ≤ i ∧ i < s'.nx)
  nx : s.nx ≤ s'.nx
  os : w'.os = w.os
  tape : w'.tape = w.tape
  output : w'.output = w.output
  size : w.heap.size ≤ w'.heap.size
  frame : ∀ r, r < w.heap.size → (∀ i o n, fl ≤ i → s.h.get i = some o → ρ i ≠ some (r, n)) → w'.heap[r]? = w.heap[r]?
  own : ∀ i o r n, fl ≤ i → s'.h.get i = some o → ρ' i = some (r, n) → r < w.heap.size → ∃ j o' m, fl ≤ j ∧ s.h.get j = some o' ∧ ρ j = some (r, m)
  low : ∀ i, i < fl → s'.h.get i = s.h.get i
  hi : ∀ i, s'.nx ≤ i → s'.h.get i = s.h.get i

theorem Tr.refl (fl : Nat) (ρ : Ren) (s : St) (w : World) : Tr fl ρ s w ρ s w :=
  ⟨.refl ρ, fun _ _ h => .inl h, Nat.le_refl _, rfl, rfl, rfl, Nat.le_refl _, fun _ _ _ => rfl, fun i o _r n hi ho hr _ => ⟨i, o, n, hi, ho, hr⟩, fun _ _ => rfl, fun _ _ => rfl⟩

theorem Tr.trans {fl : Nat} {ρ ρ₁ ρ₂ : Ren} {s s₁ s₂ : St} {w w₁ w₂ : World} (h : Tr fl ρ s w ρ₁ s₁ w₁) (k : Tr fl ρ₁ s₁ w₁ ρ₂ s₂ w₂) : Tr fl ρ s w ρ₂ s₂ w₂ := {
  le := h.le.trans k.le
  dom := fun i x hx => by
    have hn := h.nx
    have kn := k.nx
    rcases k.dom i x hx with h1 | ⟨h1, h2⟩
    · rcases h.dom i x h1 with h3 | ⟨h3, h4⟩
      · exact .inl h3
      · exact .inr ⟨h3, by omega⟩
    · exact .inr ⟨by omega, h2⟩
  nx := Nat.le_trans h.nx k.nx
  os := k.os.trans h.os
  tape := k.tape.trans h.tape
  output := k.output.trans h.output
  size := Nat.le_trans h.size k.size
  frame := fun r hr hno => by
    rw [k.frame r (Nat.lt_of_lt_of_le hr h.size) fun i o n hi ho hri => by
      obtain ⟨j, o', m, hj, hjo, hjr⟩ := h.own i o r n hi ho hri hr
      exact hno j o' m hj hjo hjr]
    exact h.frame r hr hno
  own := fun i o r n hi ho hr hlt => by
    obtain ⟨j, o', m, hj, hjo, hjr⟩ := k.own i o r n hi ho hr (Nat.lt_of_lt_of_le hlt h.size)
    exact h.own j o' r m hj hjo hjr hlt
  low := fun i hi => (k.low i hi).trans (h.low i hi)
  hi := fun i hi => by
    have := k.nx
    exact (k.hi i hi).trans (h.hi i (by omega)) }

theorem Free.left {ρ : Ren} {a b c : Nat} (h : Free ρ a c) (hb : b ≤ c) : Free ρ a b := fun i h1 h2 => h i h1 (by omega)

/-- Behind a piece of a run the numbers that it has not used are free still. -/
theorem Tr.free {fl : Nat} {ρ ρ' : Ren} {s s' : St} {w w' : World} (h : Tr fl ρ s w ρ' s' w') {c : Nat} (hf : Free ρ s.nx c) : Free ρ' s'.nx c := fun i h1 h2 => by
  have hn := h.nx
  cases hi : ρ' i with
  | none => rfl
  | some x =>
    rcases h.dom i x hi with h3 | ⟨_, h4⟩
    · rw [hf i (by omega) h2] at h3; cases h3
    · omega

end Go.Ev
