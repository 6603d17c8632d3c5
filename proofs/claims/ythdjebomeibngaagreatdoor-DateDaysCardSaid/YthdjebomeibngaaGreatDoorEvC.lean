/- A checked interpreter for closed calls, part 3: operations that turn nothing. -/
import Derived.Test.YthdjebomeibngaaGreatDoorEvB
import Derived.IntWalk
namespace Go.Ev
open Go

/-- What the interpreter is told of the program: types, functions, and the number of package-level variables. -/
structure Env where
  tt : TypeId → Option (TypeDesc × TypeInfo)
  ft : FuncId → Option Func
  G : Nat
  /-- struct types that are compared field by field -/
  flat : TypeId → Bool

structure EnvOK (P : Program) (E : Env) : Prop where
  tt : ∀ t d i, E.tt t = some (d, i) → P.underlying t = some d ∧ P.info? t = some i
  ft : ∀ f fn, E.ft f = some fn → P.funcs[f]? = some fn ∧ (fn.name == "runtime.NumGoroutine") = false
  mixed : P.follows .mixedOrders = true
  flat : ∀ t, E.flat t = true → P.eqGuardType P.depth t = false ∧ P.stoodInHeld t = false ∧ ∀ fs, P.underlying t = some (.struct fs) → ∀ f ∈ fs.toList, f.name ≠ "_"

section
variable {P : Program} {E : Env} (hE : EnvOK P E)
include hE

theorem run_und {t : TypeId} {d : TypeDesc} {i : TypeInfo} (h : E.tt t = some (d, i)) (w : World) : (underlying t).run P w = .ok d w :=
  run_underlying (hE.tt t d i h).1 w

theorem run_size {t : TypeId} {d : TypeDesc} {i : TypeInfo} (h : E.tt t = some (d, i)) (w : World) : (sizeOf t).run P w = .ok i.size w := by
  simp [sizeOf, typeInfo, (hE.tt t d i h).2]

theorem run_info {t : TypeId} {d : TypeDesc} {i : TypeInfo} (h : E.tt t = some (d, i)) (w : World) : (typeInfo t).run P w = .ok i w := by
  simp [typeInfo, (hE.tt t d i h).2]

theorem run_zero {t : TypeId} {d : TypeDesc} {i : TypeInfo} {z : Value} (h : E.tt t = some (d, i)) (hz : i.zero = some z) (w : World) : (zeroValue t).run P w = .ok z w := by
  simp [zeroValue, typeInfo, (hE.tt t d i h).2, hz]

end

def aggD : TypeDesc → Bool
  | .struct _ | .array _ _ => true
  | _ => false

section
variable {P : Program} {E : Env} (hE : EnvOK P E)
include hE
theorem run_isAgg {t : TypeId} {d : TypeDesc} {i : TypeInfo} (h : E.tt t = some (d, i)) (w : World) : (isAgg t).run P w = .ok (aggD d) w := by
  unfold isAgg aggD
  simp only [Sem.run_bind, run_und hE h, Result.andThen_ok]
  cases d <;> rfl
end

/-- A row of cells. -/
theorem RS.cells {G : Nat} {ρ : Ren} {h : T AObj} {w : World} (hrs : RS G ρ h w) {b : Nat} {c : List Value} {e : TypeId} {op rw : Bool} (hb : h.get b = some (.cells c e op rw)) :
    ∃ r n c' fz, ρ b = some (r, n) ∧ w.heap[r]? = some (.cells c' e fz) ∧ c'.size = n ∧ c.length ≤ n ∧ (op = false → c.length = n) ∧ (rw = true → fz = (0, 0)) ∧ VRs ρ c (c'.toList.take c.length) := by
  obtain ⟨r, n, o', h1, h2, h3⟩ := hrs.obj b _ hb
  cases h3 with
  | cells _ c' _ _ _ fz hn hl hx hf hv => exact ⟨r, n, c', fz, h1, h2, hn, hl, hx, hf, hv⟩

theorem add_none (r o j : Nat) : (⟨r, o, none⟩ : Addr).add j = ⟨r, o + j, none⟩ := by
  unfold Addr.add; split <;> simp_all

theorem cell_at {w : World} {r : Nat} {c' : Array Value} {e : TypeId} {fz : Nat × Nat} (h : w.heap[r]? = some (.cells c' e fz)) (o : Nat) : w.cell? ⟨r, o, none⟩ = c'[o]? := by
  simp [World.cell?, h]

/-- A cell of a row. -/
theorem cell_of {ρ : Ren} {c : List Value} {c' : Array Value} (hv : VRs ρ c (c'.toList.take c.length)) {o : Nat} {v : Value} (h : c[o]? = some v) : ∃ v', c'[o]? = some v' ∧ VR ρ v v' := by
  obtain ⟨v', h1, h2⟩ := hv.get h
  have ho : o < c.length := by
    rcases Nat.lt_or_ge o c.length with h' | h'
    · exact h'
    · simp [List.getElem?_eq_none h'] at h
  rw [List.getElem?_take, if_pos ho] at h1
  exact ⟨v', by simpa using h1, h2⟩

/-- Cells in the middle of a row. -/
def midOf (c : List Value) (o n : Nat) : Option (List Value) :=
  let cs := (c.drop o).take n
  cond (Nat.beq cs.length n) (some cs) none

theorem midOf_some {c cs : List Value} {o n : Nat} (h : midOf c o n = some cs) : cs = (c.drop o).take n ∧ cs.length = n := by
  unfold midOf at h
  cases hb : Nat.beq ((c.drop o).take n).length n with
  | false => simp only [hb, cond_false] at h; cases h
  | true =>
    simp only [hb, cond_true, Option.some.injEq] at h
    subst h
    exact ⟨rfl, Nat.eq_of_beq_eq_true hb⟩

theorem run_mid {P : Program} {ρ : Ren} {w : World} {r : Nat} {c : List Value} {c' : Array Value} {e : TypeId} {fz : Nat × Nat} (hw : w.heap[r]? = some (.cells c' e fz))
    (hv : VRs ρ c (c'.toList.take c.length)) {o n : Nat} {cs : List Value} (h : midOf c o n = some cs) :
    ∃ cs' : List Value, (loadCells ⟨r, o, none⟩ n).run P w = .ok cs'.toArray w ∧ VRs ρ cs cs' ∧ (∀ j v, cs'[j]? = some v → w.cell? ⟨r, o + j, none⟩ = some v) := by
  obtain ⟨h1, h2⟩ := midOf_some h
  have hvs := (hv.drop o).take n
  rw [← h1] at hvs
  have hcell : ∀ j v, (((c'.toList.take c.length).drop o).take n)[j]? = some v → w.cell? ⟨r, o + j, none⟩ = some v := fun j v hj => by
    rw [cell_at hw]
    rw [List.getElem?_take] at hj
    split at hj
    · rw [List.getElem?_drop, List.getElem?_take] at hj
      split at hj
      · simpa using hj
      · cases hj
    · cases hj
  refine ⟨_, ?_, hvs, hcell⟩
  have := run_loadCells_list (P := P) w ⟨r, o, none⟩ (((c'.toList.take c.length).drop o).take n) fun j v hj => by rw [add_none]; exact hcell j v hj
  rw [← hvs.1, h2] at this
  exact this

def loadV (E : Env) (h : T AObj) (t : TypeId) (b o : Nat) : Option Value :=
  match h.get b, E.tt t with
  | some (.cells c _ _ _), some (d, i) => cond (aggD d) ((midOf c o i.size).map fun cs => .agg cs.toArray) (c[o]?)
  | _, _ => none

theorem loadV_ok {P : Program} {E : Env} (hE : EnvOK P E) {G : Nat} {ρ : Ren} {h : T AObj} {w : World} (hrs : RS G ρ h w) {t : TypeId} {b o : Nat} {v : Value} (hl : loadV E h t b o = some v) :
    ∃ r n v', ρ b = some (r, n) ∧ (loadVar t ⟨r, o, none⟩).run P w = .ok v' w ∧ VR ρ v v' := by
  unfold loadV at hl
  split at hl
  · rename_i c e op rw' d i hb ht
    obtain ⟨r, n, c', fz, h1, h2, h3, h4, h5, h6, h7⟩ := hrs.cells hb
    cases ha : aggD d with
    | true =>
      simp only [ha, cond_true, Option.map_eq_some_iff] at hl
      obtain ⟨cs, hm, rfl⟩ := hl
      obtain ⟨cs', hr, hvs, _⟩ := run_mid (P := P) h2 h7 hm
      exact ⟨r, n, .agg cs'.toArray, h1, by simp [loadVar, run_isAgg hE ht, ha, run_size hE ht, hr], VR.aggOf hvs⟩
    | false =>
      simp only [ha, cond_false] at hl
      obtain ⟨v', hc, hv⟩ := cell_of h7 hl
      exact ⟨r, n, v', h1, by simp [loadVar, run_isAgg hE ht, ha, cell_at h2, hc], hv⟩
  · cases hl

/-! Numbers. -/

def iLe (x y : Int) : Bool := match y - x with | .ofNat _ => true | .negSucc _ => false
def iEq (x y : Int) : Bool := match x - y with | .ofNat n => Nat.beq n 0 | .negSucc _ => false

theorem iLe_eq (x y : Int) : iLe x y = decide (x ≤ y) := by
  unfold iLe
  cases h : y - x with
  | ofNat n => have h' : y - x = (n : Int) := h; simp; omega
  | negSucc n => have := Int.negSucc_lt_zero n; simp; omega

theorem iEq_eq (x y : Int) : iEq x y = (x == y) := by
  unfold iEq
  cases h : x - y with
  | ofNat n =>
    have h' : x - y = (n : Int) := h
    show Nat.beq n 0 = (x == y)
    cases hb : Nat.beq n 0 with
    | true =>
      have := Nat.eq_of_beq_eq_true hb
      have e : x = y := by omega
      simp [e]
    | false =>
      have := Nat.ne_of_beq_eq_false hb
      have e : x ≠ y := by omega
      simp [e]
  | negSucc n => have := Int.negSucc_lt_zero n; simp; omega

/-- A number of 64 bits. -/
def in64 : Int → Bool
  | .ofNat n => Nat.ble n 9223372036854775807
  | .negSucc n => Nat.ble n 9223372036854775807

theorem in64_spec {n : Int} (h : in64 n = true) : -9223372036854775808 ≤ n ∧ n ≤ 9223372036854775807 := by
  unfold in64 at h
  split at h
  · have := Nat.le_of_ble_eq_true h; simp; omega
  · have := Nat.le_of_ble_eq_true h; omega

theorem wrap_in64 {n : Int} (h : in64 n = true) : IntKind.i64.wrap n = n := Go.IntWalk.i64_in n (in64_spec h)

/-- Wraps a number: at 64 bits without reckoning where it fits. -/
def wrapQ (k : IntKind) (n : Int) : Int :=
  match k with
  | .i64 => cond (in64 n) n (IntKind.i64.wrap n)
  | k => k.wrap n

theorem wrapQ_eq (k : IntKind) (n : Int) : wrapQ k n = k.wrap n := by
  unfold wrapQ
  split
  · cases h : in64 n with
    | true => simp [wrap_in64 h]
    | false => rfl
  · rfl

def kEq : IntKind → IntKind → Bool
  | .i64, .i64 | .i32, .i32 | .u8, .u8 | .u64, .u64 | .u32, .u32 | .i8, .i8 | .i16, .i16 | .u16, .u16 => true
  | _, _ => false

theorem kEq_spec {j k : IntKind} (h : kEq j k = true) : j = k := by cases j <;> cases k <;> simp_all [kEq]

/-- Arithmetic and comparisons. -/
def intOp (op : BinOp) (k : IntKind) (x y : Int) : Option Value :=
  match op with
  | .add => some (.int k (wrapQ k (x + y)))
  | .sub => some (.int k (wrapQ k (x - y)))
  | .mul => some (.int k (wrapQ k (x * y)))
  | .quo => cond (iEq y 0) none (some (.int k (wrapQ k (x.tdiv y))))
  | .rem => cond (iEq y 0) none (some (.int k (x.tmod y)))
  | .eql => some (.bool (iEq x y))
  | .neq => some (.bool (!iEq x y))
  | .lss => some (.bool (!iLe y x))
  | .leq => some (.bool (iLe x y))
  | .gtr => some (.bool (!iLe x y))
  | .geq => some (.bool (iLe y x))
  | .and => some (.int k (k.wrap ((BitVec.ofInt k.bits x &&& BitVec.ofInt k.bits y).toNat)))
  | .or => some (.int k (k.wrap ((BitVec.ofInt k.bits x ||| BitVec.ofInt k.bits y).toNat)))
  | .xor => some (.int k (k.wrap ((BitVec.ofInt k.bits x ^^^ BitVec.ofInt k.bits y).toNat)))
  | .andNot => some (.int k (k.wrap ((BitVec.ofInt k.bits x &&& ~~~BitVec.ofInt k.bits y).toNat)))
  | _ => none

theorem intOp_ok {P : Program} {op : BinOp} {k : IntKind} {x y : Int} {v : Value} (h : intOp op k x y = some v) (t : TypeId) (w : World) :
    (binOp op t (.int k x) (.int k y)).run P w = .ok v w := by
  unfold intOp at h
  split at h <;> first | cases h; done | skip
  all_goals try (simp only [Option.some.injEq] at h; subst h)
  · simp [binOp, Op.intArith, wrapQ_eq]
  · simp [binOp, Op.intArith, wrapQ_eq]
  · simp [binOp, Op.intArith, wrapQ_eq]
  · cases hy : iEq y 0 with
    | true => simp [hy] at h
    | false =>
      simp only [hy, cond_false, Option.some.injEq] at h
      subst h
      rw [iEq_eq] at hy
      have : y ≠ 0 := by simpa using hy
      simp [binOp, Op.intDiv, wrapQ_eq, this]
  · cases hy : iEq y 0 with
    | true => simp [hy] at h
    | false =>
      simp only [hy, cond_false, Option.some.injEq] at h
      subst h
      rw [iEq_eq] at hy
      have : y ≠ 0 := by simpa using hy
      simp [binOp, Op.intDiv, this]
  · simp [binOp, Op.intCmp, iEq_eq]
  · simp [binOp, Op.intCmp, iEq_eq]; rfl
  · simp only [binOp, Op.intCmp, iLe_eq]; simp [← Int.not_le]
  · simp [binOp, Op.intCmp, iLe_eq]
  · simp only [binOp, Op.intCmp, iLe_eq]; simp [← Int.not_le]
  · simp [binOp, Op.intCmp, iLe_eq]
  · simp [binOp, Op.intBits]
  · simp [binOp, Op.intBits]
  · simp [binOp, Op.intBits]
  · simp [binOp, Op.intBits]

end Go.Ev
