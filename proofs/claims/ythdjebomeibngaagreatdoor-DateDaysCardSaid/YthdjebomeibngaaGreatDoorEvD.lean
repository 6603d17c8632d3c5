/- A checked interpreter for closed calls, part 4: more operations that turn nothing. -/
import Derived.Test.YthdjebomeibngaaGreatDoorEvC
import Derived.Laws.StructEq
import Derived.MapKept
namespace Go.Ev
open Go

/-! Strings. -/

def bEq : List UInt8 → List UInt8 → Bool
  | [], [] => true
  | a :: x, b :: y => cond (Nat.beq a.toNat b.toNat) (bEq x y) false
  | _, _ => false

theorem bEq_eq : ∀ x y : List UInt8, bEq x y = (x == y)
  | [], [] => rfl
  | [], _ :: _ => rfl
  | _ :: _, [] => rfl
  | a :: x, b :: y => by
    simp only [bEq, bEq_eq x y]
    cases h : Nat.beq a.toNat b.toNat with
    | true =>
      have : a = b := UInt8.toNat_inj.1 (Nat.eq_of_beq_eq_true h)
      subst this
      simp
    | false =>
      have : a ≠ b := fun e => Nat.ne_of_beq_eq_false h (e ▸ rfl)
      simp [this]

def strOp (op : BinOp) (x y : ByteArray) : Option Value :=
  match op with
  | .add => cond (Nat.ble (x.data.toList.length + y.data.toList.length) 1000000000) (some (.string ⟨(x.data.toList ++ y.data.toList).toArray⟩)) none
  | .eql => some (.bool (bEq x.data.toList y.data.toList))
  | .neq => some (.bool (!bEq x.data.toList y.data.toList))
  | .lss => some (.bool (Op.bytesLess x.data.toList y.data.toList))
  | .gtr => some (.bool (!(Op.bytesLess x.data.toList y.data.toList || bEq x.data.toList y.data.toList)))
  | .leq => some (.bool (Op.bytesLess x.data.toList y.data.toList || bEq x.data.toList y.data.toList))
  | .geq => some (.bool (!Op.bytesLess x.data.toList y.data.toList))
  | _ => none

theorem strOp_ok {P : Program} {op : BinOp} {x y : ByteArray} {v : Value} (h : strOp op x y = some v) (t : TypeId) (w : World) :
    (binOp op t (.string x) (.string y)).run P w = .ok v w := by
  unfold strOp at h
  split at h <;> first | cases h; done | skip
  · cases hb : Nat.ble (x.data.toList.length + y.data.toList.length) 1000000000 with
    | false => rw [hb] at h; cases h
    | true =>
      simp only [hb, cond_true, Option.some.injEq] at h
      subst h
      have hl := Nat.le_of_ble_eq_true hb
      have hx : x.data.toList.length = x.size := by rw [Array.length_toList]; rfl
      have hy : y.data.toList.length = y.size := by rw [Array.length_toList]; rfl
      have hm : IntKind.i64.max = 9223372036854775807 := by decide
      have hn : ¬ ((x.size + y.size : Nat) : Int) > IntKind.i64.max := by rw [hm]; omega
      have e : (ByteArray.mk (x.data.toList ++ y.data.toList).toArray) = x ++ y := by
        apply ByteArray.ext
        rw [ByteArray.data_append]
        apply Array.ext'
        simp
      simp only [binOp, Op.stringOp, hn, if_false, e, Sem.run_pure]
  all_goals (simp only [Option.some.injEq] at h; subst h)
  · simp [binOp, Op.stringOp, ByteArray.toList_eq, bEq_eq]
  · simp [binOp, Op.stringOp, ByteArray.toList_eq, bEq_eq]
  · simp [binOp, Op.stringOp, ByteArray.toList_eq]
  · simp [binOp, Op.stringOp, ByteArray.toList_eq, bEq_eq]
  · simp [binOp, Op.stringOp, ByteArray.toList_eq, bEq_eq]
  · simp [binOp, Op.stringOp, ByteArray.toList_eq]

/-! Equality of flat values: bools, numbers, strings, structs and arrays of these. -/

/-- Equality of two values of one cell, of a type that is no interface. -/
def eqCell (d : TypeDesc) (a b : Value) : Option Bool :=
  match d, a, b with
  | .bool, .bool x, .bool y => some (cond x y (!y))
  | .int _, .int j x, .int k y => cond (kEq j k) (some (iEq x y)) none
  | .string, .string x, .string y => some (bEq x.data.toList y.data.toList)
  | _, _, _ => none

theorem eqCell_ok {P : Program} {t : TypeId} {d : TypeDesc} (hd : P.underlying t = some d) {a b : Value} {r : Bool} (h : eqCell d a b = some r) (n : Nat) (w : World) :
    (Op.equalIn (n + 1) t a b).run P w = .ok r w := by
  unfold eqCell at h
  split at h
  · rename_i x y
    simp only [Option.some.injEq] at h
    subst h
    cases x <;> cases y <;> simp [Op.equalIn, run_underlying hd]
  · rename_i j x k y
    cases hk : kEq j k with
    | false => simp [hk] at h
    | true =>
      simp only [hk, cond_true, Option.some.injEq] at h
      subst h
      have := kEq_spec hk
      subst this
      simp [Op.equalIn, run_underlying hd, iEq_eq]
  · rename_i x y
    simp only [Option.some.injEq] at h
    subst h
    simp [Op.equalIn, run_underlying hd, bEq_eq, beq_toListBytes, ByteArray.toList_eq]
  · cases h

/-- A value that compares by itself stands for itself. -/
theorem eqCell_same {ρ : Ren} {d : TypeDesc} {a b a' b' : Value} {r : Bool} (h : eqCell d a b = some r) (ha : VR ρ a a') (hb : VR ρ b b') : a' = a ∧ b' = b := by
  unfold eqCell at h
  split at h
  · cases ha; cases hb; exact ⟨rfl, rfl⟩
  · cases ha; cases hb; exact ⟨rfl, rfl⟩
  · cases ha; cases hb; exact ⟨rfl, rfl⟩
  · cases h

/-- The fields of a struct of flat fields, one by one. -/
def eqFieldsA (E : Env) : List Field → List Value → List Value → Option Bool
  | [], _, _ => some true
  | f :: fs, xs, ys =>
    match E.tt f.type, xs[f.offset]?, ys[f.offset]? with
    | some (d, _), some a, some b =>
      match eqCell d a b with
      | some true => eqFieldsA E fs xs ys
      | some false => some false
      | none => none
    | _, _, _ => none

theorem part_cell {P : Program} {E : Env} (hE : EnvOK P E) {t : TypeId} {d : TypeDesc} {i : TypeInfo} (h : E.tt t = some (d, i)) (ha : aggD d = false) {cs : Array Value} {o : Nat} {v : Value} (hv : cs[o]? = some v) (w : World) :
    (part t cs o).run P w = .ok v w := by
  simp [part, run_isAgg hE h, ha, hv]

theorem eqCell_agg {d : TypeDesc} {a b : Value} {r : Bool} (h : eqCell d a b = some r) : aggD d = false := by
  unfold eqCell at h
  split at h <;> first | rfl | cases h

theorem eqFieldsA_ok {P : Program} {E : Env} (hE : EnvOK P E) {ρ : Ren} (n : Nat) (w : World) {xs ys : List Value} {xs' ys' : Array Value} (hx : VRs ρ xs xs'.toList) (hy : VRs ρ ys ys'.toList) :
    ∀ (fs : List Field) (r : Bool), (∀ f ∈ fs, f.name ≠ "_") → eqFieldsA E fs xs ys = some r → (Op.eqFields (n + 1) xs' ys' fs).run P w = .ok r w
  | [], r, _, h => by simp [eqFieldsA] at h; subst h; simp [Op.eqFields]
  | f :: fs, r, hnm, h => by
    have hn : f.name ≠ "_" := hnm f (by simp)
    unfold eqFieldsA at h
    split at h
    · rename_i d i a b ht ha hb
      obtain ⟨a', ha', hav⟩ := hx.get ha
      obtain ⟨b', hb', hbv⟩ := hy.get hb
      have ha'' : xs'[f.offset]? = some a' := by simpa using ha'
      have hb'' : ys'[f.offset]? = some b' := by simpa using hb'
      unfold Op.eqFields
      rw [if_pos hn]
      split at h
      · rename_i he
        obtain ⟨rfl, rfl⟩ := eqCell_same he hav hbv
        have ih := eqFieldsA_ok hE n w hx hy fs r (fun f hf => hnm f (by simp [hf])) h
        have hagg := eqCell_agg he
        have heq := eqCell_ok (P := P) (hE.tt _ _ _ ht).1 he n w
        simp [part_cell hE ht hagg ha'', part_cell hE ht hagg hb'', heq, ih]
      · rename_i he
        obtain ⟨rfl, rfl⟩ := eqCell_same he hav hbv
        simp only [Option.some.injEq] at h
        subst h
        have hagg := eqCell_agg he
        have heq := eqCell_ok (P := P) (hE.tt _ _ _ ht).1 he n w
        simp [part_cell hE ht hagg ha'', part_cell hE ht hagg hb'', heq]
      · cases h
    · cases h

/-- Equality of two values. -/
def eqV (E : Env) (t : TypeId) (a b : Value) : Option Bool :=
  match E.tt t with
  | none => none
  | some (d, _) =>
    match d, a, b with
    | .struct fs, .agg xs, .agg ys => cond (E.flat t) (eqFieldsA E fs.toList xs.toList ys.toList) none
    | .interface _, .nilIface, .iface _ _ | .interface _, .iface _ _, .nilIface => some false
    | .pointer _, .pointer (some _), .pointer none | .pointer _, .pointer none, .pointer (some _) => some false
    | .pointer _, .pointer none, .pointer none => some true
    | .slice _, .slice (some _) _ _, .slice none _ _ | .slice _, .slice none _ _, .slice (some _) _ _ => some false
    | .slice _, .slice none _ _, .slice none _ _ => some true
    | .map _ _, .map (some _), .map none | .map _ _, .map none, .map (some _) => some false
    | .map _ _, .map none, .map none => some true
    | .func _ _ _, .func _ _ _, .nilFunc | .func _ _ _, .nilFunc, .func _ _ _ => some false
    | .func _ _ _, .nilFunc, .nilFunc => some true
    | d, a, b => eqCell d a b

theorem eqV_ok {P : Program} {E : Env} (hE : EnvOK P E) {ρ : Ren} {t : TypeId} {a b a' b' : Value} {r : Bool} (h : eqV E t a b = some r) (ha : VR ρ a a') (hb : VR ρ b b') (w : World) :
    (Op.equal t a' b').run P w = .ok r w := by
  unfold eqV at h
  split at h
  · cases h
  rename_i d i ht
  have hd := (hE.tt _ _ _ ht).1
  unfold Op.equal Op.maxDepth
  obtain ⟨m, hm⟩ : ∃ m, 10000 = m + 2 := ⟨9998, rfl⟩
  rw [hm]
  split at h
  · rename_i fs xs ys
    cases hf : E.flat t with
    | false => rw [hf] at h; cases h
    | true =>
      rw [hf] at h
      obtain ⟨_, h2, h3⟩ := hE.flat t hf
      obtain ⟨xs', rfl, hx⟩ := ha.agg_inv
      obtain ⟨ys', rfl, hy⟩ := hb.agg_inv
      have hfs : P.fieldsOf t = fs := by simp [Program.fieldsOf, hd]
      rw [run_equalIn_struct w (m + 1) t xs' ys' (by rw [hfs]; exact hd) h2, hfs]
      exact eqFieldsA_ok hE m w hx hy fs.toList r (h3 fs hd) h
  all_goals first
    | (cases ha <;> cases hb <;> (simp only [Option.some.injEq] at h; subst h; unfold Op.equalIn; simp [run_underlying hd]; done))
    | skip
  obtain ⟨rfl, rfl⟩ := eqCell_same h ha hb
  exact eqCell_ok hd h (m + 1) w

/-- Binary operations. -/
def binV (E : Env) (op : BinOp) (t : TypeId) (y : Operand) (a b : Value) : Option Value :=
  match op, a, b with
  | .shl, .int k n, .int _ m => cond (iLe 0 m) (some (.int k (k.wrap (n * 2 ^ (min m.toNat k.bits))))) none
  | .shr, .int k n, .int _ m => cond (iLe 0 m) (some (.int k (n.fdiv (2 ^ (min m.toNat k.bits))))) none
  | op, .int j n, .int k m => cond (kEq j k) (intOp op j n m) none
  | op, .string s, .string u => strOp op s u
  | .eql, .nilIface, .nilIface => match E.tt t, y with | some (.interface _, _), .const _ => some (.bool true) | _, _ => none
  | .neq, .nilIface, .nilIface => match E.tt t, y with | some (.interface _, _), .const _ => some (.bool false) | _, _ => none
  | .eql, a, b => (eqV E t a b).map .bool
  | .neq, a, b => (eqV E t a b).map fun r => .bool (!r)
  | _, _, _ => none

theorem nilEq {P : Program} {E : Env} (hE : EnvOK P E) {t : TypeId} {ms : Array (String × TypeId)} {i : TypeInfo} (ht : E.tt t = some (.interface ms, i)) (w : World) : (Op.equal t .nilIface .nilIface).run P w = .ok true w := by
  have hd := (hE.tt _ _ _ ht).1
  unfold Op.equal Op.maxDepth
  obtain ⟨m, hm⟩ : ∃ m, 10000 = m + 1 := ⟨9999, rfl⟩
  rw [hm]
  unfold Op.equalIn
  simp [run_underlying hd]

/-- '==' and '!=' where no number, no string and no two nils are compared. -/
theorem eqV_bin {P : Program} {E : Env} (hE : EnvOK P E) {ρ : Ren} {t : TypeId} {a b a' b' : Value} {r : Bool} (h : eqV E t a b = some r) (ha : VR ρ a a') (hb : VR ρ b b') (w : World)
    (h1 : ∀ j n k m, a = .int j n → b = .int k m → False) (h2 : ∀ s u, a = .string s → b = .string u → False) (h3 : a = .nilIface → b = .nilIface → False) (x y : Operand) :
    (do eqGuard .eql t x y a' b'; binOp .eql t a' b' : Sem Value).run P w = .ok (.bool r) w ∧ (do eqGuard .neq t x y a' b'; binOp .neq t a' b' : Sem Value).run P w = .ok (.bool (!r)) w := by
  have hq := eqV_ok hE h ha hb w
  unfold eqV at h
  split at h
  · cases h
  rename_i d i ht
  split at h
  · rename_i fs xs ys
    cases hf : E.flat t with
    | false => rw [hf] at h; cases h
    | true =>
      obtain ⟨hg, _, _⟩ := hE.flat t hf
      obtain ⟨xs', rfl, hx⟩ := ha.agg_inv
      obtain ⟨ys', rfl, hy⟩ := hb.agg_inv
      simp [run_eqGuard_agg, hg, binOp, hq]
  all_goals first
    | (cases ha <;> cases hb <;> (simp [eqGuard, binOp, hq]; done))
    | skip
  unfold eqCell at h
  split at h
  · cases ha; cases hb; simp [eqGuard, binOp, hq]
  · exact (h1 _ _ _ _ rfl rfl).elim
  · exact (h2 _ _ rfl rfl).elim
  · cases h

theorem intOp_noGuard (op : BinOp) (t : TypeId) (x y : Operand) (j k : IntKind) (n m : Int) (P : Program) (w : World) : (eqGuard op t x y (.int j n) (.int k m)).run P w = .ok () w := by
  cases op <;> simp [eqGuard]

theorem binV_ok {P : Program} {E : Env} (hE : EnvOK P E) {ρ : Ren} {op : BinOp} {t : TypeId} {x y : Operand} {a b a' b' : Value} {v : Value} (h : binV E op t y a b = some v) (ha : VR ρ a a') (hb : VR ρ b b') (w : World) :
    (do eqGuard op t x y a' b'; binOp op t a' b' : Sem Value).run P w = .ok v w ∧ VR ρ v v := by
  unfold binV at h
  split at h
  · cases ha; cases hb
    rename_i k n k' m
    cases hm : iLe 0 m with
    | false => rw [hm] at h; cases h
    | true =>
      rw [hm] at h
      simp only [cond_true, Option.some.injEq] at h
      subst h
      rw [iLe_eq] at hm
      have hm' : ¬ m < 0 := by simpa using hm
      exact ⟨by simp [eqGuard, binOp, Op.shift, hm'], .int _ _⟩
  · cases ha; cases hb
    rename_i k n k' m
    cases hm : iLe 0 m with
    | false => rw [hm] at h; cases h
    | true =>
      rw [hm] at h
      simp only [cond_true, Option.some.injEq] at h
      subst h
      rw [iLe_eq] at hm
      have hm' : ¬ m < 0 := by simpa using hm
      exact ⟨by simp [eqGuard, binOp, Op.shift, hm'], .int _ _⟩
  · cases ha; cases hb
    rename_i op' j n k m _ _
    cases hk : kEq j k with
    | false => rw [hk] at h; cases h
    | true =>
      rw [hk] at h
      have := kEq_spec hk
      subst this
      have h' : intOp op j n m = some v := h
      refine ⟨by simp [intOp_noGuard, intOp_ok h'], ?_⟩
      unfold intOp at h'
      split at h' <;> first
        | (simp only [Option.some.injEq] at h'; subst h'; first | exact .int _ _ | exact .bool _)
        | cases h'
        | (cases hy : iEq m 0 with
           | true => simp [hy] at h'
           | false => simp only [hy, cond_false, Option.some.injEq] at h'; subst h'; exact .int _ _)
  · cases ha; cases hb
    rename_i s u
    refine ⟨?_, ?_⟩
    · have := strOp_ok (P := P) h t w
      cases op <;> simp [eqGuard, this]
    · unfold strOp at h
      split at h <;> first
        | (simp only [Option.some.injEq] at h; subst h; first | exact .string _ | exact .bool _)
        | cases h
        | (cases hb : Nat.ble (s.data.toList.length + u.data.toList.length) 1000000000 with
           | false => rw [hb] at h; cases h
           | true => simp only [hb, cond_true, Option.some.injEq] at h; subst h; exact .string _)
  · cases ha; cases hb
    split at h
    · rename_i ms j z ht
      simp only [Option.some.injEq] at h; subst h
      exact ⟨by cases x <;> simp [eqGuard, binOp, nilEq hE ht], .bool _⟩
    · cases h
  · cases ha; cases hb
    split at h
    · rename_i ms j z ht
      simp only [Option.some.injEq] at h; subst h
      exact ⟨by cases x <;> simp [eqGuard, binOp, nilEq hE ht], .bool _⟩
    · cases h
  · rename_i hi hs hn
    rw [Option.map_eq_some_iff] at h
    obtain ⟨r, h, rfl⟩ := h
    exact ⟨(eqV_bin hE h ha hb w (by simpa using hi) (by simpa using hs) (by simpa using hn) x y).1, .bool _⟩
  · rename_i hi hs hn
    rw [Option.map_eq_some_iff] at h
    obtain ⟨r, h, rfl⟩ := h
    exact ⟨(eqV_bin hE h ha hb w (by simpa using hi) (by simpa using hs) (by simpa using hn) x y).2, .bool _⟩
  · cases h

end Go.Ev
