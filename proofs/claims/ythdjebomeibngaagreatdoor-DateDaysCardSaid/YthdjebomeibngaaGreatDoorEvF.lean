/- A checked interpreter for closed calls, part 6: cuts, conversions, lookups, built values. -/
import Derived.Test.YthdjebomeibngaaGreatDoorEvE
import Derived.Laws.Strings2
import Derived.Laws.Build
namespace Go.Ev
open Go

section
variable {P : Program} {E : Env} (hE : EnvOK P E) {G : Nat} {ρ : Ren} {h : T AObj} {w : World}
include hE

/-- Where a cut begins: behind the last element of what has no more the address stays. -/
def cutAddr (b o l m size : Nat) : Addr := cond (Nat.beq m l) ⟨b, o, none⟩ ⟨b, o + l * size, none⟩

omit hE in
theorem cutAddr_eq (b o l m size : Nat) : cutAddr b o l m size = if m = l then ⟨b, o, none⟩ else (⟨b, o, none⟩ : Addr).add (l * size) := by
  unfold cutAddr
  cases hb : Nat.beq m l with
  | true => rw [if_pos (Nat.eq_of_beq_eq_true hb)]; rfl
  | false => rw [if_neg (Nat.ne_of_beq_eq_false hb), add_none]; rfl

def sliceAtA (E : Env) (t : TypeId) (x : Value) (lo hi : Option (Option Value)) : Option Value :=
  match E.tt t, x with
  | some (.string, _), .string s => (bndsA s.data.toList.length s.data.toList.length lo hi).map fun (l, h) => .string ⟨((s.data.toList.drop l).take (h - l)).toArray⟩
  | some (.slice e, _), .slice (some ⟨b, o, none⟩) len cap =>
    match E.tt e with
    | some (_, j) =>
      cond (Nat.ble (cap + 1) big)
        (cond (Nat.ble len cap) ((bndsA len cap lo hi).map fun (l, h) => .slice (some (cutAddr b o l cap j.size)) (h - l) (cap - l)) none)
        (match bndsA len len lo hi with
         | some (l, h) => cond (Nat.beq cap (big + j.size) && (Nat.beq l 0 || Nat.ble (l + 1) len)) (some (.slice (some ⟨b, o + l * j.size, none⟩) (h - l) cap)) none
         | none => none)
    | none => none
  | some (.slice e, _), .slice none 0 0 =>
    match E.tt e, bndsA 0 0 lo hi with
    | some _, some _ => some (.slice none 0 0)
    | _, _ => none
  | some (.array n e, _), .pointer (some ⟨b, o, none⟩) =>
    match E.tt e with
    | some (_, j) => cond (Nat.ble (n + 1) big) ((bndsA n n lo hi).map fun (l, h) => .slice (some (cutAddr b o l n j.size)) (h - l) (n - l)) none
    | none => none
  | _, _ => none

omit hE in
theorem bnds_up {len top top' l h : Nat} {lo hi : Option (Option Value)} {lo' hi' : Option Value} (hlo : VRo ρ lo lo') (hhi : VRo ρ hi hi') (hp : bndsA len top lo hi = some (l, h)) (h1 : top ≤ top') (hl : len ≤ top) (isS : Bool) (w : World) :
    (Instr.sliceBounds isS len top' lo' hi' none).run P w = .ok (l, h, top') w ∧ l ≤ h ∧ h ≤ top := by
  have hup : bndsA len top' lo hi = some (l, h) := by
    unfold bndsA at hp ⊢
    cases hi with
    | none => exact hp
    | some v =>
      cases v with
      | none => simp at hp
      | some v =>
        simp only at hp ⊢
        have e : ∀ h0, bndA v top = some h0 → bndA v top' = some h0 := fun h0 hb => by
          unfold bndA at hb ⊢
          split at hb
          · rename_i k i
            cases hb2 : Nat.ble i top with
            | false => rw [hb2] at hb; cases hb
            | true =>
              rw [hb2] at hb
              have := Nat.le_of_ble_eq_true hb2
              have h3 : Nat.ble i top' = true := Nat.ble_eq_true_of_le (by omega)
              simp only [h3]; exact hb
          · cases hb
        cases hb : bndA v top with
        | none => rw [hb] at hp; cases hp
        | some h0 => rw [e h0 hb]; rw [hb] at hp; exact hp
  have h2 := bndsA_ok (P := P) hlo hhi hp hl isS w
  exact ⟨(bndsA_ok hlo hhi hup (by omega) isS w).1, h2.2⟩

theorem sliceAtA_ok {t : TypeId} {x x' v : Value} {lo hi : Option (Option Value)} {lo' hi' : Option Value} (hx : VR ρ x x') (hlo : VRo ρ lo lo') (hhi : VRo ρ hi hi') (hp : sliceAtA E t x lo hi = some v) :
    ∃ v', (Instr.sliceAt t x' lo' hi' none).run P w = .ok v' w ∧ VR ρ v v' := by
  unfold sliceAtA at hp
  split at hp
  · rename_i j s ht
    cases hx
    rw [Option.map_eq_some_iff] at hp
    obtain ⟨⟨l, h'⟩, hb, rfl⟩ := hp
    have hs : s.data.toList.length = s.size := by rw [Array.length_toList]; rfl
    rw [hs] at hb
    obtain ⟨hr, _, _⟩ := bndsA_ok (P := P) hlo hhi hb (Nat.le_refl _) false w
    have e : s.extract l h' = ⟨((s.data.toList.drop l).take (h' - l)).toArray⟩ := by
      have := ByteArray.extract_mk s.data.toList l h'
      simpa using this
    exact ⟨.string (s.extract l h'), by simp [Instr.sliceAt, Instr.slice, run_und hE ht, hr], by rw [e]; exact .string _⟩
  · rename_i e j b o len cap ht
    split at hp
    · rename_i d k he
      cases hc : Nat.ble (cap + 1) big with
      | true =>
        rw [hc] at hp
        have hcap := Nat.le_of_ble_eq_true hc
        cases hx with
        | slice _ _ _ hb _ =>
          cases hlc : Nat.ble len cap with
          | false => rw [hlc] at hp; cases hp
          | true =>
            rw [hlc] at hp
            simp only [cond_true, Option.map_eq_some_iff] at hp
            obtain ⟨⟨l, h'⟩, hbd, rfl⟩ := hp
            obtain ⟨hr, h1, h2⟩ := bndsA_ok (P := P) hlo hhi hbd (Nat.le_of_ble_eq_true hlc) true w
            refine ⟨_, by simp [Instr.sliceAt, Instr.slice, run_und hE ht, hr, run_size hE he]; rfl, ?_⟩
            rw [cutAddr_eq]
            split
            · exact .slice _ _ _ hb (by omega)
            · rw [add_none, add_none]; exact .slice _ _ _ hb (by omega)
        | sliceOpen _ _ _ _ hb _ _ _ => omega
      | false =>
        rw [hc] at hp
        simp only [cond_false] at hp
        have hcap : ¬ cap + 1 ≤ big := fun hle => by rw [Nat.ble_eq_true_of_le hle] at hc; cases hc
        split at hp
        · rename_i l h' hbd
          cases hx with
          | slice _ _ _ hb hc' => omega
          | sliceOpen _ _ c s hb hs hn hl =>
            cases hq : (Nat.beq (big + s) (big + k.size) && (Nat.beq l 0 || Nat.ble (l + 1) len)) with
            | false => rw [hq] at hp; cases hp
            | true =>
              rw [hq] at hp
              simp only [cond_true, Option.some.injEq] at hp
              subst hp
              rw [Bool.and_eq_true, Bool.or_eq_true] at hq
              have hks : s = k.size := by have := Nat.eq_of_beq_eq_true hq.1; omega
              subst hks
              obtain ⟨hr, h1, h2⟩ := bnds_up (P := P) hlo hhi hbd hl (Nat.le_refl _) true w
              have hsub : (c - l) * k.size + l * k.size = c * k.size := by rw [← Nat.add_mul]; congr 1; omega
              refine ⟨_, by simp [Instr.sliceAt, Instr.slice, run_und hE ht, hr, run_size hE he]; rfl, ?_⟩
              split
              · rename_i hcl
                rcases hq.2 with h0 | h0
                · have := Nat.eq_of_beq_eq_true h0
                  subst this
                  simp only [Nat.zero_mul, Nat.add_zero, Nat.sub_zero]
                  exact .sliceOpen _ _ _ _ hb hs hn (by omega)
                · have := Nat.le_of_ble_eq_true h0; omega
              · rw [add_none]
                exact .sliceOpen _ _ _ _ hb hs (by omega) (by omega)
        · cases hp
    · cases hp
  · rename_i e j ht
    cases hx with
    | sliceNil =>
      split at hp
      · rename_i d lh he hbd
        obtain ⟨l, h'⟩ := lh
        obtain ⟨hr, h1, h2⟩ := bndsA_ok (P := P) hlo hhi hbd (Nat.le_refl _) true w
        simp only [Option.some.injEq] at hp
        subst hp
        have : h' = 0 := by omega
        subst this
        have : l = 0 := by omega
        subst this
        obtain ⟨d1, d2⟩ := d
        exact ⟨.slice none 0 0, by simp [Instr.sliceAt, Instr.slice, run_und hE ht, hr, run_size hE he], .sliceNil⟩
      · cases hp
  · rename_i n e j b o ht
    split at hp
    · rename_i d k he
      cases hx with
      | ptr _ hb =>
        cases hc : Nat.ble (n + 1) big with
        | false => rw [hc] at hp; cases hp
        | true =>
          rw [hc] at hp
          simp only [cond_true, Option.map_eq_some_iff] at hp
          obtain ⟨⟨l, h'⟩, hbd, rfl⟩ := hp
          have hcap := Nat.le_of_ble_eq_true hc
          obtain ⟨hr, h1, h2⟩ := bndsA_ok (P := P) hlo hhi hbd (Nat.le_refl _) false w
          refine ⟨_, by simp [Instr.sliceAt, run_und hE ht, Instr.sureAddr, hr, run_size hE he]; rfl, ?_⟩
          rw [cutAddr_eq]
          split
          · exact .slice _ _ _ hb (by omega)
          · rw [add_none, add_none]; exact .slice _ _ _ hb (by omega)
    · cases hp
  · cases hp

/-! One operand. -/

def unV (op : UnOp) (x : Value) : Option Value :=
  match op, x with
  | .neg, .int k n => some (.int k (wrapQ k (0 - n)))
  | .not, .bool b => some (.bool (!b))
  | .xor, .int k n => some (.int k (k.wrap ((BitVec.ofInt k.bits (if k.signed then -1 else k.max) ^^^ BitVec.ofInt k.bits n).toNat)))
  | _, _ => none

omit hE in
theorem unV_ok {op : UnOp} {x x' v : Value} (hx : VR ρ x x') (hp : unV op x = some v) : (Op.unary op x').run P w = .ok v w ∧ VR ρ v v := by
  unfold unV at hp
  split at hp <;> first | cases hp; done | skip
  all_goals (cases hx; simp only [Option.some.injEq] at hp; subst hp)
  · exact ⟨by simp [Op.unary, Op.intArith, wrapQ_eq], .int _ _⟩
  · exact ⟨by simp [Op.unary], .bool _⟩
  · exact ⟨by simp [Op.unary, Op.intBits], .int _ _⟩

def convA (E : Env) (src dst : TypeId) (x : Value) : Option Value :=
  match E.tt src, E.tt dst, x with
  | some _, some (.int k, _), .int _ n => some (.int k (wrapQ k n))
  | some _, some (.string, _), .string s => some (.string s)
  | _, _, _ => none

theorem convA_ok {src dst : TypeId} {x x' v : Value} (hx : VR ρ x x') (hp : convA E src dst x = some v) : (convert src dst x').run P w = .ok v w ∧ VR ρ v v := by
  unfold convA at hp
  split at hp
  · rename_i d k j k' n hs hd
    cases hx
    simp only [Option.some.injEq] at hp
    subst hp
    obtain ⟨d1, d2⟩ := d
    refine ⟨?_, .int _ _⟩
    simp [convert, run_und hE hs, run_und hE hd, Conv.intToInt, wrapQ_eq]
  · rename_i d j s hs hd
    cases hx
    simp only [Option.some.injEq] at hp
    subst hp
    obtain ⟨d1, d2⟩ := d
    refine ⟨?_, .string _⟩
    simp [convert, run_und hE hs, run_und hE hd]
  · cases hp

def ifaceD : TypeDesc → Bool
  | .interface _ => true
  | _ => false

def mkIfaceA (E : Env) (t : TypeId) (x : Value) : Option Value :=
  match E.tt t with
  | some (d, _) => cond (ifaceD d) none (some (.iface t x))
  | none => none

theorem mkIfaceA_ok {t : TypeId} {x x' v : Value} (hx : VR ρ x x') (hp : mkIfaceA E t x = some v) : ∃ v', (Instr.makeInterface t x').run P w = .ok v' w ∧ VR ρ v v' := by
  unfold mkIfaceA at hp
  split at hp
  · rename_i d i ht
    cases hd : ifaceD d with
    | true => rw [hd] at hp; cases hp
    | false =>
      rw [hd] at hp
      simp only [cond_false, Option.some.injEq] at hp
      subst hp
      refine ⟨.iface t x', ?_, .iface t hx⟩
      unfold Instr.makeInterface
      simp only [Sem.run_bind, run_und hE ht, Result.andThen_ok]
      cases d <;> first | rfl | cases hd
  · cases hp

def extractA (x : Value) (i : Nat) : Option Value :=
  match x with
  | .tuple vs => vs.toList[i]?
  | _ => none

omit hE in
theorem extractA_ok {x x' v : Value} {i : Nat} (hx : VR ρ x x') (hp : extractA x i = some v) : ∃ v', (Instr.extract x' i).run P w = .ok v' w ∧ VR ρ v v' := by
  unfold extractA at hp
  split at hp
  · obtain ⟨c', rfl, hv⟩ := hx.tuple_inv
    obtain ⟨v', h1, h2⟩ := hv.get hp
    have h1' : c'[i]? = some v' := by simpa using h1
    exact ⟨v', by simp [Instr.extract, h1'], h2⟩
  · cases hp

def nilCheckA (x : Value) : Option Value :=
  match x with
  | .pointer (some a) => some (.pointer (some a))
  | .func (.func f) a b => some (.func (.func f) a b)
  | .slice a l c => some (.slice a l c)
  | .map m => some (.map m)
  | _ => none

/-! Lengths. -/

def lenA (E : Env) (h : T AObj) (t : TypeId) (x : Value) : Option Value :=
  match E.tt t, x with
  | some (.string, _), .string s => some (goInt s.data.toList.length)
  | some (.slice _, _), .slice _ n _ => some (goInt n)
  | some (.array n _, _), _ => some (goInt n)
  | some (.map _ _, _), .map none => some (goInt 0)
  | some (.map _ _, _), .map (some b) => match h.get b with | some (.map es _) => some (goInt es.length) | _ => none
  | _, _ => none

theorem lenA_ok (hrs : RS G ρ h w) {t ty : TypeId} {x x' v : Value} (hx : VR ρ x x') (hp : lenA E h t x = some v) : (Builtin.len_ #[t] ty #[x']).run P w = .ok v w ∧ VR ρ v v := by
  unfold lenA at hp
  split at hp
  · rename_i j s ht
    cases hx
    simp only [Option.some.injEq] at hp
    subst hp
    have hs : s.data.toList.length = s.size := by rw [Array.length_toList]; rfl
    exact ⟨by rw [hs]; simp [Builtin.len_, run_und hE ht], .int _ _⟩
  · rename_i e j b n c ht
    simp only [Option.some.injEq] at hp
    subst hp
    cases hx <;> exact ⟨by simp [Builtin.len_, run_und hE ht], .int _ _⟩
  · rename_i n e j ht
    simp only [Option.some.injEq] at hp
    subst hp
    exact ⟨by simp [Builtin.len_, run_und hE ht], .int _ _⟩
  · rename_i k e j ht
    simp only [Option.some.injEq] at hp
    subst hp
    cases hx
    exact ⟨by simp [Builtin.len_, run_und hE ht], .int _ _⟩
  · rename_i k e j b ht
    cases hx with
    | map hb =>
      split at hp
      · rename_i es cl hg
        simp only [Option.some.injEq] at hp
        subst hp
        obtain ⟨r', n', o', h1, h2, h3⟩ := hrs.obj _ _ hg
        rw [h1] at hb
        cases hb
        cases h3 with
        | map _ es' _ hs _ => exact ⟨by simp [Builtin.len_, run_und hE ht, getObj, Sem.run, h2, hs], .int _ _⟩
      · cases hp
  · cases hp

end
end Go.Ev
