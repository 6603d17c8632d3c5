/- A checked interpreter for closed calls, part 24d: drawn regions with rounds; blocks that are shut; a range over a function is entered and left. -/
import Derived.Test.YthdjebomeibngaaGreatDoorEvXc
import Derived.RangeFuncLeaves
import Derived.RangeFuncNested
namespace Go.Ev
open Go Go.MapKept

theorem xpost_out {G fl : Nat} {ρ : Ren} {s s' : St} {w : World} {x : AX} {A' : AA} : ¬ LetsOut (XPost G fl ρ s w x A' s') := by
  rintro ⟨_, _, _, hx, _⟩
  cases x <;> exact hx

section
variable {P : Program} {E : Env} (hE : EnvOK P E) {fl : Nat} {call : Nat → FuncId → List Value → St → Option (AE × St)} {yld : Nat → List Value → St → Option (AE × St)}

def evDraw3 (E : Env) (call : Nat → FuncId → List Value → St → Option (AE × St)) (yld : Nat → List Value → St → Option (AE × St)) (fl : Nat) (ops : Array Oper) (A : AA) (s : St) : Option (AX × AA × St) :=
  match evDraw E call fl ops A s with
  | some r => some r
  | none =>
    let l := ops.toList
    let ms := masksT l 0 .e
    let k := cutAt ms l.length
    cond (chkMasks ms l 0 && chkG k (l.take k) && Nat.ble l.length 1000000)
      (match evDraw E call fl (l.take k).toArray A s with
       | some (.normal, A1, s1) => evOpsY E (call fl) yld fl ops (l.drop k) A1 s1
       | _ => none)
      none

theorem evDraw3_nx (hup : ∀ fi, CallUp (call fi)) (hyup : YieldUp yld) {ops : Array Oper} {A A' : AA} {s s' : St} {x : AX} (h : evDraw3 E call yld fl ops A s = some (x, A', s')) : s.nx ≤ s'.nx := by
  unfold evDraw3 at h
  split at h
  · rename_i r hr
    simp only [Option.some.injEq] at h
    subst h
    exact evDraw_nx hup hr
  · simp only at h
    rcases cond_some h with ⟨_, h⟩ | ⟨_, h⟩
    · split at h
      · rename_i A1 s1 h1
        exact Nat.le_trans (evDraw_nx hup h1) (evOpsY_nx (hup fl) hyup _ _ _ _ _ _ h)
      · cases h
    · cases h

include hE in
theorem evDraw3_ok {rr : Option Nat} (hmix : P.follows .mixedOrders = true) (hcalls : ∀ fi, fl ≤ fi → CallOK P E fi (call fi)) (hyld : YieldOK P E fl yld) (hup : ∀ fi, CallUp (call fi)) (hyup : YieldUp yld) (h1 : E.G ≤ fl) {ops : Array Oper} (hnd : rr = none ∨ ∀ o ∈ ops.toList, noDefO o = true) {A A' : AA} {s s' : St} {x : AX} {ρ : Ren} {a : Act} {w : World} {id : Nat}
    (h : evDraw3 E call yld fl ops A s = some (x, A', s')) (hrs : RS E.G ρ s.h w) (h2 : fl ≤ s.nx) (hfit : Fit s) (ha : RA ρ A a) (hfree : Free ρ s.nx s'.nx) : (Code.region id ops true).wpIn (FRd rr) 0 P (XPost E.G fl ρ s w x A' s') a w := by
  unfold evDraw3 at h
  split at h
  · rename_i r hr
    simp only [Option.some.injEq] at h
    subst h
    exact wpIn_region_any hmix (wpAny_in xpost_out hnd _ _ _ _ (evDraw_any hE hcalls hup h1 hr hrs h2 hfit ha hfree))
  · simp only at h
    rcases cond_some h with ⟨hb, h⟩ | ⟨_, h⟩
    · simp only [Bool.and_eq_true] at hb
      obtain ⟨⟨hm, hg⟩, _⟩ := hb
      split at h
      · rename_i A1 s1 hd
        have hk : cutAt (masksT ops.toList 0 .e) ops.toList.length ≤ ops.size := by have := cutAt_le (masksT ops.toList 0 .e) ops.toList.length; simpa using this
        generalize hkk : cutAt (masksT ops.toList 0 .e) ops.toList.length = k at *
        have hfull : ∀ j i, k ≤ j → j < ops.size → i < j → ancT (masksT ops.toList 0 .e) j i = true := fun j i a b c => cutAt_full _ ops.toList.length j i (by rw [hkk]; exact a) (by simpa using b) c
        have u2 := evOpsY_nx (hup fl) hyup _ _ _ _ _ _ h
        have hnd' : rr = none ∨ ∀ o ∈ (ops.toList.take k).toArray.toList, noDefO o = true := hnd.imp (fun h => h) fun hh o ho => hh o (List.mem_of_mem_take (by simpa using ho))
        have hany := wpAny_in (r := rr) xpost_out hnd' _ _ _ _ (evDraw_any hE hcalls hup h1 hd hrs h2 hfit ha (hfree.left u2))
        have hpsz : (ops.toList.take k).toArray.size = k := by simp; omega
        rw [hpsz] at hany
        refine wpIn_region_any hmix ?_
        have hfinal := cut_anyY (P := P) (r := rr) (ops := ops) (Q := XPost E.G fl ρ s w x A' s') hm hk hfull hg (Q' := XPost E.G fl ρ s w .normal A1 s1) (fun e a w hne hx => ?_) ?_ (fun a1 w1 hx => ?_) k (Array.replicate k false) a _ (by simp) ?_ ?_ hany
        · have e1 : k + (ops.size - k) = ops.size := by omega
          have e2 : Array.replicate k false ++ Array.replicate (ops.size - k) false = Array.replicate ops.size false := by
            apply Array.ext'
            simp only [Array.toList_append, Array.toList_replicate, List.replicate_append_replicate]
            rw [e1]
          rw [e1, e2] at hfinal
          exact hfinal
        · obtain ⟨_, hx, _⟩ := hx
          cases e with
          | normal => exact (hne rfl).elim
          | exit _ => exact hx.elim
          | goto _ => exact hx.elim
          | ret => exact hx.elim
          | panic _ => exact hx.elim
          | outgrown => exact hx.elim
        · intro hx
          exact (xpost_out hx).elim
        · obtain ⟨ρ1, _, ha1, hrs1, ht⟩ := hx
          have hl : (ops.toList.drop k).length = ops.size - k := by simp
          have := evOpsY_ok hE (hcalls fl (Nat.le_refl _)) hyld (hup fl) hyup h1 hnd (ops.toList.drop k) k A1 s1 x A' s' ρ1 a1 w1 (fun j hj => by rw [List.getElem?_drop, Array.getElem?_toList]) h hrs1 (Nat.le_trans h2 ht.nx) (ht.fit hfit) ha1 (ht.free hfree)
          rw [hl] at this
          exact wpOpsIn_mono (fun e a w hx => hx.trans ht) _ _ _ this
        · unfold left
          refine Nat.le_trans (List.length_filter_le _ _) ?_
          rw [hpsz]
          simp
        · intro j o ho hl
          exfalso
          have : ∀ i, (Array.replicate k false ++ Array.replicate (ops.size - k) false).getD i false = false := fun i => by
            by_cases hi : i < k
            · rw [getD_append_l (by simpa using hi)]
              simp [Array.getD_eq_getD_getElem?, hi]
            · exact getD_append_f (by simpa using (by omega : k ≤ i))
          rw [this j] at hl
          cases hl
      · cases h
    · cases h

end

/-- A block is shut: nothing is known of it any more. -/
theorem shut_block {G fl : Nat} {ρ : Ren} {s : St} {w w' : World} {b r n : Nat} {o₀ : AObj} (hrs : RS G ρ s.h w) (hok : ok b = true) (hfl : fl ≤ b)
    (hb : b < s.nx) (hold : s.h.get b = some o₀) (hr : ρ b = some (r, n)) (hos : w'.os = w.os) (htape : w'.tape = w.tape) (hout : w'.output = w.output) (hsize : w'.heap.size = w.heap.size)
    (hoth : ∀ k, k ≠ r → w'.heap[k]? = w.heap[k]?) :
    RS G ρ (s.put b none).h w' ∧ Tr fl ρ s w ρ (s.put b none) w' := by
  have hget := fun j => St.put_get (s := s) hok none j
  refine ⟨⟨hrs.glob, ?_, ?_⟩, ⟨.refl _, fun _ _ h => .inl h, Nat.le_refl _, hos, htape, hout, by omega, ?_, ?_, ?_, ?_⟩⟩
  · intro i x hx
    rw [hget] at hx
    by_cases e : i = b
    · rw [if_pos e] at hx; cases hx
    · rw [if_neg e] at hx
      obtain ⟨r', m, p, h1, h2, h3⟩ := hrs.obj i x hx
      have hne : r' ≠ r := fun er => e (hrs.inj i b x o₀ r m n hx hold (er ▸ h1) hr)
      exact ⟨r', m, p, h1, by rw [hoth r' hne]; exact h2, h3⟩
  · intro i j x y r a c hi hj hir hjr
    rw [hget] at hi hj
    by_cases e : i = b
    · rw [if_pos e] at hi; cases hi
    · by_cases e' : j = b
      · rw [if_pos e'] at hj; cases hj
      · rw [if_neg e] at hi
        rw [if_neg e'] at hj
        exact hrs.inj i j x y r a c hi hj hir hjr
  · intro k _ hno
    exact hoth k fun e => hno b o₀ n hfl hold (e ▸ hr)
  · intro i x r' m hi hx hir hlt
    rw [hget] at hx
    by_cases e : i = b
    · rw [if_pos e] at hx; cases hx
    · rw [if_neg e] at hx
      exact ⟨i, x, m, hi, hx, hir⟩
  · intro i hi
    rw [hget, if_neg (by omega)]
  · intro i hi
    have : s.nx ≤ i := hi
    rw [hget, if_neg (by omega)]

theorem St.put_nx (s : St) (b : Nat) (o : Option AObj) : (s.put b o).nx = s.nx := rfl

theorem putObj_other (w : World) (r : Nat) (o : Obj) : ∀ k, k ≠ r → (w.putObj r o).heap[k]? = w.heap[k]? := fun _ h => World.putObj_heap_other h

/-- The loops' numbers, and the rounds that they are of. -/
def RdOK (ρ : Ren) (rd r : Option Nat) : Prop :=
  match rd, r with
  | none, none => True
  | some b, some l => ∃ n, ρ b = some (l, n)
  | _, _ => False

theorem RdOK.mono {ρ ρ' : Ren} (hle : Le ρ ρ') {rd r : Option Nat} (h : RdOK ρ rd r) : RdOK ρ' rd r := by
  unfold RdOK at *
  split
  · trivial
  · simp only at h; obtain ⟨n, h⟩ := h; exact ⟨n, hle _ _ h⟩
  · rename_i h1 h2
    split at h
    · exact (h1 rfl rfl).elim
    · exact (h2 _ _ rfl rfl).elim
    · exact h

/-- What a loop is laid with: its block for deferred calls, the mark, the state. -/
def enterA (rd : Option Nat) (s : St) : Option (Nat × List AD × St) :=
  match rd with
  | none => cond (ok s.nx) (some (s.nx, [.coll s.nx], { s.put s.nx (some .marks) with nx := s.nx + 1 })) none
  | some l => match s.h.get l with | some (.loop _ _ _ _ _ _ _ D) => some (D, [], s) | _ => none

def notBusy : LoopState → Bool
  | .busy => false
  | _ => true

theorem enterA_nx {rd : Option Nat} {s s0 : St} {D : Nat} {mk : List AD} (h : enterA rd s = some (D, mk, s0)) : s.nx ≤ s0.nx := by
  unfold enterA at h
  split at h
  · rcases cond_some h with ⟨_, h⟩ | ⟨_, h⟩
    · simp only [Option.some.injEq, Prod.mk.injEq] at h
      rw [← h.2.2]; simp
    · cases h
  · split at h
    · simp only [Option.some.injEq, Prod.mk.injEq] at h
      rw [← h.2.2]; exact Nat.le_refl _
    · cases h

theorem DRs.append {ρ : Ren} {a b : List AD} {a' b' : List Deferred} (h : DRs ρ a a') (k : DRs ρ b b') : DRs ρ (a ++ b) (a' ++ b') := by
  induction h with
  | nil => exact k
  | cons h _ ih => exact .cons h ih

/-- The loop is entered. -/
theorem enterA_ok {P : Program} {G fl : Nat} {ρ : Ren} {rd r : Option Nat} {s s0 : St} {w : World} {D : Nat} {mk : List AD} {A : AA} {a : Act} (h : enterA rd s = some (D, mk, s0)) (hrd : RdOK ρ rd r) (hrs : RS G ρ s.h w) (h1 : G ≤ fl) (h2 : fl ≤ s.nx) (hok : ok s0.nx = true)
    (hfree : Free ρ s.nx (s0.nx + 1)) (ha : RA ρ A a) (fn : FuncId) (ps : Array Tmp) (assign body : Code) :
    ∃ l mark w1 ρ1, (Instr.enterLoop fn a.tmps ps assign body r).run P w = .ok (l, mark) w1 ∧ (∃ n, ρ1 s0.nx = some (l, n)) ∧ DRs ρ1 mk mark ∧
      RS G ρ1 ({ s0.put s0.nx (some (.loop .ready none A.ts A.n ps.toList assign body D)) with nx := s0.nx + 1 } : St).h w1 ∧
      Tr fl ρ s w ρ1 { s0.put s0.nx (some (.loop .ready none A.ts A.n ps.toList assign body D)) with nx := s0.nx + 1 } w1 := by
  unfold enterA at h
  split at h
  · rcases cond_some h with ⟨hok0, h⟩ | ⟨_, h⟩
    · simp only [Option.some.injEq, Prod.mk.injEq] at h
      obtain ⟨rfl, rfl, rfl⟩ := h
      have : r = none := by
        cases r with
        | none => rfl
        | some l => exact hrd.elim
      subst this
      have hfree' : Free ρ s.nx (s.nx + 1 + 1) := hfree
      obtain ⟨n1, t1⟩ := new_block (o := .marks) (o' := .deferred (some [])) (n := 0) hrs (Nat.le_trans h1 h2) h2 hok0 (hfree'.left (by omega)) .marks
      have hfr2 := t1.free hfree'
      obtain ⟨n2, t2⟩ := new_block (fl := fl) (s := { s.put s.nx (some .marks) with nx := s.nx + 1 }) (n := 0) (o := .loop .ready none A.ts A.n ps.toList assign body s.nx)
        (o' := .loop { state := .ready, pending := none, fn, tmps := a.tmps, params := ps, assign, body, defers := w.heap.size }) n1 (by show G ≤ s.nx + 1; omega) (by show fl ≤ s.nx + 1; omega) hok hfr2
        (.loop { state := .ready, pending := none, fn, tmps := a.tmps, params := ps, assign, body, defers := w.heap.size } A.ts A.n s.nx w.heap.size 0 ps.toList rfl ha.size
          (by rw [show (s.nx + 1) = ({ s.put s.nx (some .marks) with nx := s.nx + 1 } : St).nx from rfl]; exact upd_le (hfr2 _ (Nat.le_refl _) (by simp)) _ _ (upd_at _ _ _)) rfl
          (fun t v hv => let ⟨v', k1, k2⟩ := ha.tmp t v hv; ⟨v', k1, (k2.mono t1.le).mono (upd_le (hfr2 _ (Nat.le_refl _) (by simp)))⟩))
      refine ⟨_, _, _, _, run_enterLoop_outer fn a.tmps ps assign body, ⟨0, ?_⟩, .cons (.coll (n := 0) ?_) .nil, n2, t1.trans t2⟩
      · rw [show w.heap.size + 1 = (w.alloc (.deferred (some []))).heap.size by simp]
        exact upd_at _ _ _
      · exact upd_le (hfr2 _ (Nat.le_refl _) (by simp)) _ _ (upd_at _ _ _)
    · cases h
  · rename_i l0
    split at h
    · rename_i D0 hl0
      simp only [Option.some.injEq, Prod.mk.injEq] at h
      obtain ⟨rfl, rfl, rfl⟩ := h
      cases r with
      | none => exact hrd.elim
      | some l =>
        obtain ⟨nl, hl⟩ := hrd
        obtain ⟨r1, n1, o', k1, k2, k3⟩ := hrs.obj _ _ hl0
        rw [hl] at k1
        cases k1
        cases k3 with
        | loop rec ts c D rD nD ps' hps hc hD hrD hts =>
          have hnone : ρ s.nx = none := hfree _ (Nat.le_refl _) (by omega)
          obtain ⟨n2, t2⟩ := new_block (fl := fl) (s := s) (n := 0) (o := .loop .ready none A.ts A.n ps.toList assign body D0)
            (o' := .loop { state := .ready, pending := none, fn, tmps := a.tmps, params := ps, assign, body, defers := rec.defers }) hrs (Nat.le_trans h1 h2) h2 hok hfree
            (.loop { state := .ready, pending := none, fn, tmps := a.tmps, params := ps, assign, body, defers := rec.defers } A.ts A.n D0 rD nD ps.toList rfl ha.size (upd_le hnone _ _ hD) hrD
              (fun t v hv => let ⟨v', k1, k2⟩ := ha.tmp t v hv; ⟨v', k1, k2.mono (upd_le hnone)⟩))
          exact ⟨_, _, _, _, run_enterLoop_inner k2 fn a.tmps ps assign body, ⟨0, upd_at _ _ _⟩, .nil, n2, t2⟩
    · cases h

/-- Yield's values go into the loop's slots. -/
def bindPs : List Nat → List Value → AA → Option AA
  | [], [], A => some A
  | p :: ps, v :: vs, A => match A.put (some p) v with | some A' => bindPs ps vs A' | none => none
  | _, _, _ => none

theorem bindPs_ok {ρ : Ren} : ∀ (ps : List Nat) (vs vs' : List Value) (A A' : AA) (tm : Array Value), bindPs ps vs A = some A' → VRs ρ vs vs' → RA ρ A { tmps := tm, defers := [] } →
    ps.length = vs'.length ∧ RA ρ A' { tmps := (ps.zip vs').foldl (fun t (p, v) => t.setIfInBounds p v) tm, defers := [] }
  | [], [], vs', A, A', tm, h, hv, ha => by
    simp only [bindPs, Option.some.injEq] at h
    subst h
    rw [hv.unnil]
    exact ⟨rfl, ha⟩
  | p :: ps, v :: vs, vs', A, A', tm, h, hv, ha => by
    unfold bindPs at h
    split at h
    · rename_i A1 hput
      obtain ⟨v', m, rfl, k1, k2⟩ := hv.uncons
      have ha1 := put_ok ha k1 hput
      obtain ⟨h1, h2⟩ := bindPs_ok ps vs m A1 A' _ h k2 ha1
      exact ⟨by simp [h1], h2⟩
    · cases h
  | [], _ :: _, _, _, _, _, h, _, _ => by simp [bindPs] at h
  | _ :: _, [], _, _, _, _, h, _, _ => by simp [bindPs] at h

/-- A round's end. -/
def endR (jump : Option Code) (b : Nat) (s : St) : Option (AE × St) :=
  match s.h.get b with
  | some (.loop _ _ ts c ps assign body D) => some (.ret (.bool jump.isNone), s.put b (some (.loop (if jump.isNone then .ready else .done) jump ts c ps assign body D)))
  | _ => none

theorem endR_nx {jump : Option Code} {b : Nat} {s s' : St} {x : AE} (h : endR jump b s = some (x, s')) : s'.nx = s.nx := by
  unfold endR at h
  split at h
  · simp only [Option.some.injEq, Prod.mk.injEq] at h
    rw [← h.2]; rfl
  · cases h

theorem endR_ok {P : Program} {G fl : Nat} {ρ : Ren} {s s' : St} {w : World} {jump : Option Code} {b l n : Nat} {x : AE} (h : endR jump b s = some (x, s')) (hrs : RS G ρ s.h w) (hok : ok b = true) (hfl : fl ≤ b) (hb : b < s.nx) (hl : ρ b = some (l, n)) :
    ∃ v w', (Instr.endRound l jump).run P w = .ok v w' ∧ EPost G fl ρ s w x s' (.returned v) w' := by
  unfold endR at h
  split at h
  · rename_i st pe ts c ps assign body D hget
    simp only [Option.some.injEq, Prod.mk.injEq] at h
    obtain ⟨rfl, rfl⟩ := h
    obtain ⟨r1, n1, o', k1, k2, k3⟩ := hrs.obj _ _ hget
    rw [hl] at k1
    cases k1
    cases k3 with
    | loop rec ts c D rD nD ps hps hc hD hrD hts =>
      have hlt : l < w.heap.size := (Array.getElem?_eq_some_iff.1 k2).1
      obtain ⟨n2, t2⟩ := write_block (w' := w.putObj l (.loop { rec with state := if jump.isNone then .ready else .done, pending := jump })) (o := .loop (if jump.isNone then .ready else .done) jump ts c ps rec.assign rec.body D) hrs hok hfl hb hget hl
        (.loop { rec with state := if jump.isNone then .ready else .done, pending := jump } ts c D rD nD ps hps hc hD hrD hts) rfl rfl rfl World.putObj_size (World.putObj_heap_same hlt) (putObj_other _ _ _)
      exact ⟨_, _, run_endRound jump k2, ρ, .bool _, n2, t2⟩
  · cases h

end Go.Ev
