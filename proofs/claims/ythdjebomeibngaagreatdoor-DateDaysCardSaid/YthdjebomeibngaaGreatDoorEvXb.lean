/- A checked interpreter for closed calls, part 24b: a drawn region whose end is in one order. -/
import Derived.Test.YthdjebomeibngaaGreatDoorEvXa
namespace Go.Ev
open Go Go.MapKept

/-- From which operation on each has all ahead of it for ancestors. -/
def cutAt (ms : T Nat) : Nat → Nat
  | 0 => 0
  | j + 1 => cond (Nat.beq ((ms.get j).getD 0) (2 ^ j - 1)) (cutAt ms j) (j + 1)

def chkG (k : Nat) : List Oper → Bool
  | [] => true
  | o :: r => (match o.guard with | some (j, _) => Nat.ble (j + 1) k | none => true) && chkG k r

def evDraw2 (E : Env) (call : Nat → FuncId → List Value → St → Option (AE × St)) (fl : Nat) (ops : Array Oper) (A : AA) (s : St) : Option (AX × AA × St) :=
  match evDraw E call fl ops A s with
  | some r => some r
  | none =>
    let l := ops.toList
    let ms := masksT l 0 .e
    let k := cutAt ms l.length
    cond (chkMasks ms l 0 && chkG k (l.take k) && Nat.ble l.length 1000000)
      (match evDraw E call fl (l.take k).toArray A s with
       | some (.normal, A1, s1) => evOps E (call fl) fl ops (l.drop k) A1 s1
       | _ => none)
      none

theorem cutAt_le (ms : T Nat) : ∀ n, cutAt ms n ≤ n
  | 0 => Nat.le_refl _
  | j + 1 => by
    unfold cutAt
    cases Nat.beq ((ms.get j).getD 0) (2 ^ j - 1) with
    | true => exact Nat.le_succ_of_le (cutAt_le ms j)
    | false => exact Nat.le_refl _

theorem cutAt_full (ms : T Nat) : ∀ n j i, cutAt ms n ≤ j → j < n → i < j → ancT ms j i = true
  | 0, j, i, _, h, _ => by omega
  | n + 1, j, i, h1, h2, h3 => by
    unfold cutAt at h1
    cases hb : Nat.beq ((ms.get n).getD 0) (2 ^ n - 1) with
    | true =>
      rw [hb, cond_true] at h1
      by_cases e : j = n
      · subst e
        unfold ancT
        rw [tb_eq, Nat.eq_of_beq_eq_true hb, Nat.testBit_two_pow_sub_one]
        simpa using h3
      · exact cutAt_full ms n j i h1 (by omega) h3
    | false => rw [hb, cond_false] at h1; omega

theorem chkG_spec {k : Nat} : ∀ {l : List Oper}, chkG k l = true → ∀ o ∈ l, ∀ j b, o.guard = some (j, b) → j < k
  | [], _, o, ho => by cases ho
  | x :: l, h, o, ho => by
    unfold chkG at h
    rw [Bool.and_eq_true] at h
    rcases List.mem_cons.1 ho with rfl | ho
    · intro j b hg
      have := h.1
      rw [hg] at this
      exact Nat.le_of_ble_eq_true this
    · exact chkG_spec h.2 o ho

section
variable {P : Program} {ops : Array Oper} {Q : Exit → Act → World → Prop}

theorem wpOps_mono {Q' : Exit → Act → World → Prop} (hq : ∀ e a w, Q' e a w → Q e a w) : ∀ (L : List Nat) (a : Act) (w : World), wpOps P ops Q' L a w → wpOps P ops Q L a w
  | [], a, w, h => hq _ _ _ h
  | i :: L, a, w, h => by
    have hlet : LetsOut Q' → LetsOut Q := fun ⟨a, w, h⟩ => ⟨a, w, hq _ _ _ h⟩
    unfold wpOps at h ⊢
    split
    · rename_i hn; simp only [hn] at h; exact wpOps_mono hq L a w h
    · rename_i o ho
      simp only [ho] at h
      split
      · rename_i hw
        rw [if_pos hw] at h
        rcases h with h | ⟨h3, h4⟩
        · left
          unfold Oper.wp at h ⊢
          generalize (execOp a.eval o).run P w = r at h ⊢
          cases r with
          | ok n w1 =>
            cases n <;> simp only [Oper.upon] at h ⊢ <;>
              first
                | exact wpOps_mono hq L _ _ h
                | exact Calls.mono h (fun e w2 he => by cases e <;> first | exact wpOps_mono hq L _ _ he | exact hlet he | exact hq _ _ _ he)
                | exact Rows.mono h (fun _ _ he => wpOps_mono hq L _ _ he)
          | halt z w1 => cases z <;> simp only [Oper.upon] at h ⊢ <;> first | exact h | exact hq _ _ _ h
        · exact .inr ⟨h3, hlet h4⟩
      · rename_i hw
        rw [if_neg hw] at h
        exact wpOps_mono hq L _ _ h

def Closed (ops : Array Oper) (listed : Array Bool) : Prop := ∀ (j : Nat) (o : Oper), ops[j]? = some o → listed.getD j false = true → ∀ e ∈ o.after.toList, Region.binds .any e = true → listed.getD e.on false = true

theorem closed_anc {ms : T Nat} (hm : chkMasks ms ops.toList 0 = true) {listed : Array Bool} (hc : Closed ops listed) : ∀ (j : Nat) (o : Oper), ops[j]? = some o →
    (∀ e ∈ o.after.toList, Region.binds .any e = true → listed.getD e.on false = true) → ∀ i, ancT ms j i = true → listed.getD i false = true := by
  intro j
  induction j using Nat.strongRecOn with
  | _ j ih =>
    intro o ho he i hi
    obtain ⟨⟨m, h1, h2⟩, h3⟩ := chkMasks_spec _ _ hm j o (by simpa using ho)
    rw [Nat.zero_add] at h1 h3
    unfold ancT at hi
    rw [h1, tb_eq, h2] at hi
    simp only [Option.getD_some] at hi
    obtain ⟨e, k1, k2, k3⟩ := (maskT_bit _ _ _).1 hi
    have hl := he e k1 (by rw [bindA_eq]; exact k2)
    rcases k3 with rfl | k3
    · exact hl
    · have hlt := backEdges_spec h3 e k1 k2
      rcases hoe : ops[e.on]? with _ | oe
      · exfalso
        have hj : j < ops.size := by
          rcases Nat.lt_or_ge j ops.size with h' | h'
          · exact h'
          · rw [Array.getElem?_eq_none h'] at ho; cases ho
        rw [Array.getElem?_eq_getElem (by omega)] at hoe
        cases hoe
      · exact ih e.on hlt oe hoe (hc e.on oe hoe hl) i k3

theorem back {ms : T Nat} (hm : chkMasks ms ops.toList 0 = true) {j : Nat} {o : Oper} (ho : ops[j]? = some o) {e : Edge} (he : e ∈ o.after.toList) (hb : Region.binds .any e = true) : e.on < j := by
  obtain ⟨_, h3⟩ := chkMasks_spec _ _ hm j o (by simpa using ho)
  rw [Nat.zero_add] at h3
  rw [bindA_eq] at hb
  exact backEdges_spec h3 e he hb

/-- The end, in its one order. -/
theorem tail_any {ms : T Nat} (hm : chkMasks ms ops.toList 0 = true) {k : Nat} (hfull : ∀ j i, k ≤ j → j < ops.size → i < j → ancT ms j i = true) : ∀ (t j fuel : Nat) (listed : Array Bool) (a : Act) (w : World), j + t = ops.size → k ≤ j → t ≤ fuel → listed.size = ops.size →
    Closed ops listed → (∀ i, i < ops.size → (listed.getD i false = true ↔ i < j)) → wpOps P ops Q (List.range' j t) a w → wpAny P .any ops Q fuel listed a w
  | 0, j, fuel, listed, a, w, hjt, _, _, hsz, _, hl, h => by
    have hno : Region.ready .any ops listed = [] := by
      cases hr : Region.ready .any ops listed with
      | nil => rfl
      | cons i l =>
        have hi : i ∈ Region.ready .any ops listed := by rw [hr]; simp
        obtain ⟨o, ho, hlt, hun, _⟩ := ready_spec hi
        have := getD_tf hun
        rw [(hl i hlt).2 (by omega)] at this
        cases this
    cases fuel with
    | zero => exact ⟨hno, h⟩
    | succ f => exact ⟨fun _ => h, fun i hi => by rw [hno] at hi; cases hi⟩
  | t + 1, j, 0, _, _, _, _, _, hf, _, _, _, _ => by omega
  | t + 1, j, fuel + 1, listed, a, w, hjt, hkj, hf, hsz, hcl, hl, h => by
    have hjs : j < ops.size := by omega
    have ho : ops[j]? = some ops[j] := Array.getElem?_eq_getElem hjs
    have hjun : listed.getD j true = false := by
      have : listed.getD j false = false := by
        cases hb : listed.getD j false with
        | false => rfl
        | true => have := (hl j hjs).1 hb; omega
      have hjl : j < listed.size := by omega
      simp [Array.getD, hjl] at this ⊢
      exact this
    have hready : j ∈ Region.ready .any ops listed := ready_of hjs hjun fun e he hb => (hl _ (by have := back hm ho he hb; omega)).2 (back hm ho he hb)
    have only : ∀ i ∈ Region.ready .any ops listed, i = j := by
      intro i hi
      obtain ⟨o, hoi, hlt, hun, hed⟩ := ready_spec hi
      have hun' := getD_tf hun
      rcases Nat.lt_trichotomy i j with h' | h' | h'
      · rw [(hl i hlt).2 h'] at hun'; cases hun'
      · exact h'
      · have := closed_anc hm hcl i o hoi hed j (hfull i j (by omega) hlt h')
        have := (hl j hjs).1 this
        omega
    refine ⟨(fun hn => by rw [hn] at hready; cases hready), fun i hi => ?_⟩
    have := only i hi
    subst this
    rw [List.range'_succ, wpOps_cons] at h
    refine wpOp_mono (fun a1 w1 h1 => tail_any hm hfull t (i + 1) fuel _ a1 w1 (by omega) (by omega) (by omega) (by simpa using hsz) ?_ (fun x hx => ?_) h1) h
    · intro x ox hox hlx e he hb
      rw [getD_set (by omega)] at hlx ⊢
      split
      · rfl
      · by_cases e2 : x = i
        · subst e2
          rw [ho] at hox
          cases hox
          exact (hl _ (by have := back hm ho he hb; omega)).2 (back hm ho he hb)
        · rw [if_neg e2] at hlx
          exact hcl x ox hox hlx e he hb
    · rw [getD_set (by omega)]
      by_cases e2 : x = i
      · subst e2; simp
      · rw [if_neg e2, hl x hx]; omega

theorem wpOp_change {ops' : Array Oper} {Q' : Exit → Act → World → Prop} {i : Nat} (h1 : ops'[i]? = ops[i]?) (h2 : ∀ o j b, ops[i]? = some o → o.guard = some (j, b) → ops'[j]? = ops[j]?) (hQ : ∀ e a w, e ≠ .normal → Q' e a w → Q e a w)
    {K : Act → World → Prop} {a : Act} {w : World} (h : wpOp P ops' Q' i K a w) (hlet : LetsOut Q' → LetsOut Q) : wpOp P ops Q i K a w := by
  unfold wpOp at h ⊢
  rw [h1] at h
  split
  · rename_i hn; rw [hn] at h; exact h
  · rename_i o ho
    rw [ho] at h
    simp only at h
    have hw : Region.wanted o (yielded ops' a.tmps) = Region.wanted o (yielded ops a.tmps) := by
      unfold Region.wanted
      cases hg : o.guard with
      | none => rfl
      | some jb =>
        obtain ⟨j, b⟩ := jb
        simp only [yielded, h2 o j b ho hg]
    rw [hw] at h
    split
    · rename_i hwt
      rw [if_pos hwt] at h
      rcases h with h | ⟨h3, h4⟩
      · left
        unfold Oper.wp at h ⊢
        generalize (execOp a.eval o).run P w = r at h ⊢
        cases r with
        | ok n w1 =>
          cases n <;> simp only [Oper.upon] at h ⊢ <;> first | exact h | exact Calls.mono h (fun e w2 he => by cases e <;> first | exact he | exact hlet he | exact hQ _ _ _ (fun h => by cases h) he)
        | halt z w1 => cases z <;> simp only [Oper.upon] at h ⊢ <;> first | exact h | exact hQ _ _ _ (fun h => by cases h) h
      · exact .inr ⟨h3, hlet h4⟩
    · rename_i hwt
      rw [if_neg hwt] at h
      exact h


theorem getD_append_l {l m : Array Bool} {i : Nat} (h : i < l.size) (b : Bool) : (l ++ m).getD i b = l.getD i b := by
  simp only [Array.getD_eq_getD_getElem?, Array.getElem?_append_left h]

theorem getD_append_f {l : Array Bool} {t i : Nat} (h : l.size ≤ i) : (l ++ Array.replicate t false).getD i false = false := by
  simp only [Array.getD_eq_getD_getElem?, Array.getElem?_append_right h, Array.getElem?_replicate]
  split <;> rfl

/-- A region is done in two parts, where the first of the second has all of the first for ancestors. -/
theorem cut_any {ms : T Nat} (hm : chkMasks ms ops.toList 0 = true) {k : Nat} (hk : k ≤ ops.size) (hfull : ∀ j i, k ≤ j → j < ops.size → i < j → ancT ms j i = true) (hg : chkG k (ops.toList.take k) = true) {Q' : Exit → Act → World → Prop}
    (hQ : ∀ e a w, e ≠ .normal → Q' e a w → Q e a w) (hlet : LetsOut Q' → LetsOut Q) (hend : ∀ a w, Q' .normal a w → wpOps P ops Q (List.range' k (ops.size - k)) a w) :
    ∀ (m : Nat) (lp : Array Bool) (a : Act) (w : World), lp.size = k → left (ops.toList.take k).toArray lp ≤ m → Closed ops (lp ++ Array.replicate (ops.size - k) false) →
      wpAny P .any (ops.toList.take k).toArray Q' m lp a w → wpAny P .any ops Q (m + (ops.size - k)) (lp ++ Array.replicate (ops.size - k) false) a w := by
  have hat : ∀ i, i < k → (ops.toList.take k).toArray[i]? = ops[i]? := fun i hi => by
    rw [List.getElem?_toArray, List.getElem?_take, if_pos hi, Array.getElem?_toList]
  have hpsz : (ops.toList.take k).toArray.size = k := by simp; omega
  intro m
  induction m with
  | zero =>
    intro lp a w hsz hleft hcl h
    have hall : ∀ i, i < k → lp.getD i false = true := by
      intro i hi
      cases hb : lp.getD i false with
      | true => rfl
      | false =>
        exfalso
        have hun : lp.getD i true = false := by
          have : i < lp.size := by omega
          simp [Array.getD, this] at hb ⊢
          exact hb
        have : 0 < left (ops.toList.take k).toArray lp := by
          unfold left
          refine List.length_pos_of_mem (a := i) (List.mem_filter.2 ⟨?_, by simp [hun]⟩)
          rw [hpsz]
          exact List.mem_range.2 hi
        omega
    refine tail_any hm hfull (ops.size - k) k _ _ a w (by omega) (Nat.le_refl _) (by omega) (by simp [hsz]; omega) hcl (fun i hi => ?_) (hend _ _ h.2)
    by_cases e : i < k
    · rw [getD_append_l (by omega), hall i e]; simp [e]
    · rw [getD_append_f (by omega)]; simp [e]
  | succ m ih =>
    intro lp a w hsz hleft hcl h
    by_cases hall : ∀ i, i < k → lp.getD i false = true
    · have hno : Region.ready .any (ops.toList.take k).toArray lp = [] := by
        cases hr : Region.ready .any (ops.toList.take k).toArray lp with
        | nil => rfl
        | cons i l =>
          have hi : i ∈ Region.ready .any (ops.toList.take k).toArray lp := by rw [hr]; simp
          obtain ⟨o, ho, hlt, hun, _⟩ := ready_spec hi
          have := getD_tf hun
          rw [hall i (by omega)] at this
          cases this
      refine tail_any hm hfull (ops.size - k) k _ _ a w (by omega) (Nat.le_refl _) (by omega) (by simp [hsz]; omega) hcl (fun i hi => ?_) (hend _ _ (h.1 hno))
      by_cases e : i < k
      · rw [getD_append_l (by omega), hall i e]; simp [e]
      · rw [getD_append_f (by omega)]; simp [e]
    · -- the first that is not done is ready
      have hex : ∃ i, i < k ∧ lp.getD i false = false ∧ ∀ j, j < i → lp.getD j false = true := by
        have aux : ∀ n, (∃ i, i < n ∧ lp.getD i false = false) → ∃ i, i < n ∧ lp.getD i false = false ∧ ∀ j, j < i → lp.getD j false = true := by
          intro n
          induction n with
          | zero => rintro ⟨i, h, _⟩; omega
          | succ n ihn =>
            rintro ⟨i, h1, h2⟩
            by_cases h3 : ∃ i, i < n ∧ lp.getD i false = false
            · obtain ⟨i, k1, k2, k3⟩ := ihn h3
              exact ⟨i, by omega, k2, k3⟩
            · have hn : ∀ j, j < n → lp.getD j false = true := fun j hj => by
                cases hb : lp.getD j false with
                | true => rfl
                | false => exact (h3 ⟨j, hj, hb⟩).elim
              have : i = n := by
                rcases Nat.lt_or_ge i n with h' | h'
                · exact (h3 ⟨i, h', h2⟩).elim
                · omega
              subst this
              exact ⟨i, h1, h2, hn⟩
        refine aux k ?_
        rcases Classical.em (∃ i, i < k ∧ lp.getD i false = false) with h' | h'
        · exact h'
        · refine (hall fun i hi => ?_).elim
          cases hb : lp.getD i false with
          | true => rfl
          | false => exact (h' ⟨i, hi, hb⟩).elim
      obtain ⟨i0, hi0, hun0, hbef⟩ := hex
      have hready0 : i0 ∈ Region.ready .any ops (lp ++ Array.replicate (ops.size - k) false) := by
        have hlt : i0 < ops.size := by omega
        refine ready_of hlt ?_ fun e he hb => ?_
        · rw [getD_append_l (by omega)]
          have : i0 < lp.size := by omega
          simp [Array.getD, this] at hun0 ⊢
          exact hun0
        · have := back hm (Array.getElem?_eq_getElem hlt) he hb
          rw [getD_append_l (by omega)]
          exact hbef _ this
      have step : wpAny P .any ops Q ((m + (ops.size - k)) + 1) (lp ++ Array.replicate (ops.size - k) false) a w := by
        refine ⟨(fun hn => by rw [hn] at hready0; cases hready0), fun i hi => ?_⟩
        obtain ⟨o, ho, hlt, hun, hed⟩ := ready_spec hi
        have hik : i < k := by
          rcases Nat.lt_or_ge i k with h' | h'
          · exact h'
          · have := closed_anc hm hcl i o ho hed i0 (hfull i i0 h' hlt (by omega))
            rw [getD_append_l (by omega), hun0] at this
            cases this
        have hi' : i ∈ Region.ready .any (ops.toList.take k).toArray lp := by
          refine ready_of (by omega) ?_ fun e he hb => ?_
          · rw [getD_append_l (by omega)] at hun; exact hun
          · have e2 : (ops.toList.take k).toArray[i]? = some o := by rw [hat i hik]; exact ho
            rw [Array.getElem?_eq_getElem (by omega)] at e2
            have e3 := Option.some.inj e2
            rw [e3] at he
            have hlt2 := back hm ho he hb
            have := hed e he hb
            rw [getD_append_l (by omega)] at this
            exact this
        have h3 := h.2 i hi'
        have hset : (lp ++ Array.replicate (ops.size - k) false).setIfInBounds i true = lp.setIfInBounds i true ++ Array.replicate (ops.size - k) false := by
          apply Array.ext'
          simp only [Array.toList_setIfInBounds, Array.toList_append]
          rw [List.set_append_left _ _ (by simpa using (by omega : i < lp.size))]
        rw [hset]
        have hleft2 := left_lt hi'
        refine wpOp_mono (fun a1 w1 h4 => ih (lp.setIfInBounds i true) a1 w1 (by simpa using hsz) (by omega) ?_ h4) (wpOp_change (hat i hik) (fun o' j b ho' hg' => ?_) hQ h3 hlet)
        · rw [← hset]
          intro x ox hox hlx e he hb
          have hsz2 : i < (lp ++ Array.replicate (ops.size - k) false).size := by simp; omega
          rw [getD_set hsz2] at hlx ⊢
          split
          · rfl
          · by_cases e2 : x = i
            · subst e2
              rw [ho] at hox
              cases hox
              exact hed e he hb
            · rw [if_neg e2] at hlx
              exact hcl x ox hox hlx e he hb
        · have hmem : o' ∈ ops.toList.take k := by
            refine List.mem_of_getElem? (i := i) ?_
            rw [List.getElem?_take, if_pos hik, Array.getElem?_toList]
            exact ho'
          exact hat j (chkG_spec hg o' hmem j b hg')
      have e : m + 1 + (ops.size - k) = (m + (ops.size - k)) + 1 := by omega
      rw [e]
      exact step

end

section
variable {P : Program} {E : Env} (hE : EnvOK P E) {fl : Nat} {call : Nat → FuncId → List Value → St → Option (AE × St)}

theorem evDraw2_nx (hup : ∀ fi, CallUp (call fi)) {ops : Array Oper} {A A' : AA} {s s' : St} {x : AX} (h : evDraw2 E call fl ops A s = some (x, A', s')) : s.nx ≤ s'.nx := by
  unfold evDraw2 at h
  split at h
  · rename_i r hr
    simp only [Option.some.injEq] at h
    subst h
    exact evDraw_nx hup hr
  · simp only at h
    rcases cond_some h with ⟨_, h⟩ | ⟨_, h⟩
    · split at h
      · rename_i A1 s1 h1
        exact Nat.le_trans (evDraw_nx hup h1) (evOps_nx (hup fl) _ _ _ _ _ _ h)
      · cases h
    · cases h

include hE in
theorem evDraw2_ok (hmix : P.follows .mixedOrders = true) (hcalls : ∀ fi, fl ≤ fi → CallOK P E fi (call fi)) (hup : ∀ fi, CallUp (call fi)) (h1 : E.G ≤ fl) {ops : Array Oper} {A A' : AA} {s s' : St} {x : AX} {ρ : Ren} {a : Act} {w : World} {id : Nat}
    (h : evDraw2 E call fl ops A s = some (x, A', s')) (hrs : RS E.G ρ s.h w) (h2 : fl ≤ s.nx) (hfit : Fit s) (ha : RA ρ A a) (hfree : Free ρ s.nx s'.nx) : (Code.region id ops true).wp P (XPost E.G fl ρ s w x A' s') a w := by
  unfold evDraw2 at h
  split at h
  · rename_i r hr
    simp only [Option.some.injEq] at h
    subst h
    exact evDraw_ok hE hmix hcalls hup h1 hr hrs h2 hfit ha hfree
  · simp only at h
    rcases cond_some h with ⟨hb, h⟩ | ⟨_, h⟩
    · simp only [Bool.and_eq_true] at hb
      obtain ⟨⟨hm, hg⟩, _⟩ := hb
      split at h
      · rename_i A1 s1 hd
        have hk : cutAt (masksT ops.toList 0 .e) ops.toList.length ≤ ops.size := by have := cutAt_le (masksT ops.toList 0 .e) ops.toList.length; simpa using this
        generalize hkk : cutAt (masksT ops.toList 0 .e) ops.toList.length = k at *
        have hfull : ∀ j i, k ≤ j → j < ops.size → i < j → ancT (masksT ops.toList 0 .e) j i = true := fun j i a b c => cutAt_full _ ops.toList.length j i (by rw [hkk]; exact a) (by simpa using b) c
        have u2 := evOps_nx (hup fl) _ _ _ _ _ _ h
        have hany := evDraw_any hE hcalls hup h1 hd hrs h2 hfit ha (hfree.left u2)
        have hpsz : (ops.toList.take k).toArray.size = k := by simp; omega
        rw [hpsz] at hany
        refine wp_region_any hmix ?_
        have hfinal := cut_any (P := P) (ops := ops) (Q := XPost E.G fl ρ s w x A' s') hm hk hfull hg (Q' := XPost E.G fl ρ s w .normal A1 s1) (fun e a w hne hx => ?_) ?_ (fun a1 w1 hx => ?_) k (Array.replicate k false) a _ (by simp) ?_ ?_ hany
        · have e1 : k + (ops.size - k) = ops.size := by omega
          have e2 : Array.replicate k false ++ Array.replicate (ops.size - k) false = Array.replicate ops.size false := by
            apply Array.ext'
            simp only [Array.toList_append, Array.toList_replicate, List.replicate_append_replicate]
            rw [e1]
          rw [e1, e2] at hfinal
          exact hfinal
        · obtain ⟨_, hx, _⟩ := hx
          cases e with
          | normal => exact (hne rfl).elim
          | exit _ => exact hx.elim
          | goto _ => exact hx.elim
          | ret => exact hx.elim
          | panic _ => exact hx.elim
          | outgrown => exact hx.elim
        · rintro ⟨_, _, _, hx, _⟩
          exact hx.elim
        · obtain ⟨ρ1, _, ha1, hrs1, ht⟩ := hx
          have hl : (ops.toList.drop k).length = ops.size - k := by simp
          have := evOps_ok hE (hcalls fl (Nat.le_refl _)) (hup fl) h1 (ops := ops) (ops.toList.drop k) k A1 s1 x A' s' ρ1 a1 w1 (fun j hj => by rw [List.getElem?_drop, Array.getElem?_toList]) h hrs1 (Nat.le_trans h2 ht.nx) (ht.fit hfit) ha1 (ht.free hfree)
          rw [hl] at this
          exact wpOps_mono (fun e a w hx => hx.trans ht) _ _ _ this
        · unfold left
          refine Nat.le_trans (List.length_filter_le _ _) ?_
          rw [hpsz]
          simp
        · intro j o ho hl
          exfalso
          have : ∀ i, (Array.replicate k false ++ Array.replicate (ops.size - k) false).getD i false = false := fun i => by
            by_cases hi : i < k
            · rw [getD_append_l (by simpa using hi)]
              simp [Array.getD_eq_getD_getElem?, hi]
            · exact getD_append_f (by simpa using (by omega : k ≤ i))
          rw [this j] at hl
          cases hl
      · cases h
    · cases h

end
end Go.Ev
