/- A checked interpreter for closed calls, part 28: from the interpreter's answer to the call's contract; calls that are known by themselves. -/
import Derived.Test.YthdjebomeibngaaGreatDoorEvLib
namespace Go.Ev
open Go

/-- A package-level variable that holds integers: its number, their kind, they. -/
abbrev Tab := Nat × IntKind × List Int

def TabsIn (tabs : List Tab) (w : World) : Prop := ∀ t ∈ tabs, ∃ e fz, w.heap[t.1]? = some (.cells (t.2.2.map fun z => Value.int t.2.1 z).toArray e fz)

theorem TabsIn.below {tabs : List Tab} {w w' : World} {B : Nat} (h : TabsIn tabs w) (hb : RowKit.Below B w w') (hB : ∀ t ∈ tabs, t.1 < B) : TabsIn tabs w' := fun t ht => by
  obtain ⟨e, fz, k⟩ := h t ht
  exact ⟨e, fz, (hb.block _ (hB t ht)).trans k⟩

def layT : List Tab → (Nat → TypeId) → T AObj
  | [], _ => .e
  | t :: r, es => (layT r es).set deep t.1 (some (.cells (t.2.2.map fun z => Value.int t.2.1 z) (es t.1) false false))

def renT : List Tab → Ren
  | [], _ => none
  | t :: r, i => if i = t.1 then some (t.1, t.2.2.length) else renT r i

theorem layT_get (es : Nat → TypeId) : ∀ (tabs : List Tab), (∀ t ∈ tabs, t.1 < 1000000) → ∀ (i : Nat) (o : AObj), (layT tabs es).get i = some o → ∃ t ∈ tabs, i = t.1 ∧ o = .cells (t.2.2.map fun z => Value.int t.2.1 z) (es t.1) false false ∧ renT tabs i = some (t.1, t.2.2.length)
  | [], _, i, o, h => by simp [layT, T.get] at h
  | t :: r, hd, i, o, h => by
    unfold layT at h
    rw [T.get_set _ _ _ _ _ (by have := hd t (List.mem_cons_self ..); simp only [deep]; omega)] at h
    by_cases e : i = t.1
    · rw [if_pos e] at h
      cases h
      exact ⟨t, List.mem_cons_self .., e, rfl, by unfold renT; rw [if_pos e]⟩
    · rw [if_neg e] at h
      obtain ⟨t', h1, h2, h3, h4⟩ := layT_get es r (fun t' ht' => hd t' (List.mem_cons_of_mem _ ht')) i o h
      exact ⟨t', List.mem_cons_of_mem _ h1, h2, h3, by unfold renT; rw [if_neg e]; exact h4⟩

theorem renT_some : ∀ (tabs : List Tab) (i : Nat) (r n : Nat), renT tabs i = some (r, n) → r = i ∧ ∃ t ∈ tabs, i = t.1
  | [], i, r, n, h => by simp [renT] at h
  | t :: l, i, r, n, h => by
    unfold renT at h
    by_cases e : i = t.1
    · rw [if_pos e] at h
      cases h
      exact ⟨e.symm, t, List.mem_cons_self .., e⟩
    · rw [if_neg e] at h
      obtain ⟨h1, t', h2, h3⟩ := renT_some l i r n h
      exact ⟨h1, t', List.mem_cons_of_mem _ h2, h3⟩

/-- Where a call's answer is a plain value. -/
def plainOf (r : Option (AE × St)) : Option Value :=
  match r with
  | some (.ret v, _) => cond (plainV v) (some v) none
  | _ => none

theorem VR.plain1_same {ρ : Ren} {v v' : Value} (h : plain1 v = true) (k : VR ρ v v') : v' = v := by
  cases k with
  | func fn f f' c c' hfn hf hc h1 h2 =>
    simp only [plain1, Bool.and_eq_true, Array.isEmpty_iff] at h
    obtain ⟨⟨_, rfl⟩, rfl⟩ := h
    have e1 : f' = #[] := by simpa using hf.symm
    have e2 : c' = #[] := by simpa using hc.symm
    rw [e1, e2]
  | yield _ => simp [plain1, fnPlain] at h
  | _ => first | rfl | simp [plain1] at h

theorem VRs.plain1_same {ρ : Ren} : ∀ {l l' : List Value}, l.all plain1 = true → VRs ρ l l' → l' = l
  | [], l', _, k => k.unnil
  | v :: l, l', h, k => by
    simp only [List.all_cons, Bool.and_eq_true] at h
    obtain ⟨v', m, rfl, h1, h2⟩ := k.uncons
    rw [h1.plain1_same h.1, VRs.plain1_same h.2 h2]

theorem VR.plain_same {ρ : Ren} {v v' : Value} (h : plainV v = true) (k : VR ρ v v') : v' = v := by
  cases v with
  | agg c =>
    obtain ⟨c', rfl, k'⟩ := k.agg_inv
    have := VRs.plain1_same h k'
    rw [Array.ext' this]
  | tuple c =>
    obtain ⟨c', rfl, k'⟩ := k.tuple_inv
    have := VRs.plain1_same h k'
    rw [Array.ext' this]
  | iface t u =>
    cases k with
    | iface _ k' => rw [k'.plain1_same h]
  | _ => exact k.plain1_same h

theorem VRs.plain_same {ρ : Ren} : ∀ {l l' : List Value}, l.all plainV = true → VRs ρ l l' → l' = l
  | [], l', _, k => k.unnil
  | v :: l, l', h, k => by
    simp only [List.all_cons, Bool.and_eq_true] at h
    obtain ⟨v', m, rfl, h1, h2⟩ := k.uncons
    rw [h1.plain_same h.1, VRs.plain_same h.2 h2]

theorem VRs.of_plainV {ρ : Ren} : ∀ {l : List Value}, l.all plainV = true → VRs ρ l l
  | [], _ => .nil ρ
  | v :: l, h => by
    simp only [List.all_cons, Bool.and_eq_true] at h
    exact .cons (.of_plain h.1) (.of_plainV h.2)

section
variable {P : Program} {E : Env} {L : Lib}

/-- THE RUN: what the interpreter answers where the variables hold what they hold is what the call returns, in every world where they do. -/
theorem run_ok (hE : EnvOK P E) (hL : LibOK P E L) {tabs : List Tab} {n fl nx : Nat} {f : FuncId} {args : List Value} {v : Value} (htabs : ∀ t ∈ tabs, t.1 < fl ∧ t.1 < 1000000) (hG : E.G ≤ fl) (hfl : fl ≤ nx) (hargs : args.all plainV = true)
    (h : ∀ es, plainOf (evCall E L n fl f args ⟨layT tabs es, nx⟩) = some v) {w : World} (hw : TabsIn tabs w) :
    Calls P f args.toArray w fun e w' => e = .returned v ∧ RowKit.Below w.heap.size w w' := by
  let es : Nat → TypeId := fun g => match w.heap[g]? with | some (.cells _ e _) => e | _ => 0
  have he := h es
  unfold plainOf at he
  split at he
  · rename_i v0 s' hev
    rcases cond_some he with ⟨hp, he⟩ | ⟨_, he⟩
    · cases he
      have hdeep : ∀ t ∈ tabs, t.1 < 1000000 := fun t ht => (htabs t ht).2
      have hrs : RS E.G (renT tabs) (layT tabs es) w := by
        refine ⟨fun i r n _ hi => (renT_some tabs i r n hi).1, fun i o ho => ?_, fun i j o o' r n m _ _ h1 h2 => ?_⟩
        · obtain ⟨t, h1, h2, h3, h4⟩ := layT_get es tabs hdeep i o ho
          obtain ⟨e, fz, hc⟩ := hw t h1
          refine ⟨_, _, _, h4, hc, ?_⟩
          subst h3
          have : es t.1 = e := by simp only [es, hc]
          rw [this]
          refine .cells _ _ e false false fz (by simp) (by simp) (fun _ => by simp) (fun h => by cases h) ?_
          rw [List.take_of_length_le (by simp)]
          exact VRs.of_plain (by simp [plain1])
        · exact (renT_some tabs i r n h1).1.symm.trans (renT_some tabs j r m h2).1
      have hfit : Fit ⟨layT tabs es, nx⟩ := fun i hi => by
        rcases hget : (layT tabs es).get i with _ | o
        · rfl
        · obtain ⟨t, h1, h2, _, _⟩ := layT_get es tabs hdeep i o hget
          have := (htabs t h1).1
          have : nx ≤ i := hi
          omega
      have hfree : Free (renT tabs) nx s'.nx := fun i hi _ => by
        rcases hget : renT tabs i with _ | ⟨r, n⟩
        · rfl
        · obtain ⟨_, t, h1, h2⟩ := renT_some tabs i r n hget
          have := (htabs t h1).1
          omega
      refine (((ev_ok hE hL n).2.2.1 fl hG f args _ _ s' hev).2 (renT tabs) w args hrs hfl hfit hfree (.of_plainV hargs)).mono fun e w' hx => ?_
      obtain ⟨ρ', hm, _, ht⟩ := hx
      cases e with
      | returned v' =>
        have hm' : VR ρ' v v' := hm
        refine ⟨by rw [hm'.plain_same hp], ht.os, ht.tape, ht.output, ht.size, fun k hk => ht.frame k hk fun i o m hi ho _ => ?_⟩
        obtain ⟨t, h1, h2, _, _⟩ := layT_get es tabs hdeep i o ho
        have := (htabs t h1).1
        omega
      | panicked _ => exact hm.elim
      | outgrown => exact hm.elim
    · cases he
  · cases he

/-! Calls that are known by themselves. -/

def same1 : Value → Value → Bool
  | .bool a, .bool b => a == b
  | .int k a, .int k' b => isKind k k' && a == b
  | .string a, .string b => a.data.toList == b.data.toList
  | _, _ => false

theorem same1_eq {a b : Value} (h : same1 a b = true) : a = b := by
  unfold same1 at h
  split at h
  · rw [eq_of_beq h]
  · rw [Bool.and_eq_true] at h
    rw [isKind_eq h.1, eq_of_beq h.2]
  · rename_i x y
    have := eq_of_beq h
    have : x.data = y.data := Array.ext' this
    cases x; cases y
    simp only at this
    rw [this]
  · cases h

def sames : List Value → List Value → Bool
  | [], [] => true
  | a :: l, b :: m => same1 a b && sames l m
  | _, _ => false

theorem sames_eq : ∀ {l m : List Value}, sames l m = true → l = m
  | [], [], _ => rfl
  | [], _ :: _, h => by simp [sames] at h
  | _ :: _, [], h => by simp [sames] at h
  | a :: l, b :: m, h => by
    simp only [sames, Bool.and_eq_true] at h
    rw [same1_eq h.1, sames_eq h.2]

def sameV : Value → Value → Bool
  | .agg a, .agg b => sames a.toList b.toList
  | a, b => same1 a b

theorem sameV_eq {a b : Value} (h : sameV a b = true) : a = b := by
  unfold sameV at h
  split at h
  · rw [Array.ext' (sames_eq h)]
  · exact same1_eq h

def sameVs : List Value → List Value → Bool
  | [], [] => true
  | a :: l, b :: m => sameV a b && sameVs l m
  | _, _ => false

theorem sameVs_eq : ∀ {l m : List Value}, sameVs l m = true → l = m
  | [], [], _ => rfl
  | [], _ :: _, h => by simp [sameVs] at h
  | _ :: _, [], h => by simp [sameVs] at h
  | a :: l, b :: m, h => by
    simp only [sameVs, Bool.and_eq_true] at h
    rw [sameV_eq h.1, sameVs_eq h.2]

/-- The answer is this one. -/
def answers (r : Option (AE × St)) (v : Value) : Bool :=
  match plainOf r with
  | some v' => sameV v' v
  | none => false

theorem answers_eq {r : Option (AE × St)} {v : Value} (h : answers r v = true) : plainOf r = some v := by
  unfold answers at h
  split at h
  · rename_i v' hv
    rw [hv, sameV_eq h]
  · cases h

def tabsB (h : T AObj) : List Tab → Bool
  | [] => true
  | t :: r => (match h.get t.1 with | some (.cells c _ false _) => isInts t.2.1 c t.2.2 | _ => false) && tabsB h r

theorem tabsB_ok {G : Nat} {ρ : Ren} {h : T AObj} {w : World} (hrs : RS G ρ h w) : ∀ (tabs : List Tab), (∀ t ∈ tabs, t.1 < G) → tabsB h tabs = true → TabsIn tabs w
  | [], _, _ => fun t ht => by cases ht
  | t :: r, hG, hb => by
    unfold tabsB at hb
    rw [Bool.and_eq_true] at hb
    intro t' ht'
    rcases List.mem_cons.1 ht' with rfl | ht'
    · have h1 := hb.1
      split at h1
      · rename_i c e rw hget
        have hc := isInts_eq _ _ h1
        obtain ⟨r0, n0, o', k1, k2, k3⟩ := hrs.obj _ _ hget
        have : r0 = t'.1 := hrs.glob _ r0 n0 (hG _ (List.mem_cons_self ..)) k1
        subst this
        cases k3 with
        | cells c c' e op rw fz hn hl hx hf hvrs =>
          have hlen := hx rfl
          rw [hlen, ← hn, List.take_of_length_le (by simp), hc] at hvrs
          have := VRs.ints hvrs
          refine ⟨e, fz, ?_⟩
          rw [k2, ← this]
      · cases h1
    · exact tabsB_ok hrs r (fun t ht => hG t (List.mem_cons_of_mem _ ht)) hb.2 t' ht'

def look (f : FuncId) (args : List Value) : List (FuncId × List Value × Value) → Option Value
  | [] => none
  | c :: r => cond (Nat.beq f c.1) (cond (sameVs args c.2.1) (some c.2.2) (look f args r)) (look f args r)

theorem look_mem {f : FuncId} {args : List Value} {v : Value} : ∀ {cs : List (FuncId × List Value × Value)}, look f args cs = some v → (f, args, v) ∈ cs
  | [], h => by simp [look] at h
  | c :: r, h => by
    unfold look at h
    rcases cond_some h with ⟨h1, h⟩ | ⟨_, h⟩
    · rcases cond_some h with ⟨h2, h⟩ | ⟨_, h⟩
      · simp only [Option.some.injEq] at h
        have e : (f, args, v) = c := by rw [Nat.eq_of_beq_eq_true h1, sameVs_eq h2, ← h]
        rw [e]
        exact List.mem_cons_self ..
      · exact List.mem_cons_of_mem _ (look_mem h)
    · exact List.mem_cons_of_mem _ (look_mem h)

def libC (L : Lib) (tabs : List Tab) (cs : List (FuncId × List Value × Value)) : Lib where
  ext f args h := match look f args cs with
    | some v => cond (tabsB h tabs) (some v) (L.ext f args h)
    | none => L.ext f args h

theorem libC_ok (hL : LibOK P E L) {tabs : List Tab} {cs : List (FuncId × List Value × Value)} (htabs : ∀ t ∈ tabs, t.1 < E.G)
    (hcs : ∀ f args v, (f, args, v) ∈ cs → plainV v = true ∧ args.all plainV = true ∧ (∃ fn, FnOK P f fn) ∧ ∀ w, TabsIn tabs w → Calls P f args.toArray w fun e w' => e = .returned v ∧ RowKit.Below w.heap.size w w') :
    LibOK P E (libC L tabs cs) := by
  intro f args h v hv
  unfold libC at hv
  simp only at hv
  split at hv
  · rename_i u hu
    rcases cond_some hv with ⟨hb, hv⟩ | ⟨_, hv⟩
    · cases hv
      obtain ⟨k1, k2, k3, k4⟩ := hcs f args v (look_mem hu)
      exact ⟨k1, k3, fun ρ w args' hrs hargs => by
        rw [VRs.plain_same k2 hargs]
        exact k4 w (tabsB_ok hrs tabs htabs hb)⟩
    · exact hL f args h v hv
  · exact hL f args h v hv

/-- A function that is known at all arguments that are of a form. -/
def libF (L : Lib) (f : FuncId) (g : List Value → Option Value) : Lib where
  ext f' args h := cond (Nat.beq f' f) (match g args with | some v => some v | none => L.ext f' args h) (L.ext f' args h)

theorem libF_ok (hL : LibOK P E L) {f : FuncId} {g : List Value → Option Value} (hfn : ∃ fn, FnOK P f fn)
    (hg : ∀ args v, g args = some v → plainV v = true ∧ args.all plainV = true ∧ ∀ w, Calls P f args.toArray w fun e w' => e = .returned v ∧ RowKit.Below w.heap.size w w') : LibOK P E (libF L f g) := by
  intro f' args h v hv
  have hv' : cond (Nat.beq f' f) (match g args with | some v => some v | none => L.ext f' args h) (L.ext f' args h) = some v := hv
  rcases hb : Nat.beq f' f with _ | _
  · rw [hb, cond_false] at hv'
    exact hL f' args h v hv'
  · rw [hb, cond_true] at hv'
    have := Nat.eq_of_beq_eq_true hb
    subst this
    split at hv'
    · rename_i u hu
      cases hv'
      obtain ⟨k1, k2, k3⟩ := hg args v hu
      exact ⟨k1, hfn, fun ρ w args' hrs hargs => by
        rw [VRs.plain_same k2 hargs]
        exact k3 w⟩
    · exact hL f' args h v hv'

end
end Go.Ev
#print axioms Go.Ev.run_ok
#print axioms Go.Ev.libC_ok
