/- A checked interpreter, more: a closed call that returns a slice of plain values. -/
import Derived.Test.YtfhljcpicdabmaaGreatDoorEvSum
namespace Go.Ev
open Go
section
variable {P : Program} {E : Env} {L : Lib}

/-- What a call comes to that returns a slice: how many elements, and its cells. -/
def sliceOf (r : Option (AE × St)) : Option (Nat × List Value) :=
  match r with
  | some (.ret (.slice (some ⟨b, 0, none⟩) l _), s) =>
    match s.h.get b with
    | some (.cells c _ _ _) => cond (c.all plain1) (some (l, c)) none
    | _ => none
  | _ => none

def sliceB (fl : Nat) (r : Option (AE × St)) : Bool :=
  match r with
  | some (.ret (.slice (some ⟨b, 0, none⟩) _ _), _) => Nat.ble fl b
  | _ => false

theorem run_slice (hE : EnvOK P E) (hL : LibOK P E L) {tabs : List Tab} {n fl nx : Nat} {f : FuncId} {args : List Value} {l : Nat} {c : List Value} (htabs : ∀ t ∈ tabs, t.1 < fl ∧ t.1 < 1000000 ∧ t.2.all plain1 = true) (hG : E.G ≤ fl) (hfl : fl ≤ nx) (hargs : args.all plainV = true)
    (h : ∀ es, sliceOf (evCall E L n fl f args ⟨layT tabs es, nx⟩) = some (l, c) ∧ sliceB fl (evCall E L n fl f args ⟨layT tabs es, nx⟩) = true) {w : World} (hw : TabsIn tabs w) :
    Calls P f args.toArray w fun e w' => ∃ r k, e = .returned (.slice (some ⟨r, 0, none⟩) l k) ∧ w.heap.size ≤ r ∧ (∀ (i : Nat) (u : Value), c[i]? = some u → w'.cell? ⟨r, i, none⟩ = some u) ∧ RowKit.Below w.heap.size w w' := by
  let es : Nat → TypeId := fun g => match w.heap[g]? with | some (.cells _ e _) => e | _ => 0
  obtain ⟨he, hge⟩ := h es
  unfold sliceOf at he
  split at he
  · rename_i b l0 k0 s' hev
    rw [hev] at hge
    have hbl : fl ≤ b := Nat.le_of_ble_eq_true hge
    split at he
    · rename_i c0 e0 op rw' hget
      rcases cond_some he with ⟨hp, he⟩ | ⟨_, he⟩
      · cases he
        have hdeep : ∀ t ∈ tabs, t.1 < 1000000 := fun t ht => (htabs t ht).2.1
        have hrs : RS E.G (renT tabs) (layT tabs es) w := by
          refine ⟨fun i r n _ hi => (renT_some tabs i r n hi).1, fun i o ho => ?_, fun i j o o' r n m _ _ h1 h2 => ?_⟩
          · obtain ⟨t, h1, h2, h3, h4⟩ := layT_get es tabs hdeep i o ho
            obtain ⟨e, fz, hc⟩ := hw t h1
            refine ⟨_, _, _, h4, hc, ?_⟩
            subst h3
            have : es t.1 = e := by simp only [es, hc]
            rw [this]
            refine .cells _ _ e false false fz (by simp) (by simp) (fun _ => by simp) (fun h => by cases h) ?_
            rw [List.take_of_length_le (by simp)]
            exact VRs.of_plain (htabs t h1).2.2
          · exact (renT_some tabs i r n h1).1.symm.trans (renT_some tabs j r m h2).1
        have hfit : Fit ⟨layT tabs es, nx⟩ := fun i hi => by
          rcases hget : (layT tabs es).get i with _ | o
          · rfl
          · obtain ⟨t, h1, h2, _, _⟩ := layT_get es tabs hdeep i o hget
            have := (htabs t h1).1
            have : nx ≤ i := hi
            omega
        have hfree : Free (renT tabs) nx s'.nx := fun i hi _ => by
          rcases hget : renT tabs i with _ | ⟨r, n⟩
          · rfl
          · obtain ⟨_, t, h1, h2⟩ := renT_some tabs i r n hget
            have := (htabs t h1).1
            omega
        have high : ∀ i o, fl ≤ i → (layT tabs es).get i = some o → False := fun i o hi ho => by
          obtain ⟨t, h1, h2, _, _⟩ := layT_get es tabs hdeep i o ho
          have := (htabs t h1).1
          omega
        refine (((ev_ok hE hL n).2.2.1 fl hG f args _ _ s' hev).2 (renT tabs) w args hrs hfl hfit hfree (.of_plainV hargs)).mono fun e w' hx => ?_
        obtain ⟨ρ', hm, hrs', ht⟩ := hx
        cases e with
        | returned v' =>
          have hm' : VR ρ' (.slice (some ⟨b, 0, none⟩) l k0) v' := hm
          obtain ⟨r, m, o', q1, q2, q3⟩ := hrs'.obj b _ hget
          have hbelow : RowKit.Below w.heap.size w w' := ⟨ht.os, ht.tape, ht.output, ht.size, fun k hk => ht.frame k hk fun i o m hi ho _ => high i o hi ho⟩
          have hr : w.heap.size ≤ r := by
            rcases Nat.lt_or_ge r w.heap.size with hlt | hrr
            · obtain ⟨j, o2, m2, j1, j2, _⟩ := ht.own b _ r m hbl hget q1 hlt
              exact (high j o2 j1 j2).elim
            · exact hrr
          have hcells : ∀ (i : Nat) (u : Value), c[i]? = some u → w'.cell? ⟨r, i, none⟩ = some u := fun i u hu => by
            cases q3 with
            | cells c c' e op rw fz hn hl hx hf hvrs =>
              have := VRs.plain1_same hp hvrs
              have hu' : (c'.toList.take c.length)[i]? = some u := by rw [this]; exact hu
              rw [List.getElem?_take] at hu'
              split at hu'
              · unfold World.cell?
                simp only [q2]
                simpa using hu'
              · cases hu'
          cases hm' with
          | slice _ _ _ h' hc =>
            rw [q1] at h'
            cases h'
            exact ⟨r, _, rfl, hr, hcells, hbelow⟩
          | sliceOpen _ _ c1 _ h' hs hc hl =>
            rw [q1] at h'
            cases h'
            exact ⟨r, _, rfl, hr, hcells, hbelow⟩
        | panicked _ => exact hm.elim
        | outgrown => exact hm.elim
      · cases he
    · cases he
  · cases he
end
end Go.Ev
