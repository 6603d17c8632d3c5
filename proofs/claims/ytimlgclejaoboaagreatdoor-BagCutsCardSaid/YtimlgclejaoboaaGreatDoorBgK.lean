/- Keys of a map that are records: collected in whatever order, each once; no program. -/
import Derived.Test.YtimlgclejaoboaaGreatDoorBgM
import Derived.Sort.KeysCollected
import Derived.Maps.OwnSet
namespace Go.RecM
open Go Go.RowKit Go.Proofs Go.Maps

section
variable {H : Type} {P : Program} {k : TypeId}

/-- No key twice; a key is on the list just where the map has it and it is no longer to come. -/
def CollectedR (P : Program) (k : TypeId) (D0 : DataW H) (left : Lit → Bool) (ss : List R3) : Prop :=
  ss.Nodup ∧ (∀ x ∈ ss, ∃ kl, keyOf P k (aggR x) = some kl) ∧ ∀ x kl, keyOf P k (aggR x) = some kl → (x ∈ ss ↔ (has D0 kl = true ∧ left kl = false))

theorem CollectedR.start (D0 : DataW H) : CollectedR P k D0 (has D0) [] :=
  ⟨List.nodup_nil, (fun x hx => by cases hx), fun x kl _ => by cases has D0 kl <;> simp⟩

theorem CollectedR.step (K : Keyed P k) {D0 : DataW H} {left : Lit → Bool} {ss : List R3} (h : CollectedR P k D0 left ss) {x : R3} {kl : Lit} {y : DataW H} (hkey : keyOf P k (aggR x) = some kl) (hlk : left kl = true) (hat : ∀ zd, D0.atKey kl zd = y) :
    CollectedR P k D0 (fun z => left z && !z.sameKey kl) (ss ++ [x]) := by
  have hhas : has D0 kl = true := has_true_of_atKey hat
  have hnew : x ∉ ss := fun hx => by have := ((h.2.2 x kl hkey).1 hx).2; rw [hlk] at this; cases this
  refine ⟨List.nodup_append.2 ⟨h.1, by simp, fun a ha b hb => by simp at hb; subst hb; exact fun e => hnew (e ▸ ha)⟩, fun z hz => ?_, fun z kz hz => ?_⟩
  · rcases List.mem_append.1 hz with hz | hz
    · exact h.2.1 z hz
    · rw [List.mem_singleton] at hz; subst hz; exact ⟨kl, hkey⟩
  · by_cases hy : z = x
    · subst hy
      rw [hkey] at hz
      cases hz
      simp [hhas, WideAt.sameKey_self (K.key hkey)]
    · have hne : kz ≠ kl := fun e => hy (aggR_inj (K.inj hz (e ▸ hkey)))
      have hs : kz.sameKey kl = false := by
        cases hb : kz.sameKey kl with
        | false => rfl
        | true => exact absurd (WideAt.sameKey_eq hb) hne
      rw [List.mem_append, List.mem_singleton, h.2.2 z kz hz]
      simp [hy, hs]

/-- The keys of a map, in order. -/
def KeysAre (P : Program) (k : TypeId) (D0 : DataW H) (ss : List R3) : Prop :=
  ss.Pairwise rLt ∧ (∀ x ∈ ss, ∃ kl, keyOf P k (aggR x) = some kl) ∧ ∀ x kl, keyOf P k (aggR x) = some kl → (x ∈ ss ↔ has D0 kl = true)

theorem KeysAre.of_sorted {D0 : DataW H} {left : Lit → Bool} {ss ts : List R3} (h : CollectedR P k D0 left ss) (hl : ∀ kl, left kl = false) (hp : ts.Perm ss) (hs : ts.Pairwise fun x y => ¬ rLt y x) : KeysAre P k D0 ts := by
  refine ⟨?_, fun x hx => h.2.1 x (hp.mem_iff.1 hx), fun x kl hk => ?_⟩
  · have hnd : ts.Nodup := hp.nodup_iff.2 h.1
    refine (hs.and hnd).imp fun {a b} hab => ?_
    by_cases hlt : rLt a b
    · exact hlt
    · exact absurd (rLt_total hlt hab.1) hab.2
  · rw [hp.mem_iff, h.2.2 x kl hk, hl]; simp

theorem pairwise_lt_unique : ∀ {l m : List R3}, l.Pairwise rLt → m.Pairwise rLt → (∀ x, x ∈ l ↔ x ∈ m) → l = m
  | [], [], _, _, _ => rfl
  | [], b :: m, _, _, h => by have := (h b).2 (List.mem_cons_self ..); cases this
  | a :: l, [], _, _, h => by have := (h a).1 (List.mem_cons_self ..); cases this
  | a :: l, b :: m, hl, hm, h => by
    obtain ⟨l1, l2⟩ := List.pairwise_cons.1 hl
    obtain ⟨m1, m2⟩ := List.pairwise_cons.1 hm
    have irr : ∀ x, ¬ rLt x x := fun x hx => by unfold rLt at hx; omega
    have asym : ∀ x y, rLt x y → ¬ rLt y x := fun x y h1 h2 => by unfold rLt at h1 h2; omega
    have e : a = b := by
      rcases List.mem_cons.1 ((h a).1 (List.mem_cons_self ..)) with e | ha
      · exact e
      · rcases List.mem_cons.1 ((h b).2 (List.mem_cons_self ..)) with e | hb
        · exact e.symm
        · exact absurd (l1 b hb) (asym _ _ (m1 a ha))
    subst e
    have := pairwise_lt_unique l2 m2 fun x => by
      have hx := h x
      rw [List.mem_cons, List.mem_cons] at hx
      constructor
      · intro hxl
        rcases hx.1 (.inr hxl) with rfl | h'
        · exact absurd (l1 _ hxl) (irr _)
        · exact h'
      · intro hxm
        rcases hx.2 (.inr hxm) with rfl | h'
        · exact absurd (m1 _ hxm) (irr _)
        · exact h'
    rw [this]

theorem KeysAre.unique {D0 : DataW H} {ss ts : List R3} (h : KeysAre P k D0 ss) (h' : KeysAre P k D0 ts) : ss = ts :=
  pairwise_lt_unique h.1 h'.1 fun x => by
    constructor
    · intro hx
      obtain ⟨kl, hk⟩ := h.2.1 x hx
      exact (h'.2.2 x kl hk).2 ((h.2.2 x kl hk).1 hx)
    · intro hx
      obtain ⟨kl, hk⟩ := h'.2.1 x hx
      exact (h.2.2 x kl hk).2 ((h'.2.2 x kl hk).1 hx)

end
end Go.RecM
