/- A checked interpreter for closed calls, part 2: new blocks and writes. -/
import Derived.Test.YthdjebomeibngaaGreatDoorEvA
namespace Go.Ev
open Go

def upd (ρ : Ren) (i : Nat) (x : Nat × Nat) : Ren := fun j => if j = i then some x else ρ j

theorem upd_le {ρ : Ren} {i : Nat} {x : Nat × Nat} (h : ρ i = none) : Le ρ (upd ρ i x) := fun j y hy => by
  unfold upd
  split
  · rename_i e; subst e; rw [h] at hy; cases hy
  · exact hy

theorem upd_at (ρ : Ren) (i : Nat) (x : Nat × Nat) : upd ρ i x i = some x := by simp [upd]

/-- The depth of the tree of blocks. -/
def deep : Nat := 62

def St.put (s : St) (i : Nat) (o : Option AObj) : St := { s with h := s.h.set deep i o }

def ok (i : Nat) : Bool := Nat.ble i 1000000000000

theorem St.put_get {s : St} {i : Nat} (hi : ok i = true) (o : Option AObj) (j : Nat) : (s.put i o).h.get j = if j = i then o else s.h.get j := by
  refine T.get_set _ _ _ _ _ ?_
  have : i ≤ 1000000000000 := Nat.le_of_ble_eq_true hi
  simp only [deep]
  omega

/-- A new block. -/
theorem new_block {G fl : Nat} {ρ : Ren} {s : St} {w : World} {o : AObj} {o' : Obj} {n : Nat} (hrs : RS G ρ s.h w) (hG : G ≤ s.nx) (hfl : fl ≤ s.nx) (hok : ok s.nx = true)
    (hfree : Free ρ s.nx (s.nx + 1)) (ho : OR (upd ρ s.nx (w.heap.size, n)) n o o') :
    RS G (upd ρ s.nx (w.heap.size, n)) ({ s.put s.nx (some o) with nx := s.nx + 1 } : St).h (w.alloc o') ∧
    Tr fl ρ s w (upd ρ s.nx (w.heap.size, n)) { s.put s.nx (some o) with nx := s.nx + 1 } (w.alloc o') := by
  have hnone : ρ s.nx = none := hfree s.nx (Nat.le_refl _) (by omega)
  have hle : Le ρ (upd ρ s.nx (w.heap.size, n)) := upd_le hnone
  have hget : ∀ j, ({ s.put s.nx (some o) with nx := s.nx + 1 } : St).h.get j = if j = s.nx then some o else s.h.get j := fun j => St.put_get hok _ j
  have hlt : ∀ i x, s.h.get i = some x → i ≠ s.nx := fun i x hx e => by
    obtain ⟨r, m, o', h1, _⟩ := hrs.obj i x hx
    rw [e, hnone] at h1; cases h1
  have hat : ∀ k, k < w.heap.size → (w.alloc o').heap[k]? = w.heap[k]? := fun k hk => RowKit.Below.heap_alloc w o' k hk
  have hnew : (w.alloc o').heap[w.heap.size]? = some o' := by show (w.heap.push o')[w.heap.size]? = _; simp
  have hin : ∀ r x, w.heap[r]? = some x → r < w.heap.size := fun r x hx => by
    rcases Nat.lt_or_ge r w.heap.size with h | h
    · exact h
    · simp [Array.getElem?_eq_none h] at hx
  refine ⟨⟨?_, ?_, ?_⟩, ⟨hle, ?_, by simp, rfl, rfl, rfl, ?_, ?_, ?_, ?_, ?_⟩⟩
  · intro i r m hi hr
    by_cases e : i = s.nx
    · omega
    · simp only [upd, e, if_false] at hr; exact hrs.glob i r m hi hr
  · intro i x hx
    rw [hget] at hx
    by_cases e : i = s.nx
    · subst e
      simp at hx
      subst hx
      exact ⟨_, _, o', upd_at _ _ _, hnew, ho⟩
    · simp only [e, if_false] at hx
      obtain ⟨r, m, p, h1, h2, h3⟩ := hrs.obj i x hx
      exact ⟨r, m, p, hle _ _ h1, by rw [hat r (hin r p h2)]; exact h2, h3.mono hle⟩
  · intro i j x y r a b hi hj hir hjr
    rw [hget] at hi hj
    by_cases ei : i = s.nx
    · by_cases ej : j = s.nx
      · omega
      · simp only [ej, if_false] at hj
        obtain ⟨r', m, p, h1, h2, h3⟩ := hrs.obj j y hj
        simp only [upd, ei, ej, if_true, if_false] at hir hjr
        have hb := hin r' p h2
        rw [h1] at hjr
        cases hir; cases hjr; omega
    · simp only [ei, if_false] at hi
      by_cases ej : j = s.nx
      · obtain ⟨r', m, p, h1, h2, h3⟩ := hrs.obj i x hi
        simp only [upd, ei, ej, if_true, if_false] at hir hjr
        have hb := hin r' p h2
        rw [h1] at hir
        cases hir; cases hjr; omega
      · simp only [ej, if_false] at hj
        simp only [upd, ei, ej, if_false] at hir hjr
        exact hrs.inj i j x y r a b hi hj hir hjr
  · intro i x hx
    by_cases e : i = s.nx
    · right; subst e; exact ⟨Nat.le_refl _, by simp⟩
    · simp only [upd, e, if_false] at hx; exact .inl hx
  · simp
  · exact fun r hr _ => hat r hr
  · intro i x r m hi hx hr hlt'
    rw [hget] at hx
    by_cases e : i = s.nx
    · subst e
      rw [upd_at] at hr
      cases hr; omega
    · simp only [e, if_false] at hx
      simp only [upd, e, if_false] at hr
      exact ⟨i, x, m, hi, hx, hr⟩
  · intro i hi
    rw [hget, if_neg (by omega)]
  · intro i hi
    have : s.nx + 1 ≤ i := hi
    rw [hget, if_neg (by omega)]

/-- A block is written. -/
theorem write_block {G fl : Nat} {ρ : Ren} {s : St} {w w' : World} {b r n : Nat} {o₀ o : AObj} {o' : Obj} (hrs : RS G ρ s.h w) (hok : ok b = true) (hfl : fl ≤ b)
    (hb : b < s.nx) (hold : s.h.get b = some o₀) (hr : ρ b = some (r, n)) (ho : OR ρ n o o') (hos : w'.os = w.os) (htape : w'.tape = w.tape) (hout : w'.output = w.output) (hsize : w'.heap.size = w.heap.size)
    (hat : w'.heap[r]? = some o') (hoth : ∀ k, k ≠ r → w'.heap[k]? = w.heap[k]?) :
    RS G ρ (s.put b (some o)).h w' ∧ Tr fl ρ s w ρ (s.put b (some o)) w' := by
  have hget := fun j => St.put_get (s := s) hok (some o) j
  refine ⟨⟨hrs.glob, ?_, ?_⟩, ⟨.refl _, fun _ _ h => .inl h, Nat.le_refl _, hos, htape, hout, by omega, ?_, ?_, ?_, ?_⟩⟩
  · intro i x hx
    rw [hget] at hx
    by_cases e : i = b
    · subst e
      simp at hx
      subst hx
      exact ⟨r, n, o', hr, hat, ho⟩
    · simp only [e, if_false] at hx
      obtain ⟨r', m, p, h1, h2, h3⟩ := hrs.obj i x hx
      have hne : r' ≠ r := fun er => e (hrs.inj i b x o₀ r m n hx hold (er ▸ h1) hr)
      exact ⟨r', m, p, h1, by rw [hoth r' hne]; exact h2, h3⟩
  · intro i j x y r a c hi hj hir hjr
    rw [hget] at hi hj
    have hi' : ∃ x, s.h.get i = some x := by
      by_cases e : i = b
      · exact ⟨_, e ▸ hold⟩
      · simp only [e, if_false] at hi; exact ⟨_, hi⟩
    have hj' : ∃ x, s.h.get j = some x := by
      by_cases e : j = b
      · exact ⟨_, e ▸ hold⟩
      · simp only [e, if_false] at hj; exact ⟨_, hj⟩
    obtain ⟨x', hx'⟩ := hi'
    obtain ⟨y', hy'⟩ := hj'
    exact hrs.inj i j x' y' r a c hx' hy' hir hjr
  · intro k _ hno
    exact hoth k fun e => hno b o₀ n hfl hold (e ▸ hr)
  · intro i x r' m hi hx hir hlt
    rw [hget] at hx
    by_cases e : i = b
    · subst e; exact ⟨i, o₀, m, hi, hold, hir⟩
    · simp only [e, if_false] at hx
      exact ⟨i, x, m, hi, hx, hir⟩
  · intro i hi
    rw [hget, if_neg (by omega)]
  · intro i hi
    have : s.nx ≤ i := hi
    rw [hget, if_neg (by omega)]

/-- A draw: nothing turns. -/
theorem RS.drew {G : Nat} {ρ : Ren} {h : T AObj} {w : World} (hrs : RS G ρ h w) : RS G ρ h w.drew := ⟨hrs.glob, hrs.obj, hrs.inj⟩

theorem Tr.drew {fl : Nat} {ρ ρ' : Ren} {s s' : St} {w w' : World} (h : Tr fl ρ s w ρ' s' w') : Tr fl ρ s w ρ' s' w'.drew :=
  ⟨h.le, h.dom, h.nx, h.os, h.tape, h.output, h.size, h.frame, h.own, h.low, h.hi⟩

end Go.Ev
