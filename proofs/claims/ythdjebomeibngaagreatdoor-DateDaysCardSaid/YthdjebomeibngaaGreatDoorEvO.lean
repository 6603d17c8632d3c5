/- A checked interpreter for closed calls, part 15: numbers of blocks only grow. -/
import Derived.Test.YthdjebomeibngaaGreatDoorEvN
namespace Go.Ev
open Go Go.MapKept

theorem newRowA_nx (s : St) (cs : List Value) (e : TypeId) (a b : Bool) : s.nx ≤ (newRowA s cs e a b).nx := by
  show s.nx ≤ s.nx + 1; omega

theorem some_snd {α : Type} {x y : α} {s s' : St} (h : some (x, s) = some (y, s')) : s = s' := by
  simp only [Option.some.injEq, Prod.mk.injEq] at h; exact h.2

theorem boxA_nx {s s' : St} {e : TypeId} {v out : Value} (h : boxA s e v = some (out, s')) : s.nx ≤ s'.nx := by
  unfold boxA at h
  cases hok : ok s.nx with
  | false => rw [hok] at h; cases h
  | true => rw [hok] at h; rw [← some_snd h]; exact newRowA_nx _ _ _ _ _

theorem growA_nx {s s' : St} {e : TypeId} {i : TypeInfo} {o n : List Value} {k : Nat} {out : Value} (h : growA s e i o n k = some (out, s')) : s.nx ≤ s'.nx := by
  unfold growA at h
  split at h
  · rename_i z hz
    cases hq : (ok s.nx && Nat.ble k 100000 && Nat.ble i.bytes 1000000 && Nat.beq z.cells.toList.length i.size) with
    | false => rw [hq] at h; cases h
    | true => rw [hq] at h; rw [← some_snd h]; exact newRowA_nx _ _ _ _ _
  · cases h

theorem cond_some {α : Type} {b : Bool} {x y : Option α} {z : α} (h : cond b x y = some z) : (b = true ∧ x = some z) ∨ (b = false ∧ y = some z) := by
  cases b <;> simp_all

theorem appendA_nx {E : Env} {fl : Nat} {s s' : St} {t tx : TypeId} {x y out : Value} (h : appendA E fl s t tx x y = some (out, s')) : s.nx ≤ s'.nx := by
  unfold appendA at h
  split at h
  · split at h
    · rcases cond_some h with ⟨_, h⟩ | ⟨_, h⟩
      · split at h
        · split at h
          · rcases cond_some h with ⟨_, h⟩ | ⟨_, h⟩
            · rw [← some_snd h]; exact Nat.le_refl _
            · exact growA_nx h
          · split at h
            · rcases cond_some h with ⟨_, h⟩ | ⟨_, h⟩
              · rcases cond_some h with ⟨_, h⟩ | ⟨_, h⟩
                · rcases cond_some h with ⟨_, h⟩ | ⟨_, h⟩
                  · rw [← some_snd h]; exact Nat.le_refl _
                  · rcases cond_some h with ⟨_, h⟩ | ⟨_, h⟩
                    · rw [← some_snd h]; exact Nat.le_refl _
                    · cases h
                · split at h
                  · exact growA_nx h
                  · cases h
              · rcases cond_some h with ⟨_, h⟩ | ⟨_, h⟩
                · rcases cond_some h with ⟨_, h⟩ | ⟨_, h⟩
                  · rw [← some_snd h]; exact Nat.le_refl _
                  · rcases cond_some h with ⟨_, h⟩ | ⟨_, h⟩
                    · rcases cond_some h with ⟨_, h⟩ | ⟨_, h⟩
                      · rw [← some_snd h]; exact Nat.le_refl _
                      · rcases cond_some h with ⟨_, h⟩ | ⟨_, h⟩
                        · split at h
                          · have := growA_nx h; exact this
                          · cases h
                        · cases h
                    · cases h
                · cases h
            · cases h
          · cases h
        · cases h
      · cases h
    · cases h
  · cases h

theorem mapUpdateA_nx {E : Env} {fl : Nat} {s s' : St} {t : TypeId} {b : Nat} {k u : Value} (hm : mapUpdateA E fl s t b k u = some s') : s.nx ≤ s'.nx := by
  unfold mapUpdateA at hm
  split at hm
  · split at hm
    · rcases cond_some hm with ⟨_, hm⟩ | ⟨_, hm⟩
      · split at hm
        · simp only [Option.some.injEq] at hm; subst hm; exact Nat.le_refl _
        · simp only [Option.some.injEq] at hm; subst hm; exact Nat.le_refl _
        · cases hm
      · cases hm
    · cases hm
  · cases hm

theorem storeA_nx {E : Env} {fl : Nat} {s s' : St} {t : TypeId} {b o : Nat} {u : Value} (hm : storeA E fl s t b o u = some s') : s.nx ≤ s'.nx := by
  unfold storeA at hm
  split at hm
  · dsimp only at hm
    rcases cond_some hm with ⟨_, hm⟩ | ⟨_, hm⟩
    · simp only [Option.some.injEq] at hm; subst hm; exact Nat.le_refl _
    · cases hm
  · cases hm

theorem allocA_nx {E : Env} {s s' : St} {e : TypeId} {v : Value} (h : allocA E s e = some (v, s')) : s.nx ≤ s'.nx := by
  unfold allocA at h
  split at h
  · split at h
    · rcases cond_some h with ⟨_, h⟩ | ⟨_, h⟩
      · exact boxA_nx h
      · cases h
    · cases h
  · cases h

theorem buildSliceA_nx {E : Env} {s s' : St} {t : TypeId} {n : Nat} {l : List (Nat × Value)} {v : Value} (h : buildSliceA E s t n l = some (v, s')) : s.nx ≤ s'.nx := by
  unfold buildSliceA at h
  split at h
  · split at h
    · split at h
      · rcases cond_some h with ⟨_, h⟩ | ⟨_, h⟩
        · rcases cond_some h with ⟨_, h⟩ | ⟨_, h⟩
          · rcases cond_some h with ⟨_, h⟩ | ⟨_, h⟩
            · rw [← some_snd h]; exact newRowA_nx _ _ _ _ _
            · cases h
          · rcases cond_some h with ⟨_, h⟩ | ⟨_, h⟩
            · split at h
              · rw [← some_snd h]; exact newRowA_nx _ _ _ _ _
              · cases h
            · cases h
        · cases h
      · cases h
    · cases h
  · cases h

theorem makeSliceA_nx {E : Env} {s s' : St} {t : TypeId} {l c v : Value} (h : makeSliceA E s t l c = some (v, s')) : s.nx ≤ s'.nx := by
  unfold makeSliceA at h
  split at h
  · split at h
    · split at h
      · rcases cond_some h with ⟨_, h⟩ | ⟨_, h⟩
        · rw [← some_snd h]; exact newRowA_nx _ _ _ _ _
        · cases h
      · cases h
    · cases h
  · cases h

theorem bytesA_nx {E : Env} {s s' : St} {a b : TypeId} {x v : Value} (h : bytesA E s a b x = some (v, s')) : s.nx ≤ s'.nx := by
  unfold bytesA at h
  split at h
  · split at h
    · rcases cond_some h with ⟨_, h⟩ | ⟨_, h⟩
      · rw [← some_snd h]; exact newRowA_nx _ _ _ _ _
      · cases h
    · cases h
  · cases h

theorem put_nx (s : St) (b : Nat) (o : Option AObj) : (s.put b o).nx = s.nx := rfl

theorem opA_nx {E : Env} {fl : Nat} {s s' : St} {o : Op} {ev : Operand → Option Value} {v : Value} (h : opA E fl s o ev = some (v, s')) : s.nx ≤ s'.nx := by
  have same : ∀ {q : Option Value}, (q.map fun v => (v, s)) = some (v, s') → s.nx ≤ s'.nx := fun {q} hq => by
    rw [Option.map_eq_some_iff] at hq
    obtain ⟨u, _, e⟩ := hq
    simp only [Prod.mk.injEq] at e
    rw [e.2]; exact Nat.le_refl _
  have mapped : ∀ {q : Option St}, (q.map fun s => (undef, s)) = some (v, s') → q = some s' := fun {q} hq => by
    rw [Option.map_eq_some_iff] at hq
    obtain ⟨u, hu, e⟩ := hq
    simp only [Prod.mk.injEq] at e
    rw [hu, e.2]
  unfold opA at h
  split at h
  all_goals first
    | exact same h
    | (cases h; done)
    | skip
  · split at h <;> first | exact same h | cases h
  · exact allocA_nx h
  · split at h
    · exact boxA_nx h
    · cases h
  · split at h <;> first | exact same h | cases h
  · split at h
    · exact buildSliceA_nx h
    · cases h
  · split at h
    · exact mapUpdateA_nx (mapped h)
    · cases h
  · split at h
    · exact mapUpdateA_nx (mapped h)
    · cases h
  · split at h <;> first | exact same h | cases h
  · split at h
    · exact storeA_nx (mapped h)
    · cases h
  · split at h <;> first | exact same h | cases h
  · split at h <;> first | exact same h | cases h
  · split at h <;> first | exact same h | cases h
  · split at h
    · split at h
      · rw [← some_snd h]; exact Nat.le_refl _
      · exact bytesA_nx h
    · cases h
  · split at h <;> first | exact same h | cases h
  · split at h
    · rcases cond_some h with ⟨_, h⟩ | ⟨_, h⟩
      · rw [← some_snd h]; exact Nat.le_refl _
      · cases h
    · cases h
  · unfold makeMapA at h
    rcases cond_some h with ⟨_, h⟩ | ⟨_, h⟩
    · rw [← some_snd h]; show s.nx ≤ s.nx + 1; omega
    · cases h
  · split at h
    · exact makeSliceA_nx h
    · cases h
  · split at h <;> first | exact same h | cases h
  · split at h <;> first | exact same h | cases h
  · split at h <;> first | exact same h | cases h
  · split at h <;> first | exact same h | cases h
  · split at h <;> first | exact same h | cases h
  · split at h <;> first | exact same h | cases h
  · split at h <;> first | exact same h | cases h
  · split at h
    · unfold builtinA at h
      split at h
      · exact same h
      · exact appendA_nx h
      · rcases cond_some h with ⟨_, h⟩ | ⟨_, h⟩
        · rw [← some_snd h]; exact Nat.le_refl _
        · cases h
      · rcases cond_some h with ⟨_, h⟩ | ⟨_, h⟩
        · rw [← some_snd h]; exact Nat.le_refl _
        · cases h
      · split at h
        · rcases cond_some h with ⟨_, h⟩ | ⟨_, h⟩
          · rw [← some_snd h]; exact Nat.le_refl _
          · cases h
        · cases h
      · cases h
    · cases h

end Go.Ev
