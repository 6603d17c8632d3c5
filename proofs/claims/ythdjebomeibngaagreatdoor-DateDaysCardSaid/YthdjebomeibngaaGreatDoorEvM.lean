/- A checked interpreter for closed calls, part 13: an operation's run is what the interpreter says. -/
import Derived.Test.YthdjebomeibngaaGreatDoorEvL
namespace Go.Ev
open Go Go.MapKept

section
variable {P : Program} {E : Env} (hE : EnvOK P E) {fl : Nat} {ρ : Ren} {s : St} {w : World}

theorem arrMap {α β : Type} (f : α → β) (l : Array α) : l.map f = (l.toList.map f).toArray := by
  apply Array.ext'
  rw [Array.toList_map]

theorem VRs.toArr {ρ : Ren} {f f' : List Value} (h : VRs ρ f f') : f.toArray.size = f'.toArray.size ∧ ∀ (i : Nat) (v v' : Value), f.toArray[i]? = some v → f'.toArray[i]? = some v' → VR ρ v v' :=
  ⟨by simpa using h.1, fun i v v' hv hv' => h.2 i v v' (by simpa using hv) (by simpa using hv')⟩

theorem nilCheckA_ok {x x' v : Value} (hx : VR ρ x x') (hp : nilCheckA x = some v) {a : Act} {o : Oper} {y : Operand} (ho : o.op = .nilCheck y) (hy : a.eval y = x') : ∃ v', (execOp a.eval o).run P w = .ok (.value v') w ∧ VR ρ v v' := by
  unfold nilCheckA at hp
  split at hp <;> first | cases hp; done | skip
  all_goals (simp only [Option.some.injEq] at hp; subst hp)
  · cases hx with
    | ptr o' hb => exact ⟨_, by simp [execOp, ho, hy], .ptr o' hb⟩
  · cases hx with
    | func _ _ f' _ c' hfn hf hc h1 h2 => exact ⟨_, by simp [execOp, ho, hy], .func _ _ f' _ c' hfn hf hc h1 h2⟩
  · cases hx with
    | sliceNil => exact ⟨_, by simp [execOp, ho, hy], .sliceNil⟩
    | slice _ _ _ hb hc => exact ⟨_, by simp [execOp, ho, hy], .slice _ _ _ hb hc⟩
    | sliceOpen _ _ _ _ hb hs hc hl => exact ⟨_, by simp [execOp, ho, hy], .sliceOpen _ _ _ _ hb hs hc hl⟩
  · cases hx with
    | mapNil => exact ⟨_, by simp [execOp, ho, hy], .mapNil⟩
    | map hb => exact ⟨_, by simp [execOp, ho, hy], .map hb⟩

set_option maxHeartbeats 2000000 in
include hE in
theorem opA_ok (hrs : RS E.G ρ s.h w) (h1 : E.G ≤ fl) (h2 : fl ≤ s.nx) {a : Act} {ev : Operand → Option Value} (he : ∀ x v, ev x = some v → VR ρ v (a.eval x)) {o : Oper} {v : Value} {s' : St} (hp : opA E fl s o.op ev = some (v, s')) (hfree : Free ρ s.nx s'.nx) :
    ∃ n v' w', (execOp a.eval o).run P w = .ok n w' ∧ Next.leaves n v' ∧ Post E.G fl ρ s w v s' v' w' := by
  have pureCase : ∀ {u : Value} {q : Option Value}, (q.map fun v => (v, s)) = some (v, s') → (∀ u, q = some u → ∃ u', (execOp a.eval o).run P w = .ok (.value u') w ∧ VR ρ u u') →
      ∃ n v' w', (execOp a.eval o).run P w = .ok n w' ∧ Next.leaves n v' ∧ Post E.G fl ρ s w v s' v' w' := by
    intro _ q hq hr
    rw [Option.map_eq_some_iff] at hq
    obtain ⟨u, hu, e⟩ := hq
    simp only [Prod.mk.injEq] at e
    obtain ⟨rfl, rfl⟩ := e
    obtain ⟨u', h3, h4⟩ := hr u hu
    exact ⟨_, u', w, h3, .inl rfl, post_same hrs h4⟩
  have allocCase : ∀ {out : Sem Value}, (∃ out' w', out.run P w = .ok out' w' ∧ Post E.G fl ρ s w v s' out' w') → (∀ out' w', out.run P w = .ok out' w' → (execOp a.eval o).run P w = .ok (.value out') w') →
      ∃ n v' w', (execOp a.eval o).run P w = .ok n w' ∧ Next.leaves n v' ∧ Post E.G fl ρ s w v s' v' w' := by
    rintro out ⟨out', w', hr, hpost⟩ hx
    exact ⟨_, out', w', hx out' w' hr, .inl rfl, hpost⟩
  unfold opA at hp
  split at hp
  · rename_i x ho
    exact pureCase (u := undef) hp fun u hu => ⟨_, by simp [execOp, ho], he _ _ hu⟩
  · rename_i x ho
    exact pureCase (u := undef) hp fun u hu => ⟨_, by simp [execOp, ho], he _ _ hu⟩
  · rename_i c x y ho
    split at hp
    · rename_i t hc
      have hcv := he _ _ hc
      generalize hce : a.eval c = cv at hcv
      cases hcv
      refine pureCase (u := undef) hp fun u hu => ?_
      cases t
      · exact ⟨_, by simp [execOp, ho, hce, asBool], he _ _ hu⟩
      · exact ⟨_, by simp [execOp, ho, hce, asBool], he _ _ hu⟩
    · cases hp
  · rename_i e ho
    exact allocCase (allocA_ok hE hrs h1 h2 hp hfree) fun out' w' hr => by simp [execOp, ho, hr]
  · rename_i e x ho
    split at hp
    · rename_i u hx
      exact allocCase (boxA_ok (E := E) hrs h1 h2 (he _ _ hx) hp hfree) fun out' w' hr => by simp [execOp, ho, hr]
    · cases hp
  · rename_i t ps ho
    split at hp
    · rename_i l hl
      refine pureCase (u := undef) hp fun u hu => ?_
      obtain ⟨v', h3, h4⟩ := buildA_ok hE he hl hu w
      exact ⟨v', by simp [execOp, ho, h3], h4⟩
    · cases hp
  · rename_i t n ps ho
    split at hp
    · rename_i l hl
      exact allocCase (buildSliceA_ok hE hrs h1 h2 he hl hp hfree) fun out' w' hr => by simp [execOp, ho, hr]
    · cases hp
  · rename_i t m k x ho
    split at hp
    · rename_i b k' u hm hk hu
      rw [Option.map_eq_some_iff] at hp
      obtain ⟨s1, hs, e⟩ := hp
      simp only [Prod.mk.injEq] at e
      obtain ⟨rfl, rfl⟩ := e
      obtain ⟨w', h3, h4, h5⟩ := mapUpdateA_ok hE hrs (he _ _ hm) (he _ _ hk) (he _ _ hu) hs
      exact ⟨.skip, undef, w', by simp [execOp, ho, h3], .inr ⟨rfl, rfl⟩, ρ, h4, h5, undefVR ρ⟩
    · cases hp
  · rename_i t m k x ho
    split at hp
    · rename_i b k' u hm hk hu
      rw [Option.map_eq_some_iff] at hp
      obtain ⟨s1, hs, e⟩ := hp
      simp only [Prod.mk.injEq] at e
      obtain ⟨rfl, rfl⟩ := e
      obtain ⟨w', h3, h4, h5⟩ := mapUpdateA_ok hE hrs (he _ _ hm) (he _ _ hk) (he _ _ hu) hs
      exact ⟨.skip, undef, w', by simp [execOp, ho, h3], .inr ⟨rfl, rfl⟩, ρ, h4, h5, undefVR ρ⟩
    · cases hp
  · rename_i t x ho
    split at hp
    · rename_i b off hx
      have hv := he _ _ hx
      generalize hce : a.eval x = xv at hv
      refine pureCase (u := undef) hp fun u hu => ?_
      obtain ⟨r, n, v', h3, h4, h5⟩ := loadV_ok hE hrs hu
      cases hv with
      | ptr _ hb =>
        rw [h3] at hb
        cases hb
        exact ⟨v', by simp [execOp, ho, hce, Instr.loadAt, Instr.sureAddr, h4], h5⟩
    · cases hp
  · rename_i t x y ho
    split at hp
    · rename_i b off u hx hu
      rw [Option.map_eq_some_iff] at hp
      obtain ⟨s1, hs, e⟩ := hp
      simp only [Prod.mk.injEq] at e
      obtain ⟨rfl, rfl⟩ := e
      obtain ⟨w', h3, h4, h5⟩ := storeA_ok hE hrs (he _ _ hx) (he _ _ hu) hs
      exact ⟨.skip, undef, w', by simp [execOp, ho, h3], .inr ⟨rfl, rfl⟩, ρ, h4, h5, undefVR ρ⟩
    · cases hp
  · rename_i x ho
    split at hp
    · rename_i u hx
      exact pureCase (u := undef) hp fun u' hu' => nilCheckA_ok (he _ _ hx) hu' ho rfl
    · cases hp
  · rename_i op t x y yt ho
    split at hp
    · rename_i u1 u2 hx hy
      refine pureCase (u := undef) hp fun u hu => ?_
      obtain ⟨h3, h4⟩ := binV_ok (x := x) hE hu (he _ _ hx) (he _ _ hy) w
      have h3' := h3
      rw [Sem.run_bind] at h3'
      refine ⟨u, ?_, h4⟩
      simp only [execOp, ho, Sem.run_bind, Sem.run_pure]
      generalize (eqGuard op t x y (a.eval x) (a.eval y)).run P w = q at h3' ⊢
      cases q with
      | ok z w1 =>
        simp only [Result.andThen_ok] at h3' ⊢
        rw [h3']
        rfl
      | halt z w1 => cases h3'
    · cases hp
  · rename_i op t x ho
    split at hp
    · rename_i u1 hx
      refine pureCase (u := undef) hp fun u hu => ?_
      obtain ⟨h3, h4⟩ := unV_ok (P := P) (w := w) (he _ _ hx) hu
      exact ⟨u, by simp [execOp, ho, h3], h4⟩
    · cases hp
  · rename_i src dst x ho
    split at hp
    · rename_i u1 hx
      split at hp
      · rename_i u hc
        obtain ⟨h3, h4⟩ := convA_ok (w := w) hE (he _ _ hx) hc
        simp only [Option.some.injEq, Prod.mk.injEq] at hp
        obtain ⟨rfl, rfl⟩ := hp
        exact ⟨_, u, w, by simp [execOp, ho, h3], .inl rfl, post_same hrs h4⟩
      · exact allocCase (bytesA_ok hE hrs h1 h2 (he _ _ hx) hp hfree) fun out' w' hr => by simp [execOp, ho, hr]
    · cases hp
  · rename_i t x ho
    split at hp
    · rename_i u1 hx
      refine pureCase (u := undef) hp fun u hu => ?_
      obtain ⟨v', h3, h4⟩ := mkIfaceA_ok (w := w) hE (he _ _ hx) hu
      exact ⟨v', by simp [execOp, ho, h3], h4⟩
    · cases hp
  · rename_i fn first cap ho
    split at hp
    · rename_i f c hf hc
      cases hfn : fnPlain fn with
      | false => rw [hfn] at hp; cases hp
      | true =>
        rw [hfn] at hp
        simp only [cond_true, Option.some.injEq, Prod.mk.injEq] at hp
        obtain ⟨rfl, rfl⟩ := hp
        have hf' := (argsA_ok he _ _ hf).toArr
        have hc' := (argsA_ok he _ _ hc).toArr
        refine ⟨.value (.func fn (first.toList.map a.eval).toArray (cap.toList.map a.eval).toArray), _, w, by simp [execOp, ho, Instr.makeFunc]; exact ⟨arrMap _ _, arrMap _ _⟩, .inl rfl, post_same hrs (.func fn _ _ _ _ hfn hf'.1 hc'.1 hf'.2 hc'.2)⟩
    · cases hp
  · rename_i t ho
    exact allocCase (makeMapA_ok (E := E) (t := t) hrs h1 h2 hp hfree) fun out' w' hr => by simp [execOp, ho, hr]
  · rename_i t l c ho
    split at hp
    · rename_i u1 u2 hl hc
      exact allocCase (makeSliceA_ok hE hrs h1 h2 (he _ _ hl) (he _ _ hc) hp hfree) fun out' w' hr => by simp [execOp, ho, hr]
    · cases hp
  · rename_i t x lo hi ho
    split at hp
    · rename_i u1 hx
      refine pureCase (u := undef) hp fun u hu => ?_
      obtain ⟨v', h3, h4⟩ := sliceAtA_ok (w := w) hE (he _ _ hx) (VRo.ofMap he lo) (VRo.ofMap he hi) hu
      exact ⟨v', by simp [execOp, ho, h3], h4⟩
    · cases hp
  · rename_i t x f ho
    split at hp
    · rename_i u1 hx
      refine pureCase (u := undef) hp fun u hu => ?_
      obtain ⟨v', h3, h4⟩ := fieldAtA_ok (w := w) hE (he _ _ hx) hu
      exact ⟨v', by simp [execOp, ho, h3], h4⟩
    · cases hp
  · rename_i t x f ho
    split at hp
    · rename_i u1 hx
      refine pureCase (u := undef) hp fun u hu => ?_
      obtain ⟨v', h3, h4⟩ := fieldA_ok (w := w) hE (he _ _ hx) hu
      exact ⟨v', by simp [execOp, ho, h3], h4⟩
    · cases hp
  · rename_i t x i ho
    split at hp
    · rename_i u1 u2 hx hi
      refine pureCase (u := undef) hp fun u hu => ?_
      obtain ⟨v', h3, h4⟩ := indexAtA_ok (w := w) hE (he _ _ hx) (he _ _ hi) hu
      exact ⟨v', by simp [execOp, ho, h3], h4⟩
    · cases hp
  · rename_i t x i ho
    split at hp
    · rename_i u1 u2 hx hi
      refine pureCase (u := undef) hp fun u hu => ?_
      obtain ⟨v', h3, h4⟩ := indexA_ok (w := w) hE (he _ _ hx) (he _ _ hi) hu
      exact ⟨v', by simp [execOp, ho, h3], h4⟩
    · cases hp
  · rename_i t m k c ho
    split at hp
    · rename_i u1 u2 hm hk
      refine pureCase (u := undef) hp fun u hu => ?_
      obtain ⟨v', h3, h4⟩ := lookupA_ok hE hrs (he _ _ hm) (he _ _ hk) hu
      exact ⟨v', by simp [execOp, ho, h3], h4⟩
    · cases hp
  · rename_i x i ho
    split at hp
    · rename_i u1 hx
      refine pureCase (u := undef) hp fun u hu => ?_
      obtain ⟨v', h3, h4⟩ := extractA_ok (P := P) (w := w) (he _ _ hx) hu
      exact ⟨v', by simp [execOp, ho, h3], h4⟩
    · cases hp
  · rename_i b args ts ho
    split at hp
    · rename_i vs hvs
      obtain ⟨n, out', w', h3, h4, h5⟩ := builtinA_ok hE hrs h1 h2 (argsA_ok he _ _ hvs) hp hfree o.type (args.map fun | .const _ => true | _ => false)
      refine ⟨n, out', w', ?_, h4, h5⟩
      rw [← arrMap] at h3
      simp only [execOp, ho, resolve, Sem.run_bind, Sem.run_pure, Result.andThen_ok, invoke]
      exact h3
    · cases hp
  · cases hp

end
end Go.Ev
