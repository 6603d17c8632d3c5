/- A checked interpreter, more: a function that is known, where listed tables hold what they hold, at all arguments that are of a form. -/
import Derived.Test.YtimlgclejaoboaaGreatDoorEvThree
namespace Go.Ev
open Go
section
variable {P : Program} {E : Env} {L : Lib}
def libT (L : Lib) (tabs : List Tab) (f : FuncId) (g : List Value → Option Value) : Lib where
  ext f' args h := cond (Nat.beq f' f) (match g args with | some v => cond (tabsB h tabs) (some v) (L.ext f' args h) | none => L.ext f' args h) (L.ext f' args h)
  run := L.run

theorem libT_ok (hL : LibOK P E L) {tabs : List Tab} {f : FuncId} {g : List Value → Option Value} (htabs : ∀ t ∈ tabs, t.1 < E.G) (hfn : ∃ fn, FnOK P f fn)
    (hg : ∀ args v, g args = some v → plainV v = true ∧ args.all plainV = true ∧ ∀ w, TabsIn tabs w → Calls P f args.toArray w fun e w' => e = .returned v ∧ RowKit.Below w.heap.size w w') : LibOK P E (libT L tabs f g) := by
  refine ⟨?_, hL.run, hL.up⟩
  intro f' args h v hv
  have hv' : cond (Nat.beq f' f) (match g args with | some v => cond (tabsB h tabs) (some v) (L.ext f' args h) | none => L.ext f' args h) (L.ext f' args h) = some v := hv
  rcases hb : Nat.beq f' f with _ | _
  · rw [hb, cond_false] at hv'
    exact hL.ext f' args h v hv'
  · rw [hb, cond_true] at hv'
    have := Nat.eq_of_beq_eq_true hb
    subst this
    split at hv'
    · rename_i u hu
      rcases cond_some hv' with ⟨hb, hv'⟩ | ⟨_, hv'⟩
      · cases hv'
        obtain ⟨k1, k2, k3⟩ := hg args v hu
        exact ⟨k1, hfn, fun ρ w args' hrs hargs => by
          rw [VRs.plain_same k2 hargs]
          exact k3 w (tabsB_ok hrs tabs htabs hb)⟩
      · exact hL.ext f' args h v hv'
    · exact hL.ext f' args h v hv'
end
end Go.Ev
