/- The seat: the interpreter's environment for this program. -/
import Derived.Test.YtfhljcpicdabmaaGreatDoorEvThree
import Derived.Test.YtfhljcpicdabmaaGreatDoorChecked
namespace Go.Proofs.YtfhljcpicdabmaaGreatDoor
open Go Go.Ev
set_option maxRecDepth 100000

noncomputable def env : Env := {
  tt := fun t => match Tryz.prog.underlying t, Tryz.prog.info? t with | some d, some i => some (d, i) | _, _ => none
  ft := fun f => Tryz.prog.funcs[f]?
  G := 8
  flat := fun t => Nat.beq t 48 || (Nat.beq t 23 || (Nat.beq t 33 || Nat.beq t 73)) }

theorem noNum : (Tryz.prog.funcs.all fun fn => !(fn.name == "runtime.NumGoroutine")) = true := by kernel_rfl

def noBlank (d : Option TypeDesc) : Bool := match d with
  | some (.struct fs) => fs.toList.all fun f => !(f.name == "_")
  | _ => true

theorem noBlank_ok {d : Option TypeDesc} (h : noBlank d = true) : ∀ fs, d = some (.struct fs) → ∀ f ∈ fs.toList, f.name ≠ "_" := by
  intro fs e f hf hn
  subst e
  have := List.all_eq_true.1 h f hf
  rw [hn] at this
  simp at this

theorem env_ok : EnvOK Tryz.prog env := {
  tt t d i h := by
    simp only [env] at h
    split at h
    · rename_i d' i' h1 h2
      cases h
      exact ⟨h1, h2⟩
    · cases h
  ft f fn h := by
    have h' : Tryz.prog.funcs[f]? = some fn := h
    refine ⟨h', ?_⟩
    obtain ⟨hf, e⟩ := Array.getElem?_eq_some_iff.1 h'
    have := (Array.all_eq_true.1 noNum) f hf
    rw [e] at this
    simpa using this
  mixed := by kernel_rfl
  flat t h := by
    have h' : (Nat.beq t 48 || (Nat.beq t 23 || (Nat.beq t 33 || Nat.beq t 73))) = true := h
    simp only [Bool.or_eq_true] at h'
    rcases h' with h' | h' | h' | h'
    all_goals
      have := Nat.eq_of_beq_eq_true h'
      subst this
      exact ⟨by kernel_rfl, by kernel_rfl, noBlank_ok (by kernel_rfl)⟩ }

end Go.Proofs.YtfhljcpicdabmaaGreatDoor
#print axioms Go.Proofs.YtfhljcpicdabmaaGreatDoor.env_ok
