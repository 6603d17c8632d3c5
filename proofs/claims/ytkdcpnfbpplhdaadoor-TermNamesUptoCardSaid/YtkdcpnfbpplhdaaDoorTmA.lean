/- Stage 2's seat: the interpreter's environment for this program, the keywords' table, and known(). -/
import Derived.Test.YtkdcpnfbpplhdaaDoorEvThree
import Derived.Test.YtkdcpnfbpplhdaaDoorChecked
namespace Go.Proofs.YtkdcpnfbpplhdaaDoor
open Go Go.Ev
set_option maxRecDepth 100000

noncomputable def env : Env := {
  tt := fun t => match Tryd.prog.underlying t, Tryd.prog.info? t with | some d, some i => some (d, i) | _, _ => none
  ft := fun f => Tryd.prog.funcs[f]?
  G := 1
  flat := fun _ => false }

theorem noNum : (Tryd.prog.funcs.all fun fn => !(fn.name == "runtime.NumGoroutine")) = true := by kernel_rfl

theorem env_ok : EnvOK Tryd.prog env := {
  tt t d i h := by
    simp only [env] at h
    split at h
    · rename_i d' i' h1 h2
      cases h
      exact ⟨h1, h2⟩
    · cases h
  ft f fn h := by
    have h' : Tryd.prog.funcs[f]? = some fn := h
    refine ⟨h', ?_⟩
    obtain ⟨hf, e⟩ := Array.getElem?_eq_some_iff.1 h'
    have := (Array.all_eq_true.1 noNum) f hf
    rw [e] at this
    simpa using this
  mixed := by kernel_rfl
  flat t h := by
    have h' : false = true := h
    cases h'
  deep t v h := by
    have h' : false = true := h
    cases h' }

/-- The words of the language that are no names. -/
def kw : List (List UInt8) := [[97, 102, 116, 101, 114],
  [97, 110, 100],
  [97, 115],
  [97, 116],
  [98, 111, 116, 104],
  [98, 121],
  [99, 111, 117, 110, 116],
  [101, 97, 99, 104],
  [101, 108, 115, 101],
  [103, 114, 101, 97, 116],
  [103, 114, 111, 117, 112],
  [105, 110],
  [105, 115],
  [107, 101, 121],
  [108, 97, 99, 107],
  [108, 101, 97, 115, 116],
  [108, 101, 115, 115],
  [108, 101, 116],
  [111, 102],
  [111, 110, 99, 101],
  [111, 114],
  [111, 116, 104, 101, 114],
  [112, 97, 105, 114],
  [112, 114, 101, 118],
  [114, 101, 115, 116],
  [115, 97, 109, 101],
  [115, 104, 105, 102, 116],
  [115, 108, 105, 100, 101],
  [115, 111, 117, 114, 99, 101],
  [115, 117, 109],
  [116, 111, 116, 97, 108],
  [118, 97, 108],
  [119, 104, 101, 114, 101],
  [119, 105, 116, 104, 105, 110]]
def tabs : List Tab := [(0, kw.map fun b => Value.string ⟨b.toArray⟩)]
noncomputable def st (es : Nat → TypeId) : St := ⟨layT tabs es, 1000⟩

theorem tabs_below (fl : Nat) (h : 1 ≤ fl) : ∀ t ∈ tabs, t.1 < fl ∧ t.1 < 1000000 ∧ t.2.all plain1 = true := fun t ht => by
  simp only [tabs, List.mem_cons, List.not_mem_nil, or_false] at ht
  subst ht
  exact ⟨by show 0 < fl; omega, by show 0 < 1000000; omega, rfl⟩

noncomputable def lib0 : Lib := { ext := fun _ _ _ => none }
theorem lib0_ok : LibOK Tryd.prog env lib0 := {
  ext f args h v hv := by cases hv
  run fl _ f args s r s' h := by cases h
  up fl f args s r s' h := by cases h }

end Go.Proofs.YtkdcpnfbpplhdaaDoor
#print axioms Go.Proofs.YtkdcpnfbpplhdaaDoor.lib0_ok
