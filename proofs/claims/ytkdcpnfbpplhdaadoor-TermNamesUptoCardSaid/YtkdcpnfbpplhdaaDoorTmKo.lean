/- The seat: stage 2's known(): what is told is so. -/
import Derived.Test.YtkdcpnfbpplhdaaDoorTmKr1
import Derived.Test.YtkdcpnfbpplhdaaDoorTmKr2
import Derived.Test.YtkdcpnfbpplhdaaDoorTmKr3
import Derived.Test.YtkdcpnfbpplhdaaDoorTmKr4
import Derived.Test.YtkdcpnfbpplhdaaDoorTmKr5
import Derived.Test.YtkdcpnfbpplhdaaDoorTmKr6
namespace Go.Proofs.YtkdcpnfbpplhdaaDoor
open Go Go.Ev
set_option maxRecDepth 100000
theorem tabsTmK : ∀ t ∈ tabs, t.1 < env.G ∧ t.1 < 1000000 := by
  intro t ht
  simp only [tabs, List.mem_cons, List.not_mem_nil, or_false] at ht
  rcases ht with rfl
  all_goals exact ⟨by decide, by decide⟩
theorem l1TmK_ok : LibOK Tryd.prog env l1TmK := libE_ok env_ok lib0_ok lib0_ok tabsTmK (by decide) (by kernel_rfl) q1TmK_run
theorem l2TmK_ok : LibOK Tryd.prog env l2TmK := libE_ok env_ok l1TmK_ok l1TmK_ok tabsTmK (by decide) (by kernel_rfl) q2TmK_run
theorem l3TmK_ok : LibOK Tryd.prog env l3TmK := libE_ok env_ok l2TmK_ok l2TmK_ok tabsTmK (by decide) (by kernel_rfl) q3TmK_run
theorem l4TmK_ok : LibOK Tryd.prog env l4TmK := libE_ok env_ok l3TmK_ok l3TmK_ok tabsTmK (by decide) (by kernel_rfl) q4TmK_run
theorem l5TmK_ok : LibOK Tryd.prog env l5TmK := libE_ok env_ok l4TmK_ok l4TmK_ok tabsTmK (by decide) (by kernel_rfl) q5TmK_run
theorem l6TmK_ok : LibOK Tryd.prog env l6TmK := libE_ok env_ok l5TmK_ok l5TmK_ok tabsTmK (by decide) (by kernel_rfl) q6TmK_run
theorem l7TmK_ok : LibOK Tryd.prog env l7TmK := libE_ok env_ok l6TmK_ok l6TmK_ok tabsTmK (by decide) (by kernel_rfl) q7TmK_run
theorem l8TmK_ok : LibOK Tryd.prog env l8TmK := libE_ok env_ok l7TmK_ok l7TmK_ok tabsTmK (by decide) (by kernel_rfl) q8TmK_run
theorem l9TmK_ok : LibOK Tryd.prog env l9TmK := libE_ok env_ok l8TmK_ok l8TmK_ok tabsTmK (by decide) (by kernel_rfl) q9TmK_run
theorem l10TmK_ok : LibOK Tryd.prog env l10TmK := libE_ok env_ok l9TmK_ok l9TmK_ok tabsTmK (by decide) (by kernel_rfl) q10TmK_run
theorem l11TmK_ok : LibOK Tryd.prog env l11TmK := libE_ok env_ok l10TmK_ok l10TmK_ok tabsTmK (by decide) (by kernel_rfl) q11TmK_run
theorem l12TmK_ok : LibOK Tryd.prog env l12TmK := libE_ok env_ok l11TmK_ok l11TmK_ok tabsTmK (by decide) (by kernel_rfl) q12TmK_run
theorem l13TmK_ok : LibOK Tryd.prog env l13TmK := libE_ok env_ok l12TmK_ok l12TmK_ok tabsTmK (by decide) (by kernel_rfl) q13TmK_run
theorem l14TmK_ok : LibOK Tryd.prog env l14TmK := libE_ok env_ok l13TmK_ok l13TmK_ok tabsTmK (by decide) (by kernel_rfl) q14TmK_run
theorem l15TmK_ok : LibOK Tryd.prog env l15TmK := libE_ok env_ok l14TmK_ok l14TmK_ok tabsTmK (by decide) (by kernel_rfl) q15TmK_run
theorem l16TmK_ok : LibOK Tryd.prog env l16TmK := libE_ok env_ok l15TmK_ok l15TmK_ok tabsTmK (by decide) (by kernel_rfl) q16TmK_run
theorem l17TmK_ok : LibOK Tryd.prog env l17TmK := libE_ok env_ok l16TmK_ok l16TmK_ok tabsTmK (by decide) (by kernel_rfl) q17TmK_run
theorem l18TmK_ok : LibOK Tryd.prog env l18TmK := libE_ok env_ok l17TmK_ok l17TmK_ok tabsTmK (by decide) (by kernel_rfl) q18TmK_run
theorem l19TmK_ok : LibOK Tryd.prog env l19TmK := libE_ok env_ok l18TmK_ok l18TmK_ok tabsTmK (by decide) (by kernel_rfl) q19TmK_run
theorem l20TmK_ok : LibOK Tryd.prog env l20TmK := libE_ok env_ok l19TmK_ok l19TmK_ok tabsTmK (by decide) (by kernel_rfl) q20TmK_run
theorem l21TmK_ok : LibOK Tryd.prog env l21TmK := libE_ok env_ok l20TmK_ok l20TmK_ok tabsTmK (by decide) (by kernel_rfl) q21TmK_run
theorem l22TmK_ok : LibOK Tryd.prog env l22TmK := libE_ok env_ok l21TmK_ok l21TmK_ok tabsTmK (by decide) (by kernel_rfl) q22TmK_run
theorem l23TmK_ok : LibOK Tryd.prog env l23TmK := libE_ok env_ok l22TmK_ok l22TmK_ok tabsTmK (by decide) (by kernel_rfl) q23TmK_run
theorem l24TmK_ok : LibOK Tryd.prog env l24TmK := libE_ok env_ok l23TmK_ok l23TmK_ok tabsTmK (by decide) (by kernel_rfl) q24TmK_run
theorem l25TmK_ok : LibOK Tryd.prog env l25TmK := libE_ok env_ok l24TmK_ok l24TmK_ok tabsTmK (by decide) (by kernel_rfl) q25TmK_run
theorem l26TmK_ok : LibOK Tryd.prog env l26TmK := libE_ok env_ok l25TmK_ok l25TmK_ok tabsTmK (by decide) (by kernel_rfl) q26TmK_run
theorem lTmK_ok : LibOK Tryd.prog env lTmK := l26TmK_ok
end Go.Proofs.YtkdcpnfbpplhdaaDoor
