/- The seat: stage 2's known(): they were run so (3). -/
import Derived.Test.YtkdcpnfbpplhdaaDoorTmKd
namespace Go.Proofs.YtkdcpnfbpplhdaaDoor
open Go Go.Ev
set_option maxRecDepth 100000
theorem q11TmK_run (es : Nat → TypeId) : sumB env l10TmK 1000 1000 tabs es q11TmK = true := by kernel_rfl
theorem q12TmK_run (es : Nat → TypeId) : sumB env l11TmK 1000 1000 tabs es q12TmK = true := by kernel_rfl
theorem q13TmK_run (es : Nat → TypeId) : sumB env l12TmK 1000 1000 tabs es q13TmK = true := by kernel_rfl
theorem q14TmK_run (es : Nat → TypeId) : sumB env l13TmK 1000 1000 tabs es q14TmK = true := by kernel_rfl
theorem q15TmK_run (es : Nat → TypeId) : sumB env l14TmK 1000 1000 tabs es q15TmK = true := by kernel_rfl
end Go.Proofs.YtkdcpnfbpplhdaaDoor
