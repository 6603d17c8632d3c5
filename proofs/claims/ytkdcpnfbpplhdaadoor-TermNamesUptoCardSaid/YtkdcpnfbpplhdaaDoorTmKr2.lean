/- The seat: stage 2's known(): they were run so (2). -/
import Derived.Test.YtkdcpnfbpplhdaaDoorTmKd
namespace Go.Proofs.YtkdcpnfbpplhdaaDoor
open Go Go.Ev
set_option maxRecDepth 100000
theorem q6TmK_run (es : Nat → TypeId) : sumB env l5TmK 1000 1000 tabs es q6TmK = true := by kernel_rfl
theorem q7TmK_run (es : Nat → TypeId) : sumB env l6TmK 1000 1000 tabs es q7TmK = true := by kernel_rfl
theorem q8TmK_run (es : Nat → TypeId) : sumB env l7TmK 1000 1000 tabs es q8TmK = true := by kernel_rfl
theorem q9TmK_run (es : Nat → TypeId) : sumB env l8TmK 1000 1000 tabs es q9TmK = true := by kernel_rfl
theorem q10TmK_run (es : Nat → TypeId) : sumB env l9TmK 1000 1000 tabs es q10TmK = true := by kernel_rfl
end Go.Proofs.YtkdcpnfbpplhdaaDoor
