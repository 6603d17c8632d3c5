/- The seat: stage 2's known(): they were run so (1). -/
import Derived.Test.YtkdcpnfbpplhdaaDoorTmKd
namespace Go.Proofs.YtkdcpnfbpplhdaaDoor
open Go Go.Ev
set_option maxRecDepth 100000
theorem q1TmK_run (es : Nat → TypeId) : sumB env lib0 1000 1000 tabs es q1TmK = true := by kernel_rfl
theorem q2TmK_run (es : Nat → TypeId) : sumB env l1TmK 1000 1000 tabs es q2TmK = true := by kernel_rfl
theorem q3TmK_run (es : Nat → TypeId) : sumB env l2TmK 1000 1000 tabs es q3TmK = true := by kernel_rfl
theorem q4TmK_run (es : Nat → TypeId) : sumB env l3TmK 1000 1000 tabs es q4TmK = true := by kernel_rfl
theorem q5TmK_run (es : Nat → TypeId) : sumB env l4TmK 1000 1000 tabs es q5TmK = true := by kernel_rfl
end Go.Proofs.YtkdcpnfbpplhdaaDoor
