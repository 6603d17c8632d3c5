/- The seat: stage 2's known(): they were run so (5). -/
import Derived.Test.YtkdcpnfbpplhdaaDoorTmKd
namespace Go.Proofs.YtkdcpnfbpplhdaaDoor
open Go Go.Ev
set_option maxRecDepth 100000
theorem q21TmK_run (es : Nat → TypeId) : sumB env l20TmK 1000 1000 tabs es q21TmK = true := by kernel_rfl
theorem q22TmK_run (es : Nat → TypeId) : sumB env l21TmK 1000 1000 tabs es q22TmK = true := by kernel_rfl
theorem q23TmK_run (es : Nat → TypeId) : sumB env l22TmK 1000 1000 tabs es q23TmK = true := by kernel_rfl
theorem q24TmK_run (es : Nat → TypeId) : sumB env l23TmK 1000 1000 tabs es q24TmK = true := by kernel_rfl
theorem q25TmK_run (es : Nat → TypeId) : sumB env l24TmK 1000 1000 tabs es q25TmK = true := by kernel_rfl
end Go.Proofs.YtkdcpnfbpplhdaaDoor
