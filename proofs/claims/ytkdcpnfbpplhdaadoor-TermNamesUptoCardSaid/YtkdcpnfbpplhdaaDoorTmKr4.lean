/- The seat: stage 2's known(): they were run so (4). -/
import Derived.Test.YtkdcpnfbpplhdaaDoorTmKd
namespace Go.Proofs.YtkdcpnfbpplhdaaDoor
open Go Go.Ev
set_option maxRecDepth 100000
theorem q16TmK_run (es : Nat → TypeId) : sumB env l15TmK 1000 1000 tabs es q16TmK = true := by kernel_rfl
theorem q17TmK_run (es : Nat → TypeId) : sumB env l16TmK 1000 1000 tabs es q17TmK = true := by kernel_rfl
theorem q18TmK_run (es : Nat → TypeId) : sumB env l17TmK 1000 1000 tabs es q18TmK = true := by kernel_rfl
theorem q19TmK_run (es : Nat → TypeId) : sumB env l18TmK 1000 1000 tabs es q19TmK = true := by kernel_rfl
theorem q20TmK_run (es : Nat → TypeId) : sumB env l19TmK 1000 1000 tabs es q20TmK = true := by kernel_rfl
end Go.Proofs.YtkdcpnfbpplhdaaDoor
