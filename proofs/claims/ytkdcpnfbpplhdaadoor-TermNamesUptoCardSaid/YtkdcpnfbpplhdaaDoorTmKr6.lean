/- The seat: stage 2's known(): they were run so (6). -/
import Derived.Test.YtkdcpnfbpplhdaaDoorTmKd
namespace Go.Proofs.YtkdcpnfbpplhdaaDoor
open Go Go.Ev
set_option maxRecDepth 100000
theorem q26TmK_run (es : Nat → TypeId) : sumB env l25TmK 1000 1000 tabs es q26TmK = true := by kernel_rfl
end Go.Proofs.YtkdcpnfbpplhdaaDoor
