/- The seat: DateKnown: they were run so (2). -/
import Derived.Test.YtiekgkjdhjdcoaaGreatDoorSeatKnd
namespace Go.Proofs.YtiekgkjdhjdcoaaGreatDoor
open Go Go.Ev
set_option maxRecDepth 100000
theorem q2SeatKn_run (es : Nat → TypeId) : sumB env l1SeatKn 6000 1000 tabsR es q2SeatKn = true := by kernel_rfl
end Go.Proofs.YtiekgkjdhjdcoaaGreatDoor
