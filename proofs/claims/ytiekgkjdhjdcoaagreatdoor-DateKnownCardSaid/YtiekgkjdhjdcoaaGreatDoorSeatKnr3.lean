/- The seat: DateKnown: they were run so (3). -/
import Derived.Test.YtiekgkjdhjdcoaaGreatDoorSeatKnd
namespace Go.Proofs.YtiekgkjdhjdcoaaGreatDoor
open Go Go.Ev
set_option maxRecDepth 100000
theorem q3SeatKn_run (es : Nat → TypeId) : sumB env l2SeatKn 6000 1000 tabsR es q3SeatKn = true := by kernel_rfl
end Go.Proofs.YtiekgkjdhjdcoaaGreatDoor
