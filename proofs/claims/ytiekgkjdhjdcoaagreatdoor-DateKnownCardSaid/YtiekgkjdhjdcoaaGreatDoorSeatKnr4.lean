/- The seat: DateKnown: they were run so (4). -/
import Derived.Test.YtiekgkjdhjdcoaaGreatDoorSeatKnd
namespace Go.Proofs.YtiekgkjdhjdcoaaGreatDoor
open Go Go.Ev
set_option maxRecDepth 100000
theorem q4SeatKn_run (es : Nat → TypeId) : sumB env l3SeatKn 6000 1000 tabsR es q4SeatKn = true := by kernel_rfl
end Go.Proofs.YtiekgkjdhjdcoaaGreatDoor
