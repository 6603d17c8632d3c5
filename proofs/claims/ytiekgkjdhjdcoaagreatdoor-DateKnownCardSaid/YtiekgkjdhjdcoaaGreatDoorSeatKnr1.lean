/- The seat: DateKnown: they were run so (1). -/
import Derived.Test.YtiekgkjdhjdcoaaGreatDoorSeatKnd
namespace Go.Proofs.YtiekgkjdhjdcoaaGreatDoor
open Go Go.Ev
set_option maxRecDepth 100000
theorem q1SeatKn_run (es : Nat → TypeId) : sumB env libM 6000 1000 tabsR es q1SeatKn = true := by kernel_rfl
end Go.Proofs.YtiekgkjdhjdcoaaGreatDoor
