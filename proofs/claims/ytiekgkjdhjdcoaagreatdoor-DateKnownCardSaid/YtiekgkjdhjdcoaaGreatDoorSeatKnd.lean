/- The seat: DateKnown: calls that are run by themselves, and what is told of them. -/
import Derived.Test.YtiekgkjdhjdcoaaGreatDoorEvSum
import Derived.Test.YtiekgkjdhjdcoaaGreatDoorSeatTb
namespace Go.Proofs.YtiekgkjdhjdcoaaGreatDoor
open Go Go.Ev
set_option maxRecDepth 100000
def q1SeatKn : Sum := ⟨45, [(.int .i64 (4)), (.int .i64 (5))], 1028, [], (.tuple #[(.slice (some ⟨1029, 0, none⟩) 1 (big + 1)), (.int .i64 (0))]), [(1029, some (.cells [(.int .i64 (5))] 49 true true))], 1030⟩
noncomputable def l1SeatKn : Lib := libE libM tabsR 1000 q1SeatKn
def q2SeatKn : Sum := ⟨62, [(.string ⟨#[116, 104, 101, 32, 50, 32, 116, 117, 101, 32, 111, 102, 32, 101, 118, 101, 114, 121, 32, 49, 32, 109, 111, 110, 116, 104, 115, 32, 102, 114, 111, 109, 32, 50, 48, 50, 54, 45, 48, 49, 45, 48, 49]⟩)], 1031, [], (.tuple #[(.agg #[(.int .i64 (3)), (.int .i64 (9497)), (.int .i64 (1)), (.int .i64 (1)), (.int .i64 (2))]), (.int .i64 (0))]), [], 1062⟩
noncomputable def l2SeatKn : Lib := libE l1SeatKn tabsR 1000 q2SeatKn
def q3SeatKn : Sum := ⟨51, [(.agg #[(.slice (some ⟨1066, 0, none⟩) 1 1), (.slice none 0 0)]), (.int .i64 (9811))], 1067, [(1066, (.cells [(.int .i64 (3)), (.int .i64 (9497)), (.int .i64 (1)), (.int .i64 (1)), (.int .i64 (2))] 73 false true))], (.tuple #[(.int .i64 (9838)), (.int .i64 (0))]), [], 1225⟩
noncomputable def l3SeatKn : Lib := libE l2SeatKn tabsR 1000 q3SeatKn
def q4SeatKn : Sum := ⟨62, [(.string ⟨#[116, 104, 101, 32, 50, 32, 116, 117, 101, 32, 111, 102, 32, 101, 118, 101, 114, 121, 32, 48, 49, 32, 109, 111, 110, 116, 104, 115, 32, 102, 114, 111, 109, 32, 50, 48, 50, 54, 45, 48, 49, 45, 48, 49]⟩)], 1225, [], (.tuple #[(.agg #[(.int .i64 (0)), (.int .i64 (0)), (.int .i64 (0)), (.int .i64 (0)), (.int .i64 (0))]), (.int .i64 (4))]), [], 1256⟩
noncomputable def l4SeatKn : Lib := libE l3SeatKn tabsR 1000 q4SeatKn
noncomputable def lSeatKn : Lib := l4SeatKn
end Go.Proofs.YtiekgkjdhjdcoaaGreatDoor
