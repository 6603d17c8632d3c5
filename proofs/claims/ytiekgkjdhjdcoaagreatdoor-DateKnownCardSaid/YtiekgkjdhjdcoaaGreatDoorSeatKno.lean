/- The seat: DateKnown: what is told is so. -/
import Derived.Test.YtiekgkjdhjdcoaaGreatDoorSeatKnr1
import Derived.Test.YtiekgkjdhjdcoaaGreatDoorSeatKnr2
import Derived.Test.YtiekgkjdhjdcoaaGreatDoorSeatKnr3
import Derived.Test.YtiekgkjdhjdcoaaGreatDoorSeatKnr4
namespace Go.Proofs.YtiekgkjdhjdcoaaGreatDoor
open Go Go.Ev
set_option maxRecDepth 100000
theorem tabsSeatKn : ∀ t ∈ tabsR, t.1 < env.G ∧ t.1 < 1000000 := by
  intro t ht
  simp only [tabsR, List.mem_cons, List.not_mem_nil, or_false] at ht
  rcases ht with rfl | rfl | rfl
  all_goals exact ⟨by decide, by decide⟩
theorem l1SeatKn_ok : LibOK Tryz.prog env l1SeatKn := libE_ok env_ok libM_ok libM_ok tabsSeatKn (by decide) (by kernel_rfl) q1SeatKn_run
theorem l2SeatKn_ok : LibOK Tryz.prog env l2SeatKn := libE_ok env_ok l1SeatKn_ok l1SeatKn_ok tabsSeatKn (by decide) (by kernel_rfl) q2SeatKn_run
theorem l3SeatKn_ok : LibOK Tryz.prog env l3SeatKn := libE_ok env_ok l2SeatKn_ok l2SeatKn_ok tabsSeatKn (by decide) (by kernel_rfl) q3SeatKn_run
theorem l4SeatKn_ok : LibOK Tryz.prog env l4SeatKn := libE_ok env_ok l3SeatKn_ok l3SeatKn_ok tabsSeatKn (by decide) (by kernel_rfl) q4SeatKn_run
theorem lSeatKn_ok : LibOK Tryz.prog env lSeatKn := l4SeatKn_ok
end Go.Proofs.YtiekgkjdhjdcoaaGreatDoor
