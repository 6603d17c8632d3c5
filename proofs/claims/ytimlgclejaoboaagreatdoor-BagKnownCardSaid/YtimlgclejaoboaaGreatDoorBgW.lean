/- Stage 4's seat: BagKnown's closed call returns true. -/
import Derived.Test.YtimlgclejaoboaaGreatDoorBgV
namespace Go.Proofs.YtimlgclejaoboaaGreatDoor
open Go Go.Ev
set_option maxRecDepth 100000
theorem fnOK22 : FnOK Tryz.prog 22 Tryz.f22 := ⟨Tryz.func22, by kernel_rfl, by kernel_rfl⟩
noncomputable def lib1 : Lib := libC lib0 tabs [(22, [], .bool true)]
theorem lib1_ok : LibOK Tryz.prog env lib1 := libC_ok lib0_ok (fun t ht => (tabs_below 8 (Nat.le_refl _) t ht).1) fun f args v h => by
  simp only [List.mem_cons, List.not_mem_nil, or_false, Prod.mk.injEq] at h
  obtain ⟨rfl, rfl, rfl⟩ := h
  exact ⟨rfl, rfl, ⟨_, fnOK22⟩, fun w hw => known_any w hw⟩
theorem c15 : answers (evCall env lib1 100000 1000 15 [] st) (.bool true) = true := by kernel_rfl
theorem law_known (w : World) (hw : TabsIn tabs w) : Calls Tryz.prog 15 #[] w fun e w' => e = .returned (.bool true) ∧ RowKit.Below w.heap.size w w' :=
  run_ok0 env_ok lib1_ok (tabs_below 1000 (by decide)) (by show (8 : Nat) ≤ 1000; decide) (Nat.le_refl _) rfl (answers_eq c15) hw
end Go.Proofs.YtimlgclejaoboaaGreatDoor
#print axioms Go.Proofs.YtimlgclejaoboaaGreatDoor.law_known
