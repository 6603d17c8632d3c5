/- Stage 4's seat: facts of its types: records may be keys. -/
import Derived.Test.YtimlgclejaoboaaGreatDoorChecked
import Derived.DeepKeys4
import Derived.Maps.Keyed
import Derived.ChangeKeysEq
import Derived.KernelRfl
namespace Go.Proofs.YtimlgclejaoboaaGreatDoor
open Go Go.Maps
set_option maxRecDepth 100000
theorem recLaid : laidOutB Tryz.prog = true := by kernel_rfl
theorem cells129 : Tryz.prog.cellsOf 129 = 3 := by kernel_rfl
theorem cells3 : Tryz.prog.cellsOf 3 = 1 := by kernel_rfl
theorem keyType129 : Tryz.prog.keyType 129 = true := by kernel_rfl
theorem keyTypeAt129 : Tryz.prog.keyTypeAt 9 129 = true := by kernel_rfl
theorem size129 : Nat.blt 129 Tryz.prog.types.size = true := by kernel_rfl
theorem wide129 : (match Tryz.prog.underlying 129 with | some (.array _ _) | some (.struct _) => true | _ => false) = true := by rw [Tryz.underlying129]
theorem recKeyed : Keyed Tryz.prog 129 := Keyed.of_law (deep_law_laid recLaid (m := 9) (by decide) (by have h := size129; rw [Nat.blt_eq] at h; exact h) keyTypeAt129 wide129)
end Go.Proofs.YtimlgclejaoboaaGreatDoor
