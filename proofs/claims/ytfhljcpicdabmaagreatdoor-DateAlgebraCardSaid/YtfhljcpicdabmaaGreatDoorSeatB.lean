/- The seat: the library's functions, laid at this program. -/
import Derived.Test.YtfhljcpicdabmaaGreatDoorSeatA
import Derived.Test.YtfhljcpicdabmaaGreatDoorSeatBp
namespace Go.Proofs.YtfhljcpicdabmaaGreatDoor
open Go Go.Ev

noncomputable def lib : Lib := libS 169 205 170 3

theorem pow10_global : Tryz.prog.globalNamed "internal/strconv.uint64pow10" = some 3 := by kernel_rfl

theorem fnOK169 : FnOK Tryz.prog 169 Tryz.f169 := ⟨Tryz.func169, by kernel_rfl, by kernel_rfl⟩
theorem fnOK205 : FnOK Tryz.prog 205 Tryz.f205 := ⟨Tryz.func205, by kernel_rfl, by kernel_rfl⟩
theorem fnOK170 : FnOK Tryz.prog 170 Tryz.f170 := ⟨Tryz.func170, by kernel_rfl, by kernel_rfl⟩

theorem below_grow (w : World) (q : Nat) (os : Array Obj) : RowKit.Below w.heap.size w (Sort.grow (w.drewN q) os) :=
  ⟨rfl, rfl, rfl, by simp [Sort.grow, World.drewN], fun i hi => by
    show ((w.drewN q).heap ++ os)[i]? = _
    rw [Array.getElem?_append_left (by show i < w.heap.size; omega)]
    rfl⟩

theorem lib_ok : LibOK Tryz.prog env lib := by
  refine libS_ok (fun f h => ?_) (by show (3 : Nat) < 8; decide) (fun bk o c xs sep w h1 h2 h3 h4 h5 => ?_) (fun s c w h1 h2 => ?_) (fun n w h1 h2 h3 => ?_)
  · rcases h with rfl | rfl | rfl
    · exact ⟨_, fnOK169⟩
    · exact ⟨_, fnOK205⟩
    · exact ⟨_, fnOK170⟩
  · exact Any.strings_Join Tryz.lays156 Tryz.Builder_Extra_156 bk o c xs sep w h1 h2 h3 h4 h5
  · exact Any.strings_Repeat Tryz.lays105 Tryz.Builder_Extra_105 s c w h1 h2
  · have htab : Lib.TabIs Tryz.prog w "internal/strconv.uint64pow10" .u64 Lib.pow10Tab := by
      obtain ⟨e, fz, h⟩ := h3
      unfold Lib.TabIs World.var?
      rw [pow10_global]
      simp only [Option.bind_some, h]
    refine (Any.strconv_Itoa Tryz.laysM171 n h1 h2 w htab).mono fun e w' ⟨he, k, os, hw⟩ => ⟨he, ?_⟩
    rw [hw]
    exact below_grow w k os

end Go.Proofs.YtfhljcpicdabmaaGreatDoor
#print axioms Go.Proofs.YtfhljcpicdabmaaGreatDoor.lib_ok
