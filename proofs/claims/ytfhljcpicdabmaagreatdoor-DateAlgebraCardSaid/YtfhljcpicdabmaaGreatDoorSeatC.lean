/- The seat: the interpreter with the ways of spans told; closed calls. -/
import Derived.Test.YtfhljcpicdabmaaGreatDoorSeatB
import Derived.Test.YtfhljcpicdabmaaGreatDoorSeatW
namespace Go.Proofs.YtfhljcpicdabmaaGreatDoor
open Go Go.Ev
set_option maxRecDepth 100000

def I (n : Int) : Value := .int .i64 n
def aheadL : List Int := [0, 31, 59, 90, 120, 151, 181, 212, 243, 273, 304, 334, 365]
def tabs : List Tab := [intTab 0 .i64 aheadL, intTab 3 .u64 Lib.pow10Tab]
noncomputable def st (es : Nat → TypeId) : St := ⟨layT tabs es, 1000⟩

def wayE (args : List Value) : Option Value :=
  match args with
  | [.agg x, .agg y] =>
    match x.toList, y.toList with
    | [.int .i64 a, .int .i64 b], [.int .i64 c, .int .i64 d] => cond (decide (a < b) && decide (c < d)) (some (.int .i64 (wayL a b c d))) none
    | _, _ => none
  | _ => none

theorem fnOK110 : FnOK Tryz.prog 110 Tryz.f110 := ⟨Tryz.func110, by kernel_rfl, by kernel_rfl⟩

theorem wayE_ok (args : List Value) (v : Value) (h : wayE args = some v) : plainV v = true ∧ args.all plainV = true ∧ ∀ w, Calls Tryz.prog 110 args.toArray w fun e w' => e = .returned v ∧ RowKit.Below w.heap.size w w' := by
  unfold wayE at h
  split at h
  · rename_i x y
    split at h
    · rename_i a b c d h1 h2
      have e1 : x = #[.int .i64 a, .int .i64 b] := Array.ext' h1
      have e2 : y = #[.int .i64 c, .int .i64 d] := Array.ext' h2
      subst e1; subst e2
      rcases cond_some h with ⟨hb, h⟩ | ⟨_, h⟩
      · rw [Bool.and_eq_true] at hb
        cases h
        exact ⟨rfl, rfl, fun w => way_any a b c d w (of_decide_eq_true hb.1) (of_decide_eq_true hb.2)⟩
      · cases h
    · cases h
  · cases h

noncomputable def lib1 : Lib := libF lib 110 wayE
theorem lib1_ok : LibOK Tryz.prog env lib1 := libF_ok lib_ok ⟨_, fnOK110⟩ wayE_ok
theorem c114 (es : Nat → TypeId) : answers (evCall env lib1 1000 1000 114 [I 2, I 12] (st es)) (I 448) = true := by kernel_rfl

theorem fnOK114 : FnOK Tryz.prog 114 Tryz.f114 := ⟨Tryz.func114, by kernel_rfl, by kernel_rfl⟩

theorem tabs_small : ∀ t ∈ tabs, t.1 < 8 := by
  intro t ht
  simp only [tabs, List.mem_cons, List.not_mem_nil, or_false] at ht
  rcases ht with rfl | rfl <;> simp [intTab]

theorem tabs_plain : ∀ t ∈ tabs, t.2.all plain1 = true := by
  intro t ht
  simp only [tabs, List.mem_cons, List.not_mem_nil, or_false] at ht
  rcases ht with rfl | rfl <;> rfl

theorem tabs_below (fl : Nat) (h : 8 ≤ fl) : ∀ t ∈ tabs, t.1 < fl ∧ t.1 < 1000000 ∧ t.2.all plain1 = true := fun t ht => by
  have := tabs_small t ht
  exact ⟨by omega, by omega, tabs_plain t ht⟩

noncomputable def lib2 : Lib := libC lib1 tabs [(114, [I 2, I 12], I 448)]
theorem lib2_ok : LibOK Tryz.prog env lib2 := by
  refine libC_ok lib1_ok tabs_small fun f args v h => ?_
  rw [List.mem_singleton] at h
  cases h
  exact ⟨rfl, rfl, ⟨_, fnOK114⟩, fun w hw => run_ok env_ok lib1_ok (tabs_below 1000 (by decide)) (by show (8 : Nat) ≤ 1000; decide) (Nat.le_refl _) rfl (fun es => answers_eq (c114 es)) hw⟩

end Go.Proofs.YtfhljcpicdabmaaGreatDoor
