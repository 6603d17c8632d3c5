/- The seat: DateKnown: what is told of its calls. -/
import Derived.Test.YtiekgkjdhjdcoaaGreatDoorSeatTa
import Derived.Test.YtiekgkjdhjdcoaaGreatDoorSeatD
namespace Go.Proofs.YtiekgkjdhjdcoaaGreatDoor
open Go Go.Ev
set_option maxRecDepth 100000
def modE (args : List Value) : Option Value :=
  match args with
  | [.int .i64 a, .int .i64 n] => cond (decide (-100000000 ≤ a) && (decide (a ≤ 100000000) && (decide (1 ≤ n) && decide (n ≤ 100)))) (some (.int .i64 (a % n))) none
  | _ => none
def wdE (args : List Value) : Option Value :=
  match args with
  | [.int .i64 n] => cond (decide (-4382544 ≤ n) && decide (n ≤ 2921939)) (some (.int .i64 ((n + 5) % 7))) none
  | _ => none
theorem fnOK148 : FnOK Tryz.prog 148 Tryz.f148 := ⟨Tryz.func148, by kernel_rfl, by kernel_rfl⟩
theorem fnOK85 : FnOK Tryz.prog 85 Tryz.f85 := ⟨Tryz.func85, by kernel_rfl, by kernel_rfl⟩
theorem fnOK62 : FnOK Tryz.prog 62 Tryz.f62 := ⟨Tryz.func62, by kernel_rfl, by kernel_rfl⟩
theorem modE_ok (args : List Value) (v : Value) (h : modE args = some v) : plainV v = true ∧ args.all plainV = true ∧ ∀ w, Calls Tryz.prog 148 args.toArray w fun e w' => e = .returned v ∧ RowKit.Below w.heap.size w w' := by
  unfold modE at h
  split at h
  · rename_i a n
    rcases cond_some h with ⟨hb, h⟩ | ⟨_, h⟩
    · simp only [Bool.and_eq_true, decide_eq_true_eq] at hb
      cases h
      exact ⟨rfl, rfl, fun w => (modulo_any a n w hb.1 hb.2.1 hb.2.2.1 hb.2.2.2 (by simp; omega) (by simp; omega)).mono fun e w' ⟨he, hw⟩ => ⟨he, below_same hw.symm⟩⟩
    · cases h
  · cases h
theorem wdE_ok (args : List Value) (v : Value) (h : wdE args = some v) : plainV v = true ∧ args.all plainV = true ∧ ∀ w, Calls Tryz.prog 85 args.toArray w fun e w' => e = .returned v ∧ RowKit.Below w.heap.size w w' := by
  unfold wdE at h
  split at h
  · rename_i n
    rcases cond_some h with ⟨hb, h⟩ | ⟨_, h⟩
    · simp only [Bool.and_eq_true, decide_eq_true_eq] at hb
      cases h
      exact ⟨rfl, rfl, fun w => (weekdayOf_any n w hb.1 hb.2).mono fun e w' ⟨he, hw⟩ => ⟨he, below_same hw.symm⟩⟩
    · cases h
  · cases h
noncomputable def libN : Lib := libF (libF libK 148 modE) 85 wdE
theorem libN_ok : LibOK Tryz.prog env libN := libF_ok (libF_ok libK_ok ⟨_, fnOK148⟩ modE_ok) ⟨_, fnOK85⟩ wdE_ok
theorem tabsR_small : ∀ t ∈ tabsR, t.1 < env.G := fun t ht => (tabsR_below 8 (by decide) t ht).1
theorem c114' (es : Nat → TypeId) : answers (evCall env libK 1000 1000 114 [I 4, I 5] (st es)) (I 32) = true := by kernel_rfl
theorem fnOK25 : FnOK Tryz.prog 25 Tryz.f25 := ⟨Tryz.func25, by kernel_rfl, by kernel_rfl⟩
noncomputable def libM : Lib := libC libN tabs [(114, [I 4, I 5], I 32), (25, [], .bool true)]
theorem libM_ok : LibOK Tryz.prog env libM := by
  refine libC_ok libN_ok tabs_small fun f args v h => ?_
  simp only [List.mem_cons, List.not_mem_nil, or_false] at h
  rcases h with h | h
  · cases h
    exact ⟨rfl, rfl, ⟨_, fnOK114⟩, fun w hw => run_ok env_ok libK_ok (tabs_below 1000 (by decide)) (by show (8 : Nat) ≤ 1000; decide) (Nat.le_refl _) rfl (fun es => answers_eq (c114' es)) hw⟩
  · cases h
    exact ⟨rfl, rfl, ⟨_, fnOK25⟩, fun w hw => known_any w hw⟩
end Go.Proofs.YtiekgkjdhjdcoaaGreatDoor
