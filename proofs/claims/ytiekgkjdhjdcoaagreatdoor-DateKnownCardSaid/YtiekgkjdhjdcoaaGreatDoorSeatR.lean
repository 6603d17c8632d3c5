/- The seat: the interpreter with more told: strings.Count at one byte, the search for a byte; the table of weekdays. -/
import Derived.Test.YtiekgkjdhjdcoaaGreatDoorSeatC
import Derived.Test.YtiekgkjdhjdcoaaGreatDoorSeatRp
namespace Go.Proofs.YtiekgkjdhjdcoaaGreatDoor
open Go Go.Ev
set_option maxRecDepth 100000

theorem below_same {w w' : World} (h : w' = w) : RowKit.Below w.heap.size w w' := by rw [h]; exact RowKit.Below.refl _ _

def cntE (args : List Value) : Option Value :=
  match args with
  | [.string s, .string t] => match t.data.toList with | [c] => some (.int .i64 (Lib.countByte s.data.toList c)) | _ => none
  | _ => none

def idxE (args : List Value) : Option Value :=
  match args with
  | [.string s, .int .u8 c] => some (.int .i64 (Lib.indexByte s.data.toList c.toNat.toUInt8))
  | _ => none

theorem fnOK233 : FnOK Tryz.prog 233 Tryz.f233 := ⟨Tryz.func233, by kernel_rfl, by kernel_rfl⟩
theorem fnOK258 : FnOK Tryz.prog 258 Tryz.f258 := ⟨Tryz.func258, by kernel_rfl, by kernel_rfl⟩

theorem cntE_ok (args : List Value) (v : Value) (h : cntE args = some v) : plainV v = true ∧ args.all plainV = true ∧ ∀ w, Calls Tryz.prog 233 args.toArray w fun e w' => e = .returned v ∧ RowKit.Below w.heap.size w w' := by
  unfold cntE at h
  split at h
  · rename_i s t
    split at h
    · rename_i c hc
      cases h
      have e : t = ⟨#[c]⟩ := by
        have : t.data = #[c] := Array.ext' hc
        cases t
        simp only at this
        rw [this]
      subst e
      exact ⟨rfl, rfl, fun w => (Any.strings_Count_one Tryz.lays138 s c w).mono fun e w' ⟨he, hw⟩ => ⟨he, below_same hw⟩⟩
    · cases h
  · cases h

theorem idxE_ok (args : List Value) (v : Value) (h : idxE args = some v) : plainV v = true ∧ args.all plainV = true ∧ ∀ w, Calls Tryz.prog 258 args.toArray w fun e w' => e = .returned v ∧ RowKit.Below w.heap.size w w' := by
  unfold idxE at h
  split at h
  · rename_i s c
    cases h
    exact ⟨rfl, rfl, fun w => (Any.stringslite_IndexByte Tryz.lays217 s c w).mono fun e w' ⟨he, hw⟩ => ⟨he, below_same hw⟩⟩
  · cases h

def weekL : List Value := [.string "mon".toUTF8, .string "tue".toUTF8, .string "wed".toUTF8, .string "thu".toUTF8, .string "fri".toUTF8, .string "sat".toUTF8, .string "sun".toUTF8]
def tabsR : List Tab := [intTab 0 .i64 aheadL, (1, weekL), intTab 3 .u64 Lib.pow10Tab]
noncomputable def stR (es : Nat → TypeId) : St := ⟨layT tabsR es, 1000⟩

noncomputable def libR : Lib := libF (libF lib2 233 cntE) 258 idxE
theorem libR_ok : LibOK Tryz.prog env libR := libF_ok (libF_ok lib2_ok ⟨_, fnOK233⟩ cntE_ok) ⟨_, fnOK258⟩ idxE_ok

theorem tabsR_below (fl : Nat) (h : 8 ≤ fl) : ∀ t ∈ tabsR, t.1 < fl ∧ t.1 < 1000000 ∧ t.2.all plain1 = true := fun t ht => by
  simp only [tabsR, List.mem_cons, List.not_mem_nil, or_false] at ht
  rcases ht with rfl | rfl | rfl
  · exact ⟨by show 0 < fl; omega, by decide, rfl⟩
  · exact ⟨by show 1 < fl; omega, by decide, rfl⟩
  · exact ⟨by show 3 < fl; omega, by decide, rfl⟩

theorem tabs_of_R {w : World} (h : TabsIn tabsR w) : TabsIn tabs w := fun t ht => h t (by
  simp only [tabs, List.mem_cons, List.not_mem_nil, or_false] at ht
  simp only [tabsR, List.mem_cons, List.not_mem_nil, or_false]
  rcases ht with rfl | rfl
  · exact .inl rfl
  · exact .inr (.inr rfl))

end Go.Proofs.YtiekgkjdhjdcoaaGreatDoor
