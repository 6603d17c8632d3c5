/- Stage 2's seat: TermNames, walked for every input. -/
import Derived.Test.YtkdcpnfbpplhdaaDoorTmI
namespace Go.Proofs.YtkdcpnfbpplhdaaDoor
open Go Go.RowKit Go.Ev
open Go.TmM (wordR folR)
set_option maxRecDepth 100000
set_option maxHeartbeats 1000000
def TrueBelow (w : World) (e : Ending) (w' : World) : Prop := e = .returned (.bool true) ∧ Below w.heap.size w w'
def acb : List ByteArray := [⟨#[97]⟩, ⟨#[99]⟩, ⟨#[98]⟩]
theorem wordS_few : wordS 2 = ⟨#[98]⟩ ∧ wordS 3 = ⟨#[99]⟩ ∧ wordS 4 = ⟨#[100]⟩ := by
  refine ⟨?_, ?_, ?_⟩ <;> (unfold wordS; rw [TmM.wordR_succ, show (_ / 26 : Nat) = 0 from rfl, wordR]; rfl)
theorem has_acb (b : UInt8) : hasB acb ⟨#[b]⟩ = (([97] == [b]) || (([99] == [b]) || (([98] == [b]) || false))) := by
  unfold hasB acb
  simp only [List.any_cons, List.any_nil, ByteArray.toList_eq]
theorem acb_first : FirstIs acb 4 := by
  obtain ⟨e2, e3, e4⟩ := wordS_few
  have bad : ∀ j b, wordS j = ⟨#[b]⟩ → hasB acb ⟨#[b]⟩ = true → goodB acb j = false := fun j b h1 h2 => by
    unfold goodB
    rw [h1, h2, Bool.not_true, Bool.and_false]
  refine ⟨by decide, by decide, ?_, fun j h1 h2 => ?_⟩
  · unfold goodB
    rw [e4, has_acb]
    unfold nameB lettersB kwB
    rw [ByteArray.toList_eq]
    decide
  · rcases (show j = 1 ∨ j = 2 ∨ j = 3 by omega) with rfl | rfl | rfl
    · exact bad 1 97 wordS_one (by rw [has_acb]; decide)
    · exact bad 2 98 e2 (by rw [has_acb]; decide)
    · exact bad 3 99 e3 (by rw [has_acb]; decide)
theorem prev_no : nameB ⟨#[112, 114, 101, 118]⟩ = false := by
  unfold nameB kwB lettersB
  rw [ByteArray.toList_eq]
  decide
theorem tabs_one : ∀ t ∈ tabs, t.1 < 1 := fun t ht => by simp [tabs] at ht; subst ht; exact Nat.one_pos
theorem law_names (s : ByteArray) (v : Value) (l : List ByteArray) (W : World) (h : StrAt W v l) (hl : l.length ≤ 3000000) (hS : ∀ s ∈ l, s.size ≤ maxLen) (hs : s.size ≤ 9223372036854775807) (hT : TabsIn tabs W) (hW : 1 ≤ W.heap.size) : Calls Tryd.prog 3 #[.string s, v] W (TrueBelow W) := by
  obtain ⟨N, hN⟩ := first_ex l hl
  have HN := Lib.hid hN
  have HS := Lib.hid h
  have HSS := Lib.hid hS
  have HT := Lib.hid hT
  obtain ⟨A, c, rfl, _⟩ := id h
  clear h hN hS hT
  have tb : ∀ (w : World), Below W.heap.size W w → TabsIn tabs w := fun w hb => HT.out.below hb fun t ht => by have := tabs_one t ht; omega
  have k7 := name_any s W (tb W (Below.refl _ _)) hW hs
  have k8 := fun w => refName_any s w hs
  have e4 := wordS_few.2.2
  obtain ⟨b, hb⟩ : ∃ b, Hid (nameB s = b) := ⟨_, Lib.hid rfl⟩
  rw [hb.out] at k7
  go_enter Tryd.func3, Tryd.ntmps3
  go_wp2_with fail
  refine k7.mono ?_
  rintro e w1 ⟨rfl, b1⟩
  have c8 := k8 w1
  rw [hb.out] at c8
  go_wp2_with fail
  refine c8.mono ?_
  rintro e w2 ⟨rfl, b2⟩
  have d2 := b1.trans (b2.mono b1.size)
  clear k7 k8 c8
  have c9 := fresh_any _ l N w2 (HS.out.below d2 (Nat.le_refl _)) hl HSS.out (tb w2 d2) (by have := d2.size; omega) HN.out
  cases b
  all_goals
    go_wp2_with fail
    refine c9.mono ?_
    rintro e w3 ⟨rfl, b3⟩
    have d3 := d2.trans (b3.mono d2.size)
    go_wp2_with fail
    refine (refFresh_any _ l N w3 (HS.out.below d3 (Nat.le_refl _)) hl HN.out).mono ?_
    rintro e w4 ⟨rfl, b4⟩
    have d4 := d3.trans (b4.mono d3.size)
    have d5 : Below W.heap.size W (w4.alloc (.cells (acb.map Value.string).toArray 9)) := d4.alloc d4.size _
    have c9b := fresh_any (.slice (some ⟨w4.heap.size, 0, none⟩) 3 3) acb 4 (w4.alloc (.cells (acb.map Value.string).toArray 9)) (strAt_new acb w4 9) (by decide) (fun s hs => by simp [acb] at hs; rcases hs with rfl | rfl | rfl <;> (unfold maxLen; decide)) (tb _ d5) (by simp) acb_first
    rw [e4] at c9b
    go_wp2_with fail
    refine c9b.mono ?_
    rintro e w5 ⟨rfl, b5⟩
    have d6 := d5.trans (b5.mono d5.size)
    have c7 := name_any ⟨#[112, 114, 101, 118]⟩ w5 (tb w5 d6) (by have := d6.size; omega) (by decide)
    rw [prev_no] at c7
    go_wp2_with fail
    refine c7.mono ?_
    rintro e w6 ⟨rfl, b6⟩
    have d7 := d6.trans (b6.mono d6.size)
    go_wp2_with fail
    refine (known_any w6 (tb w6 d7)).mono ?_
    rintro e w7 ⟨rfl, b7⟩
    go_wp2_with fail
    go_ret
    exact ⟨rfl, d7.trans (b7.mono d7.size)⟩
end Go.Proofs.YtkdcpnfbpplhdaaDoor
