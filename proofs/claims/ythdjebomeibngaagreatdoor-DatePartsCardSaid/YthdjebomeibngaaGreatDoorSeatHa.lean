/- The seat: DateParts: what the project answers, of dates that are good. -/
import Derived.Test.YthdjebomeibngaaGreatDoorSeatV
namespace Go.Proofs.YthdjebomeibngaaGreatDoor
open Go Go.RowKit Go.DayM Go.Ev
set_option maxRecDepth 100000
set_option maxHeartbeats 2000000
abbrev AddIs (y m d n Y M D E : Int) : Prop := ∀ w, Ahead w → Calls Tryz.prog 30 #[.agg #[.int .i64 y, .int .i64 m, .int .i64 d], .int .i64 n] w fun e w' => e = .returned (.tuple #[.agg #[.int .i64 Y, .int .i64 M, .int .i64 D], .int .i64 E]) ∧ Below w.heap.size w w'
abbrev SinceIs (y m d y' m' d' N D E : Int) : Prop := ∀ w, Ahead w → Calls Tryz.prog 31 #[.agg #[.int .i64 y, .int .i64 m, .int .i64 d], .agg #[.int .i64 y', .int .i64 m', .int .i64 d']] w fun e w' => e = .returned (.tuple #[.int .i64 N, .int .i64 D, .int .i64 E]) ∧ Below w.heap.size w w'
abbrev DayIs (y m d n E : Int) : Prop := ∀ w, Ahead w → Calls Tryz.prog 19 #[.agg #[.int .i64 y, .int .i64 m, .int .i64 d]] w fun e w' => e = .returned (.tuple #[.int .i64 n, .int .i64 E]) ∧ Below w.heap.size w w'
theorem mo_in (k : Int) : inY k * 12 + inM k - 1 = k := by unfold inY inM; omega
theorem good_in {k d : Int} (k1 : -119988 ≤ k) (k2 : k ≤ 119999) (d1 : 1 ≤ d) (d2 : d ≤ 31) : good (inY k) (inM k) (inD k d) = true := by
  have y := inY_bd k1 k2
  have m := inM_bd k
  have e := inD_bd (k := k) d1 d2
  rw [good_iff]
  exact ⟨y.1, y.2, m.1, m.2, e.1, e.2.2⟩
theorem good_31 {y m d : Int} (h : good y m d = true) : d ≤ 31 := by
  obtain ⟨_, _, m1, m2, _, h6⟩ := (good_iff y m d).1 h
  have := da_step y m m1 m2
  omega
theorem add_long' {y m d n : Int} (hg : good y m d = true) (hn : n < -119988 - (y * 12 + m - 1) ∨ 119999 - (y * 12 + m - 1) < n) : AddIs y m d n 0 0 0 3 := by
  obtain ⟨g1, g2, m1, m2, _, _⟩ := (good_iff y m d).1 hg
  exact fun w hA => add_long y m d n w hg g1 g2 m1 m2 hA hn
theorem add_yes' {y m d n : Int} (hg : good y m d = true) (n1 : -119988 ≤ y * 12 + m - 1 + n) (n2 : y * 12 + m - 1 + n ≤ 119999) : AddIs y m d n (inY (y * 12 + m - 1 + n)) (inM (y * 12 + m - 1 + n)) (inD (y * 12 + m - 1 + n) d) 0 := by
  obtain ⟨g1, g2, m1, m2, _, _⟩ := (good_iff y m d).1 hg
  exact fun w hA => add_yes y m d n w hg g1 g2 m1 m2 hA (by omega) (by omega)
theorem day_in {k d : Int} (k1 : -119988 ≤ k) (k2 : k ≤ 119999) (d1 : 1 ≤ d) (d2 : d ≤ 31) : DayIs (inY k) (inM k) (inD k d) (dIn k d) 0 := by
  have y := inY_bd k1 k2
  have m := inM_bd k
  have e := inD_bd (k := k) d1 d2
  exact fun w hA => day_yes _ _ _ w (good_in k1 k2 d1 d2) y.1 y.2 m.1 m.2 e.1 e.2.1 hA
theorem day_yes' {y m d : Int} (hg : good y m d = true) : DayIs y m d (dayOf y m d) 0 := by
  obtain ⟨g1, g2, m1, m2, d1, _⟩ := (good_iff y m d).1 hg
  exact fun w hA => day_yes y m d w hg g1 g2 m1 m2 d1 (good_31 hg) hA
theorem rule' {y m d y' m' d' : Int} (hg : good y m d = true) (hg' : good y' m' d' = true) (h : dayOf y' m' d' < dayOf y m d) : SinceIs y m d y' m' d' 0 0 7 := by
  obtain ⟨g1, g2, m1, m2, d1, _⟩ := (good_iff y m d).1 hg
  obtain ⟨g1', g2', m1', m2', d1', _⟩ := (good_iff y' m' d').1 hg'
  exact fun w hA => since_rule y m d y' m' d' w hA hg hg' g1 g2 m1 m2 d1 (good_31 hg) g1' g2' m1' m2' d1' (good_31 hg') h
theorem since_yes0' {y m d y' m' d' : Int} (hg : good y m d = true) (hg' : good y' m' d' = true) (h : dayOf y m d ≤ dayOf y' m' d') (h2 : dIn (y' * 12 + m' - 1) d ≤ dayOf y' m' d') : SinceIs y m d y' m' d' (y' * 12 + m' - 1 - (y * 12 + m - 1)) (dayOf y' m' d' - dIn (y' * 12 + m' - 1) d) 0 := by
  obtain ⟨g1, g2, m1, m2, d1, _⟩ := (good_iff y m d).1 hg
  obtain ⟨g1', g2', m1', m2', d1', _⟩ := (good_iff y' m' d').1 hg'
  exact fun w hA => since_yes0 y m d y' m' d' w hA hg hg' g1 g2 m1 m2 d1 (good_31 hg) g1' g2' m1' m2' d1' (good_31 hg') h h2
theorem since_yes1' {y m d y' m' d' : Int} (hg : good y m d = true) (hg' : good y' m' d' = true) (h : dayOf y m d ≤ dayOf y' m' d') (h2 : dayOf y' m' d' < dIn (y' * 12 + m' - 1) d) : SinceIs y m d y' m' d' (y' * 12 + m' - 1 - 1 - (y * 12 + m - 1)) (dayOf y' m' d' - dIn (y' * 12 + m' - 1 - 1) d) 0 := by
  obtain ⟨g1, g2, m1, m2, d1, _⟩ := (good_iff y m d).1 hg
  obtain ⟨g1', g2', m1', m2', d1', _⟩ := (good_iff y' m' d').1 hg'
  exact fun w hA => since_yes1 y m d y' m' d' w hA hg hg' g1 g2 m1 m2 d1 (good_31 hg) g1' g2' m1' m2' d1' (good_31 hg') h h2
/-- The first half: what is added in two steps is what is added in one, and counts back. -/
theorem parts_one {y m d : Int} (a n : Int) (hg : good y m d = true) : AddIs y m d a 0 0 0 3 ∨
    (∃ Y M D : Int, AddIs y m d a Y M D 0 ∧ (d ≤ 28 → (∃ Z P Q E : Int, AddIs Y M D n Z P Q E ∧ AddIs y m d (a + n) Z P Q E) ∧ (0 ≤ a → SinceIs y m d Y M D a 0 0))) := by
  obtain ⟨g1, g2, m1, m2, d1, _⟩ := (good_iff y m d).1 hg
  by_cases hk : -119988 ≤ y * 12 + m - 1 + a ∧ y * 12 + m - 1 + a ≤ 119999
  · right
    refine ⟨_, _, _, add_yes' hg hk.1 hk.2, fun h28 => ?_⟩
    have e : inD (y * 12 + m - 1 + a) d = d := by
      have b := inM_bd (y * 12 + m - 1 + a)
      have l := len_bd (inY (y * 12 + m - 1 + a)) (inM (y * 12 + m - 1 + a)) b.1 b.2
      unfold inD
      rw [if_pos (by omega)]
    have hx := good_in hk.1 hk.2 d1 (good_31 hg)
    have hm := mo_in (y * 12 + m - 1 + a)
    rw [e] at hx ⊢
    constructor
    · by_cases hn : -119988 ≤ y * 12 + m - 1 + a + n ∧ y * 12 + m - 1 + a + n ≤ 119999
      · refine ⟨_, _, _, _, add_yes' hx (by omega) (by omega), ?_⟩
        rw [hm, Int.add_assoc]
        exact add_yes' hg (by omega) (by omega)
      · exact ⟨_, _, _, _, add_long' hx (by omega), add_long' hg (by omega)⟩
    · intro ha
      have ed : dIn (y * 12 + m - 1 + a) d = dayOf (inY (y * 12 + m - 1 + a)) (inM (y * 12 + m - 1 + a)) d := by unfold dIn; rw [e]
      have hle : dayOf y m d ≤ dayOf (inY (y * 12 + m - 1 + a)) (inM (y * 12 + m - 1 + a)) d := by
        rw [dayOf_ms m1 m2, dayOf_ms (inM_bd _).1 (inM_bd _).2, hm]
        have := ms_step (y * 12 + m - 1) a.toNat
        have ea : (a.toNat : Int) = a := by omega
        rw [ea] at this
        omega
      have h := since_yes0' hg hx hle (by rw [hm, ed]; exact Int.le_refl _)
      rw [hm, ed, Int.sub_self, show y * 12 + m - 1 + a - (y * 12 + m - 1) = a by omega] at h
      exact h
  · exact .inl (add_long' hg (by omega))
/-- The second half: the greatest number of months. -/
theorem parts_two {y m d y' m' d' : Int} (hg : good y m d = true) (hg' : good y' m' d' = true) :
    (SinceIs y m d y' m' d' 0 0 7 ∧ ∃ N D : Int, SinceIs y' m' d' y m d N D 0) ∨
    (∃ k r Y M D p : Int, 0 ≤ k ∧ k ≤ 239987 ∧ 0 ≤ r ∧ SinceIs y m d y' m' d' k r 0 ∧ AddIs y m d k Y M D 0 ∧ DayIs Y M D p 0 ∧ DayIs y' m' d' (p + r) 0 ∧ -10000000 ≤ p ∧ p + r ≤ 10000000 ∧
      (AddIs y m d (k + 1) 0 0 0 3 ∨ ∃ Y' M' D' q : Int, AddIs y m d (k + 1) Y' M' D' 0 ∧ DayIs Y' M' D' q 0 ∧ p + r < q)) := by
  obtain ⟨g1, g2, m1, m2, d1, _⟩ := (good_iff y m d).1 hg
  obtain ⟨g1', g2', m1', m2', d1', _⟩ := (good_iff y' m' d').1 hg'
  have d2 := good_31 hg
  rcases Int.lt_or_le (dayOf y' m' d') (dayOf y m d) with h | h
  · left
    refine ⟨rule' hg hg' h, ?_⟩
    rcases Int.lt_or_le (dayOf y m d) (dIn (y * 12 + m - 1) d') with h2 | h2
    · exact ⟨_, _, since_yes1' hg' hg (by omega) h2⟩
    · exact ⟨_, _, since_yes0' hg' hg (by omega) h2⟩
  · right
    have hle := mo_le hg hg' m1 m2 m1' m2' d1 h
    have b' := day_bd g1' g2' m1' m2' d1' (good_31 hg')
    rcases Int.lt_or_le (dayOf y' m' d') (dIn (y' * 12 + m' - 1) d) with h2 | h2
    · have hl := mo_less hg hg' m1 m2 m1' m2' d1 h h2
      have bk1 : -119988 ≤ y' * 12 + m' - 1 - 1 := by omega
      have bk2 : y' * 12 + m' - 1 - 1 ≤ 119999 := by omega
      have e : y * 12 + m - 1 + (y' * 12 + m' - 1 - 1 - (y * 12 + m - 1)) = y' * 12 + m' - 1 - 1 := by omega
      have ha := add_yes' (n := y' * 12 + m' - 1 - 1 - (y * 12 + m - 1)) hg (by omega) (by omega)
      rw [e] at ha
      have hm : dIn (y' * 12 + m' - 1 - 1) d ≤ dayOf y' m' d' := by
        rw [dIn_ms, dayOf_ms m1' m2']
        have l := ms_lt (show y' * 12 + m' - 1 - 1 < y' * 12 + m' - 1 by omega)
        have := inD_bd (k := y' * 12 + m' - 1 - 1) d1 d2
        omega
      have bI := inY_bd bk1 bk2
      have bM := inM_bd (y' * 12 + m' - 1 - 1)
      have bD := inD_bd (k := y' * 12 + m' - 1 - 1) d1 d2
      have b1 := day_bd bI.1 bI.2 bM.1 bM.2 bD.1 bD.2.1
      have hd := day_yes' hg'
      have es : dIn (y' * 12 + m' - 1 - 1) d + (dayOf y' m' d' - dIn (y' * 12 + m' - 1 - 1) d) = dayOf y' m' d' := by omega
      rw [← es] at hd
      refine ⟨_, _, _, _, _, dIn (y' * 12 + m' - 1 - 1) d, by omega, by omega, by omega, since_yes1' hg hg' h h2, ha, day_in bk1 bk2 d1 d2, hd, by (show -10000000 ≤ dayOf _ _ _; omega), by omega, .inr ?_⟩
      have e1 : y * 12 + m - 1 + (y' * 12 + m' - 1 - 1 - (y * 12 + m - 1) + 1) = y' * 12 + m' - 1 := by omega
      have ha1 := add_yes' (n := y' * 12 + m' - 1 - 1 - (y * 12 + m - 1) + 1) hg (by omega) (by omega)
      rw [e1] at ha1
      exact ⟨_, _, _, _, ha1, day_in (by omega) (by omega) d1 d2, by omega⟩
    · have bk1 : -119988 ≤ y' * 12 + m' - 1 := by omega
      have bk2 : y' * 12 + m' - 1 ≤ 119999 := by omega
      have e : y * 12 + m - 1 + (y' * 12 + m' - 1 - (y * 12 + m - 1)) = y' * 12 + m' - 1 := by omega
      have ha := add_yes' (n := y' * 12 + m' - 1 - (y * 12 + m - 1)) hg (by omega) (by omega)
      rw [e] at ha
      have bI := inY_bd bk1 bk2
      have bM := inM_bd (y' * 12 + m' - 1)
      have bD := inD_bd (k := y' * 12 + m' - 1) d1 d2
      have b1 := day_bd bI.1 bI.2 bM.1 bM.2 bD.1 bD.2.1
      have hd := day_yes' hg'
      have es : dIn (y' * 12 + m' - 1) d + (dayOf y' m' d' - dIn (y' * 12 + m' - 1) d) = dayOf y' m' d' := by omega
      rw [← es] at hd
      refine ⟨_, _, _, _, _, dIn (y' * 12 + m' - 1) d, by omega, by omega, by omega, since_yes0' hg hg' h h2, ha, day_in bk1 bk2 d1 d2, hd, by (show -10000000 ≤ dayOf _ _ _; omega), by omega, ?_⟩
      have e1 : y * 12 + m - 1 + (y' * 12 + m' - 1 - (y * 12 + m - 1) + 1) = y' * 12 + m' - 1 + 1 := by omega
      by_cases hk : y' * 12 + m' - 1 + 1 ≤ 119999
      · have ha1 := add_yes' (n := y' * 12 + m' - 1 - (y * 12 + m - 1) + 1) hg (by omega) (by omega)
        rw [e1] at ha1
        refine .inr ⟨_, _, _, _, ha1, day_in (by omega) hk d1 d2, ?_⟩
        rw [es, dIn_ms, dayOf_ms m1' m2']
        have l := ms_succ (y' * 12 + m' - 1)
        rw [(in_mo m1' m2').1, (in_mo m1' m2').2] at l
        have := inD_bd (k := y' * 12 + m' - 1 + 1) d1 d2
        have := good_len hg'
        omega
      · exact .inl (add_long' hg (by omega))
end Go.Proofs.YthdjebomeibngaaGreatDoor
