/- The seat: the specification's OfWeek. -/
import Derived.Test.YthdjebomeibngaaGreatDoorSeatZr
namespace Go.Proofs.YthdjebomeibngaaGreatDoor
open Go Go.RowKit Go.DayM
set_option maxRecDepth 100000
set_option maxHeartbeats 4000000
theorem ofWeekR_arg (Y W D : Int) (w : World) (h : W < 0 ∨ D < 0 ∨ 7 ≤ D) : Calls Tryz.prog 29 #[.agg #[.int .i64 Y, .int .i64 W, .int .i64 D]] w fun e w' => e = .returned (.tuple #[.int .i64 0, .int .i64 2]) ∧ Below w.heap.size w w' := by
  rcases Classical.em (W < 0) with h1 | h1
  · go_enter Tryz.func29, Tryz.ntmps29
    go_wp2
    go_ret2
    exact ⟨rfl, (Below.refl _ _).alloc (Nat.le_refl _) _⟩
  · rcases Classical.em (D < 0) with h2 | h2
    · go_enter Tryz.func29, Tryz.ntmps29
      go_wp2
      go_ret2
      exact ⟨rfl, (Below.refl _ _).alloc (Nat.le_refl _) _⟩
    · have h3 : 6 < D := by omega
      go_enter Tryz.func29, Tryz.ntmps29
      go_wp2
      go_ret2
      exact ⟨rfl, (Below.refl _ _).alloc (Nat.le_refl _) _⟩
theorem ofWeekR_none (Y W D : Int) (w : World) (W0 : 0 ≤ W) (D0 : 0 ≤ D) (D6 : D < 7) (h : Y < -9999 ∨ 9999 < Y ∨ 53 < W) : Calls Tryz.prog 29 #[.agg #[.int .i64 Y, .int .i64 W, .int .i64 D]] w fun e w' => e = .returned (.tuple #[.int .i64 0, .int .i64 5]) ∧ Below w.heap.size w w' := by
  rcases Classical.em (Y < -9999) with h1 | h1
  · go_enter Tryz.func29, Tryz.ntmps29
    go_wp2
    go_ret2
    exact ⟨rfl, (Below.refl _ _).alloc (Nat.le_refl _) _⟩
  · rcases Classical.em (9999 < Y) with h2 | h2
    · go_enter Tryz.func29, Tryz.ntmps29
      go_wp2
      go_ret2
      exact ⟨rfl, (Below.refl _ _).alloc (Nat.le_refl _) _⟩
    · have h3 : 53 < W := by omega
      go_enter Tryz.func29, Tryz.ntmps29
      go_wp2
      go_ret2
      exact ⟨rfl, (Below.refl _ _).alloc (Nat.le_refl _) _⟩
theorem weekOfR_at (n Y W D : Int) (w : World) (h1 : -4382544 ≤ n) (h2 : n ≤ 2921939) (e1 : wY n = Y) (e2 : wW n = W) (e3 : wd n = D) : Calls Tryz.prog 94 #[.int .i64 n] w fun e w' => e = .returned (.agg #[.int .i64 Y, .int .i64 W, .int .i64 D]) ∧ Below w.heap.size w w' := by
  subst e1; subst e2; subst e3
  exact weekOfR_any n w h1 h2
theorem isDayR_at (n : Int) (b : Bool) (w : World) (h : isDayB n = b) : Calls Tryz.prog 77 #[.int .i64 n] w fun e w' => e = .returned (.bool b) ∧ Below w.heap.size w w' := by
  subst h
  exact isDayR_any n w
def SomeWeek (Y W D : Int) (w : World) (e : Ending) (w' : World) : Prop := ((IsWeek Y W D ∧ e = .returned (.tuple #[.int .i64 (wkC Y W D), .int .i64 0])) ∨ (¬ IsWeek Y W D ∧ e = .returned (.tuple #[.int .i64 0, .int .i64 5]))) ∧ Below w.heap.size w w'
def Until (Y W D i : Int) : Prop := IsWeek Y W D → i ≤ wkC Y W D
theorem until_step {Y W D i : Int} (h : Until Y W D i) (hn : IsWeek Y W D → i ≠ wkC Y W D) : Until Y W D (i + 1) := fun hw => by
  have := h hw
  have := hn hw
  omega
theorem until_end {Y W D : Int} (W2 : W ≤ 53) (D6 : D < 7) (h : Until Y W D (ys Y + 380)) : ¬ IsWeek Y W D := fun hw => by
  have h1 := h hw
  obtain ⟨_, f2, _⟩ := ft_bd Y
  unfold wkC at h1
  omega
theorem wk_start {Y W D : Int} (_W0 : 0 ≤ W) (D0 : 0 ≤ D) : Until Y W D (ys Y - 7) := fun hw => by
  obtain ⟨f1, _, _⟩ := ft_bd Y
  obtain ⟨hd, e1, e2, e3⟩ := hw
  have hc : -4382544 ≤ wkC Y W D ∧ wkC Y W D ≤ 2921939 := by unfold isDayB at hd; simp at hd; omega
  obtain ⟨t1, t2⟩ := th_bd hc.1 hc.2
  obtain ⟨y, m, ho⟩ := of_ex t1 t2
  have h1 := (week_bd ho).1
  rw [e2] at h1
  unfold wkC
  omega
theorem wpAny_one {P : Program} {md : Region.Mode} {ops : Array Oper} {Q : Exit → Act → World → Prop} {fuel : Nat} {listed : Array Bool} {a : Act} {w : World} {j : Nat} (hr : Region.ready md ops listed = [j]) (h : wpOp P ops Q j (wpAny P md ops Q fuel (listed.setIfInBounds j true)) a w) : wpAny P md ops Q (fuel + 1) listed a w :=
  ⟨(fun h0 => by rw [hr] at h0; cases h0), (fun i hi => by rw [hr, List.mem_singleton] at hi; subst hi; exact h)⟩
theorem wpOp_yes {P : Program} {ops : Array Oper} {Q : Exit → Act → World → Prop} {i : Nat} {o : Oper} {K : Act → World → Prop} {a : Act} {w : World} (h1 : ops[i]? = some o) (h2 : Region.wanted o (yielded ops a.tmps) = true) (h : o.wp P a w K Q) : wpOp P ops Q i K a w := by
  unfold wpOp
  simp only [h1, h2, if_true]
  exact .inl h
theorem ofWeekR_any (Y W D : Int) (w : World) (W0 : 0 ≤ W) (D0 : 0 ≤ D) (D6 : D < 7) (Y1 : -9999 ≤ Y) (Y2 : Y ≤ 9999) (W2 : W ≤ 53) : Calls Tryz.prog 29 #[.agg #[.int .i64 Y, .int .i64 W, .int .i64 D]] w (SomeWeek Y W D w) := by
  obtain ⟨r1, r2⟩ := ys_range Y1 Y2
  have e4 : dayOf Y 1 1 = ys Y := by unfold dayOf; rw [da_one]; omega
  have H4 := Lib.hid e4
  have HS := Lib.hid (wk_start (Y := Y) W0 D0)
  clear e4
  go_enter Tryz.func29, Tryz.ntmps29
  go_wp2_with fail
  refine (dayOfR_any _ _ _ _ Y1 Y2 (by omega) (by omega) (by omega) (by omega)).mono ?_
  rw [H4.out]
  rintro e w1 ⟨rfl, b1⟩
  obtain ⟨hc1, hf1⟩ := bcell b1
  have s1 : w.heap.size < w1.heap.size := by (have := b1.size; simp at this; omega)
  have k1 : Below w.heap.size w w1 := ((Below.refl _ _).alloc (Nat.le_refl _) _).trans (b1.mono (by simp))
  have hin : OneIn w Y W D w1 := ⟨by go_simp, by go_simp, by go_simp, s1, k1⟩
  have HIN := Lib.hid hin
  clear hc1 hf1 b1 k1 hin s1
  go_wp2
  go_loopw [5] (fun t wr => ∃ i : Int, ys Y - 7 ≤ i ∧ i ≤ ys Y + 380 ∧ t = .int .i64 i ∧ Until Y W D i ∧ OneIn w Y W D wr) (fun t _ => (ys Y + 380 - intOf t).toNat)
  case atStart => exact ⟨ys Y - 7, by omega, by omega, rfl, HS.out, HIN.out⟩
  case round =>
    obtain ⟨i, i1, i2, rfl, hu, a0, a1, a2, u1, k1⟩ := hrel
    have HU := Lib.hid hu
    clear hu HS HIN H4
    by_cases hlt : i < ys Y + 380
    · cases hd : isDayB i with
      | false =>
        have HD := Lib.hid hd
        go_wp2
        refine wp_region_any (by kernel_rfl) ?_
        refine wpAny_take (i := 0) (v := .int .i64 i) rfl (by kernel_rfl) (by kernel_rfl) (by kernel_rfl) (fun _ _ _ h => h) (.inl ⟨rfl, fun _ => rfl⟩) ?_
        refine wpAny_one (j := 1) (by kernel_rfl) ?_
        refine wpOp_yes rfl rfl ?_
        go_simp
        go_at_call 77
        refine (isDayR_at _ false _ hd).mono ?_
        rintro e w2 ⟨rfl, b2⟩
        obtain ⟨hcc, hff⟩ := bcell b2
        have s2 : wr.heap.size ≤ w2.heap.size := b2.size
        have k2 : Below w.heap.size w w2 := (below_drewN k1 1).trans (b2.mono (by show w.heap.size ≤ wr.heap.size; omega))
        have HSS : Hid (OneIn w Y W D w2) := ⟨by rw [hcc _ _ (by show w.heap.size < wr.heap.size; omega)]; exact a0, by rw [hcc _ _ (by show w.heap.size < wr.heap.size; omega)]; exact a1, by rw [hcc _ _ (by show w.heap.size < wr.heap.size; omega)]; exact a2, by omega, k2⟩
        clear hcc hff b2 k2
        refine wpAny_take (i := 2) (v := .bool false) rfl (by kernel_rfl) (by kernel_rfl) (by kernel_rfl) (fun _ _ _ h => h) (.inl ⟨rfl, fun _ => rfl⟩) ?_
        refine wpAny_take (i := 3) (v := undef) rfl (by kernel_rfl) (by kernel_rfl) (by kernel_rfl) (fun _ _ _ h => h) (.inr ⟨rfl, rfl⟩) ?_
        refine wpAny_take (i := 4) (v := undef) rfl (by kernel_rfl) (by kernel_rfl) (by kernel_rfl) (fun _ _ _ h => h) (.inr ⟨rfl, rfl⟩) ?_
        refine wpAny_take (i := 5) (v := undef) rfl (by kernel_rfl) (by kernel_rfl) (by kernel_rfl) (fun _ _ _ h => h) (.inr ⟨rfl, rfl⟩) ?_
        refine wpAny_take (i := 6) (v := undef) rfl (by kernel_rfl) (by kernel_rfl) (by kernel_rfl) (fun _ _ _ h => h) (.inr ⟨rfl, rfl⟩) ?_
        refine wpAny_take (i := 7) (v := .bool false) rfl (by kernel_rfl) (by kernel_rfl) (by kernel_rfl) (fun _ _ _ h => h) (.inl ⟨rfl, fun _ => rfl⟩) ?_
        refine wpAny_done (by kernel_rfl) ?_ _
        go_wp2
        go_roundw
        case rel => exact ⟨i + 1, by omega, by omega, rfl, until_step HU.out (fun hw e => by have := hw.1; rw [← e, HD.out] at this; cases this), HSS.out⟩
        case measure => simp [intOf]; omega
      | true =>
        have hb2 : -4382544 ≤ i ∧ i ≤ 2921939 := by unfold isDayB at hd; simp at hd; omega
        obtain ⟨q1, q2⟩ := hb2
        by_cases e1 : wY i = Y
        · by_cases e2 : wW i = W
          · by_cases e3 : wd i = D
            · have hi : i = wkC Y W D := week_is q1 q2 e1 e2 e3
              have his : IsWeek Y W D := by unfold IsWeek; rw [← hi]; exact ⟨hd, e1, e2, e3⟩
              have HI := Lib.hid hi
              have E1 := Lib.hid e1
              have E2 := Lib.hid e2
              have E3 := Lib.hid e3
              have HIS := Lib.hid his
              clear hi his e1 e2 e3
              go_wp2
              go_region_held3 (OneIn w Y W D)
                ((refine ⟨?_, ?_, ?_, ?_, ?_⟩ <;> (first | go_keep | omega | assumption | exact Below.drew (by assumption) | (rw [hcc _ _ (by first | exact u1 | omega)]; first | exact a0 | exact a1 | exact a2 | go_keep) | (have := hb.size; omega) | exact Below.trans (by first | assumption | exact one_below (by assumption) | exact Below.drew (by assumption)) (Below.mono (by assumption) (by first | omega | (simp; omega))))))
                (first | (go_at_call 77; refine (isDayR_at _ true _ hd).mono ?_; rintro e w' ⟨rfl, hb⟩; have hbW : Below w.heap.size w w' := Below.trans (by first | assumption | exact one_below (by assumption) | exact Below.drew (by assumption)) (hb.mono (by first | omega | (simp; done) | (simp; omega) | exact Nat.le_of_lt (one_lt (by assumption)))); obtain ⟨hcc, hff⟩ := bcell hb) | (go_at_call 94; refine (weekOfR_at _ Y W D _ q1 q2 E1.out E2.out E3.out).mono ?_; rintro e w' ⟨rfl, hb⟩; have hbW : Below w.heap.size w w' := Below.trans (by first | assumption | exact one_below (by assumption) | exact Below.drew (by assumption)) (hb.mono (by first | omega | (simp; done) | (simp; omega) | exact Nat.le_of_lt (one_lt (by assumption)))); obtain ⟨hcc, hff⟩ := bcell hb))
              have hbF : Below w.heap.size w w' := hbW
              go_wp2
              go_ret2
              exact ⟨.inl ⟨HIS.out, by exact congrArg (fun z => Ending.returned (.tuple #[.int .i64 z, .int .i64 0])) HI.out⟩, hbF⟩
            · have E1 := Lib.hid e1
              have E2 := Lib.hid e2
              have E3 := Lib.hid e3
              clear e1 e2
              obtain ⟨D', hD'⟩ : ∃ D' : Int, Hid (wd i = D') := ⟨_, Lib.hid rfl⟩
              have hne : ¬ D' = D := by rw [← hD'.out]; exact e3
              clear e3
              go_wp2
              go_region_held3 (OneIn w Y W D)
                ((refine ⟨?_, ?_, ?_, ?_, ?_⟩ <;> (first | go_keep | omega | assumption | exact Below.drew (by assumption) | (rw [hcc _ _ (by first | exact u1 | omega)]; first | exact a0 | exact a1 | exact a2 | go_keep) | (have := hb.size; omega) | exact Below.trans (by first | assumption | exact one_below (by assumption) | exact Below.drew (by assumption)) (Below.mono (by assumption) (by first | omega | (simp; omega))))))
                (first | (go_at_call 77; refine (isDayR_at _ true _ hd).mono ?_; rintro e w' ⟨rfl, hb⟩; have hbW : Below w.heap.size w w' := Below.trans (by first | assumption | exact one_below (by assumption) | exact Below.drew (by assumption)) (hb.mono (by first | omega | (simp; done) | (simp; omega) | exact Nat.le_of_lt (one_lt (by assumption)))); obtain ⟨hcc, hff⟩ := bcell hb) | (go_at_call 94; refine (weekOfR_at _ Y W D' _ q1 q2 E1.out E2.out hD'.out).mono ?_; rintro e w' ⟨rfl, hb⟩; have hbW : Below w.heap.size w w' := Below.trans (by first | assumption | exact one_below (by assumption) | exact Below.drew (by assumption)) (hb.mono (by first | omega | (simp; done) | (simp; omega) | exact Nat.le_of_lt (one_lt (by assumption)))); obtain ⟨hcc, hff⟩ := bcell hb))
              have hS : OneIn w Y W D w' := by assumption
              have HSS := Lib.hid hS
              clear hS
              go_wp2
              go_roundw
              case rel => exact ⟨i + 1, by omega, by omega, rfl, until_step HU.out (fun hw e => E3.out (by rw [e]; exact hw.2.2.2)), HSS.out⟩
              case measure => simp [intOf]; omega
          · have E1 := Lib.hid e1
            have E2 := Lib.hid e2
            clear e1
            obtain ⟨W', hW'⟩ : ∃ W' : Int, Hid (wW i = W') := ⟨_, Lib.hid rfl⟩
            have hne : ¬ W' = W := by rw [← hW'.out]; exact e2
            clear e2
            go_wp2
            go_region_held3 (OneIn w Y W D)
              ((refine ⟨?_, ?_, ?_, ?_, ?_⟩ <;> (first | go_keep | omega | assumption | exact Below.drew (by assumption) | (rw [hcc _ _ (by first | exact u1 | omega)]; first | exact a0 | exact a1 | exact a2 | go_keep) | (have := hb.size; omega) | exact Below.trans (by first | assumption | exact one_below (by assumption) | exact Below.drew (by assumption)) (Below.mono (by assumption) (by first | omega | (simp; omega))))))
              (first | (go_at_call 77; refine (isDayR_at _ true _ hd).mono ?_; rintro e w' ⟨rfl, hb⟩; have hbW : Below w.heap.size w w' := Below.trans (by first | assumption | exact one_below (by assumption) | exact Below.drew (by assumption)) (hb.mono (by first | omega | (simp; done) | (simp; omega) | exact Nat.le_of_lt (one_lt (by assumption)))); obtain ⟨hcc, hff⟩ := bcell hb) | (go_at_call 94; refine (weekOfR_at _ Y W' _ _ q1 q2 E1.out hW'.out rfl).mono ?_; rintro e w' ⟨rfl, hb⟩; have hbW : Below w.heap.size w w' := Below.trans (by first | assumption | exact one_below (by assumption) | exact Below.drew (by assumption)) (hb.mono (by first | omega | (simp; done) | (simp; omega) | exact Nat.le_of_lt (one_lt (by assumption)))); obtain ⟨hcc, hff⟩ := bcell hb))
            have hS : OneIn w Y W D w' := by assumption
            have HSS := Lib.hid hS
            clear hS
            go_wp2
            go_roundw
            case rel => exact ⟨i + 1, by omega, by omega, rfl, until_step HU.out (fun hw e => E2.out (by rw [e]; exact hw.2.2.1)), HSS.out⟩
            case measure => simp [intOf]; omega
        · have E1 := Lib.hid e1
          obtain ⟨Y', hY'⟩ : ∃ Y' : Int, Hid (wY i = Y') := ⟨_, Lib.hid rfl⟩
          have hne : ¬ Y' = Y := by rw [← hY'.out]; exact e1
          clear e1
          go_wp2
          go_region_held3 (OneIn w Y W D)
            ((refine ⟨?_, ?_, ?_, ?_, ?_⟩ <;> (first | go_keep | omega | assumption | exact Below.drew (by assumption) | (rw [hcc _ _ (by first | exact u1 | omega)]; first | exact a0 | exact a1 | exact a2 | go_keep) | (have := hb.size; omega) | exact Below.trans (by first | assumption | exact one_below (by assumption) | exact Below.drew (by assumption)) (Below.mono (by assumption) (by first | omega | (simp; omega))))))
            (first | (go_at_call 77; refine (isDayR_at _ true _ hd).mono ?_; rintro e w' ⟨rfl, hb⟩; have hbW : Below w.heap.size w w' := Below.trans (by first | assumption | exact one_below (by assumption) | exact Below.drew (by assumption)) (hb.mono (by first | omega | (simp; done) | (simp; omega) | exact Nat.le_of_lt (one_lt (by assumption)))); obtain ⟨hcc, hff⟩ := bcell hb) | (go_at_call 94; refine (weekOfR_at _ Y' _ _ _ q1 q2 hY'.out rfl rfl).mono ?_; rintro e w' ⟨rfl, hb⟩; have hbW : Below w.heap.size w w' := Below.trans (by first | assumption | exact one_below (by assumption) | exact Below.drew (by assumption)) (hb.mono (by first | omega | (simp; done) | (simp; omega) | exact Nat.le_of_lt (one_lt (by assumption)))); obtain ⟨hcc, hff⟩ := bcell hb))
          have hS : OneIn w Y W D w' := by assumption
          have HSS := Lib.hid hS
          clear hS
          go_wp2
          go_roundw
          case rel => exact ⟨i + 1, by omega, by omega, rfl, until_step HU.out (fun hw e => E1.out (by rw [e]; exact hw.2.1)), HSS.out⟩
          case measure => simp [intOf]; omega
    · have e : i = ys Y + 380 := by omega
      have HE := Lib.hid e
      clear e
      go_wp2
      go_ret2
      exact ⟨.inr ⟨until_end W2 D6 (by rw [← HE.out]; exact HU.out), rfl⟩, k1⟩
end Go.Proofs.YthdjebomeibngaaGreatDoor
