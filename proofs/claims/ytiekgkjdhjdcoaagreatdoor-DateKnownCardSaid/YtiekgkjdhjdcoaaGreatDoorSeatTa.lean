/- The seat: the interpreter with the days told: the day of a date, the date of a day, a year's first day, a date in a month. -/
import Derived.Test.YtiekgkjdhjdcoaaGreatDoorSeatR
import Derived.Test.YtiekgkjdhjdcoaaGreatDoorSeatM
import Derived.Test.YtiekgkjdhjdcoaaGreatDoorSeatQm
import Derived.Test.YtiekgkjdhjdcoaaGreatDoorSeatN
import Derived.Test.YtiekgkjdhjdcoaaGreatDoorEvUp
namespace Go.Proofs.YtiekgkjdhjdcoaaGreatDoor
open Go Go.RowKit Go.DayM Go.Ev
set_option maxRecDepth 100000
def ofB (n y m : Int) : Bool := decide (ys y ≤ n) && (decide (n < ys (y + 1)) && (decide (1 ≤ m) && (decide (m ≤ 12) && (decide (da y m ≤ n - ys y) && decide (n - ys y < da y (m + 1))))))
theorem ofB_ok {n y m : Int} (h : ofB n y m = true) : Of n y m := by
  unfold ofB at h
  simp only [Bool.and_eq_true, decide_eq_true_eq] at h
  exact ⟨h.1, h.2.1, h.2.2.1, h.2.2.2.1, h.2.2.2.2.1, h.2.2.2.2.2⟩
def monthAt (n y : Int) : Option (Int × Int) :=
  cond (ofB n y ((n - ys y) / 31 + 1)) (some (y, (n - ys y) / 31 + 1)) (cond (ofB n y ((n - ys y) / 31 + 2)) (some (y, (n - ys y) / 31 + 2)) none)
theorem monthAt_ok {n y : Int} {p : Int × Int} (h : monthAt n y = some p) : Of n p.1 p.2 := by
  unfold monthAt at h
  rcases cond_some h with ⟨h1, h⟩ | ⟨_, h⟩
  · cases h; exact ofB_ok h1
  · rcases cond_some h with ⟨h1, h⟩ | ⟨_, h⟩
    · cases h; exact ofB_ok h1
    · cases h
def yearAt (n : Int) : Option (Int × Int) :=
  match monthAt n (n * 400 / 146097 + 2000) with
  | some p => some p
  | none => match monthAt n (n * 400 / 146097 + 2001) with
    | some p => some p
    | none => monthAt n (n * 400 / 146097 + 1999)
theorem yearAt_ok {n : Int} {p : Int × Int} (h : yearAt n = some p) : Of n p.1 p.2 := by
  unfold yearAt at h
  split at h
  · rename_i q hq; cases h; exact monthAt_ok hq
  · split at h
    · rename_i q hq; cases h; exact monthAt_ok hq
    · exact monthAt_ok h
def dateE (args : List Value) : Option Value :=
  match args with
  | [.int .i64 n] => cond (decide (-4382544 ≤ n) && decide (n ≤ 2921939)) (match yearAt n with | some p => some (.agg #[.int .i64 p.1, .int .i64 p.2, .int .i64 (n - ys p.1 - da p.1 p.2 + 1)]) | none => none) none
  | _ => none
def dayE (args : List Value) : Option Value :=
  match args with
  | [.agg ⟨[.int .i64 y, .int .i64 m, .int .i64 d]⟩] => cond (decide (-9999 ≤ y) && (decide (y ≤ 9999) && (decide (1 ≤ m) && (decide (m ≤ 12) && (decide (1 ≤ d) && decide (d ≤ 31)))))) (some (.int .i64 (dayOf y m d))) none
  | _ => none
def yearE (args : List Value) : Option Value :=
  match args with
  | [.int .i64 y] => cond (decide (-19999 ≤ y) && decide (y ≤ 30000)) (some (.int .i64 (ys y))) none
  | _ => none
def inE (args : List Value) : Option Value :=
  match args with
  | [.int .i64 k, .int .i64 d] => cond (decide (-10000000 ≤ k) && decide (k ≤ 10000000)) (some (.agg #[.int .i64 (inY k), .int .i64 (inM k), .int .i64 (inD k d)])) none
  | _ => none
theorem fnOK84 : FnOK Tryz.prog 84 Tryz.f84 := ⟨Tryz.func84, by kernel_rfl, by kernel_rfl⟩
theorem fnOK82 : FnOK Tryz.prog 82 Tryz.f82 := ⟨Tryz.func82, by kernel_rfl, by kernel_rfl⟩
theorem fnOK146 : FnOK Tryz.prog 146 Tryz.f146 := ⟨Tryz.func146, by kernel_rfl, by kernel_rfl⟩
theorem fnOK96 : FnOK Tryz.prog 96 Tryz.f96 := ⟨Tryz.func96, by kernel_rfl, by kernel_rfl⟩
theorem dateE_ok (args : List Value) (v : Value) (h : dateE args = some v) : plainV v = true ∧ args.all plainV = true ∧ ∀ w, TabsIn tabs w → Calls Tryz.prog 84 args.toArray w fun e w' => e = .returned v ∧ Below w.heap.size w w' := by
  unfold dateE at h
  split at h
  · rename_i n
    rcases cond_some h with ⟨hb, h⟩ | ⟨_, h⟩
    · simp only [Bool.and_eq_true, decide_eq_true_eq] at hb
      split at h
      · rename_i p hp
        cases h
        have o := yearAt_ok hp
        refine ⟨rfl, rfl, fun w hw => (dateOf_any n w hb.1 (by omega) (ahead_of_tabs hw)).mono fun e w' ⟨y', m', o', _, _, he, hb'⟩ => ⟨?_, hb'⟩⟩
        have e1 := o'.year o
        subst e1
        have e2 := o'.month o
        subst e2
        exact he
      · cases h
    · cases h
  · cases h
theorem dayE_ok (args : List Value) (v : Value) (h : dayE args = some v) : plainV v = true ∧ args.all plainV = true ∧ ∀ w, TabsIn tabs w → Calls Tryz.prog 82 args.toArray w fun e w' => e = .returned v ∧ Below w.heap.size w w' := by
  unfold dayE at h
  split at h
  · rename_i y m d
    rcases cond_some h with ⟨hb, h⟩ | ⟨_, h⟩
    · simp only [Bool.and_eq_true, decide_eq_true_eq] at hb
      cases h
      exact ⟨rfl, rfl, fun w hw => dayOf_any y m d w hb.1 hb.2.1 hb.2.2.1 hb.2.2.2.1 hb.2.2.2.2.1 hb.2.2.2.2.2 (ahead_of_tabs hw)⟩
    · cases h
  · cases h
theorem yearE_ok (args : List Value) (v : Value) (h : yearE args = some v) : plainV v = true ∧ args.all plainV = true ∧ ∀ w, TabsIn tabs w → Calls Tryz.prog 146 args.toArray w fun e w' => e = .returned v ∧ Below w.heap.size w w' := by
  unfold yearE at h
  split at h
  · rename_i y
    rcases cond_some h with ⟨hb, h⟩ | ⟨_, h⟩
    · simp only [Bool.and_eq_true, decide_eq_true_eq] at hb
      cases h
      exact ⟨rfl, rfl, fun w _ => (yearStart_any' y w hb.1 hb.2).mono fun e w' ⟨he, hw⟩ => ⟨he, below_same hw⟩⟩
    · cases h
  · cases h
theorem inE_ok (args : List Value) (v : Value) (h : inE args = some v) : plainV v = true ∧ args.all plainV = true ∧ ∀ w, TabsIn tabs w → Calls Tryz.prog 96 args.toArray w fun e w' => e = .returned v ∧ Below w.heap.size w w' := by
  unfold inE at h
  split at h
  · rename_i k d
    rcases cond_some h with ⟨hb, h⟩ | ⟨_, h⟩
    · simp only [Bool.and_eq_true, decide_eq_true_eq] at hb
      cases h
      exact ⟨rfl, rfl, fun w hw => dateIn_any k d w hb.1 hb.2 (ahead_of_tabs hw)⟩
    · cases h
  · cases h
theorem tabs_lt : ∀ t ∈ tabs, t.1 < env.G := fun t ht => by
  simp only [tabs, List.mem_cons, List.not_mem_nil, or_false] at ht
  rcases ht with rfl | rfl
  · show 0 < env.G
    decide
  · show 3 < env.G
    decide
noncomputable def libK : Lib := libT (libT (libT (libT libR tabs 84 dateE) tabs 82 dayE) tabs 146 yearE) tabs 96 inE
theorem libK_ok : LibOK Tryz.prog env libK :=
  libT_ok (libT_ok (libT_ok (libT_ok libR_ok tabs_lt ⟨_, fnOK84⟩ dateE_ok) tabs_lt ⟨_, fnOK82⟩ dayE_ok) tabs_lt ⟨_, fnOK146⟩ yearE_ok) tabs_lt ⟨_, fnOK96⟩ inE_ok
end Go.Proofs.YtiekgkjdhjdcoaaGreatDoor
