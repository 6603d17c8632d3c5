/- The seat: all spans with small ends, on both sides. -/
import Derived.Test.YtfhljcpicdabmaaGreatDoorSeatC
import Derived.Test.YtfhljcpicdabmaaGreatDoorEvMem
import Derived.Test.YtfhljcpicdabmaaGreatDoorWayM
namespace Go.Proofs.YtfhljcpicdabmaaGreatDoor
open Go Go.RowKit Go.Ev Go.WayM
set_option maxRecDepth 100000
def spCells (l : List Sp) : List Value := l.flatMap fun p => [.int .i64 p.1, .int .i64 p.2]
/-- A row of spans lies in a block. -/
def SpansAt (w : World) (g : Nat) (l : List Sp) : Prop := ∀ (i : Nat) (p : Sp), l[i]? = some p → w.cell? ⟨g, i * 2, none⟩ = some (.int .i64 p.1) ∧ w.cell? ⟨g, i * 2 + 1, none⟩ = some (.int .i64 p.2)
theorem spCells_at : ∀ (l : List Sp) (i : Nat) (p : Sp), l[i]? = some p → (spCells l)[i * 2]? = some (.int .i64 p.1) ∧ (spCells l)[i * 2 + 1]? = some (.int .i64 p.2)
  | [], i, p, h => by simp at h
  | q :: l, 0, p, h => by
    simp only [List.getElem?_cons_zero, Option.some.injEq] at h
    subst h
    exact ⟨rfl, rfl⟩
  | q :: l, i + 1, p, h => by
    have ih := spCells_at l i p (by simpa using h)
    have e : spCells (q :: l) = .int .i64 q.1 :: .int .i64 q.2 :: spCells l := rfl
    rw [e, show (i + 1) * 2 = i * 2 + 1 + 1 by omega]
    exact ⟨by simpa using ih.1, by simpa using ih.2⟩
theorem SpansAt.below {w w' : World} {B g : Nat} {l : List Sp} (h : SpansAt w g l) (hb : Below B w w') (hg : g < B) : SpansAt w' g l := fun i p hi => by
  rw [hb.cell (p := ⟨g, i * 2, none⟩) hg, hb.cell (p := ⟨g, i * 2 + 1, none⟩) hg]
  exact h i p hi
abbrev S6 : List Sp := small 6
def SpansBe (w : World) (e : Ending) (w' : World) : Prop := ∃ r k, e = .returned (.slice (some ⟨r, 0, none⟩) 15 k) ∧ w.heap.size ≤ r ∧ SpansAt w' r S6 ∧ Below w.heap.size w w'
theorem c161 (es : Nat → TypeId) : sliceOf (evCall env lib1 1000 1000 161 [I 6] ⟨layT [] es, 1000⟩) = some (15, spCells S6) ∧ sliceB 1000 (evCall env lib1 1000 1000 161 [I 6] ⟨layT [] es, 1000⟩) = true := ⟨by kernel_rfl, by kernel_rfl⟩
theorem c162 (es : Nat → TypeId) : sliceOf (evCall env lib1 1000 1000 162 [I 6] ⟨layT [] es, 1000⟩) = some (15, spCells S6) ∧ sliceB 1000 (evCall env lib1 1000 1000 162 [I 6] ⟨layT [] es, 1000⟩) = true := ⟨by kernel_rfl, by kernel_rfl⟩
theorem six161 (w : World) : Calls Tryz.prog 161 #[.int .i64 6] w (SpansBe w) :=
  (run_slice env_ok lib1_ok (tabs := []) (fun t ht => by cases ht) (by show (8 : Nat) ≤ 1000; decide) (Nat.le_refl _) rfl c161 (fun t ht => by cases ht)).mono fun e w' ⟨r, k, he, hr, hc, hb⟩ =>
    ⟨r, k, he, hr, fun i p hi => ⟨hc _ _ (spCells_at S6 i p hi).1, hc _ _ (spCells_at S6 i p hi).2⟩, hb⟩
theorem six162 (w : World) : Calls Tryz.prog 162 #[.int .i64 6] w (SpansBe w) :=
  (run_slice env_ok lib1_ok (tabs := []) (fun t ht => by cases ht) (by show (8 : Nat) ≤ 1000; decide) (Nat.le_refl _) rfl c162 (fun t ht => by cases ht)).mono fun e w' ⟨r, k, he, hr, hc, hb⟩ =>
    ⟨r, k, he, hr, fun i p hi => ⟨hc _ _ (spCells_at S6 i p hi).1, hc _ _ (spCells_at S6 i p hi).2⟩, hb⟩
end Go.Proofs.YtfhljcpicdabmaaGreatDoor
