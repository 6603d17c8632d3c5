/- Bags as lists of items: which are formed; where they lie; no program. -/
import Derived.Test.YtimlgclejaoboaaGreatDoorBgM
import Derived.Below
import Derived.Lib.Hide
namespace Go.RecM
open Go Go.RowKit

/-- An item: the record's three numbers, and how often. -/
abbrev It := R3 × Int
def encIt (x : It) : List Value := [.int .i64 x.1.1, .int .i64 x.1.2.1, .int .i64 x.1.2.2, .int .i64 x.2]
abbrev aggI (x : It) : Value := .agg (encIt x).toArray
theorem encIt_len (x : It) : (encIt x).length = 4 := rfl
theorem encIt_one (x : It) : ∀ v ∈ encIt x, v.oneCell' = true := fun v hv => by simp [encIt] at hv; rcases hv with rfl | rfl | rfl | rfl <;> rfl

/-- A slice of items. -/
def BagAt (w : World) (v : Value) (l : List It) : Prop := ∃ A c, v = .slice A l.length c ∧ (0 < l.length → ∃ g o, A = some ⟨g, o, none⟩ ∧ g < w.heap.size ∧ ∀ (i : Nat) (x : It), l[i]? = some x →
  w.cell? ⟨g, o + i * 4, none⟩ = some (.int .i64 x.1.1) ∧ w.cell? ⟨g, o + i * 4 + 1, none⟩ = some (.int .i64 x.1.2.1) ∧ w.cell? ⟨g, o + i * 4 + 2, none⟩ = some (.int .i64 x.1.2.2) ∧ w.cell? ⟨g, o + i * 4 + 3, none⟩ = some (.int .i64 x.2))

theorem BagAt.below {w w' : World} {B : Nat} {v : Value} {l : List It} (h : BagAt w v l) (hb : Below B w w') (hB : w.heap.size ≤ B) : BagAt w' v l := by
  obtain ⟨A, c, rfl, hc⟩ := h
  refine ⟨A, c, rfl, fun hn => ?_⟩
  obtain ⟨g, o, rfl, hg, hx⟩ := hc hn
  have at_ : ∀ k, w'.cell? ⟨g, k, none⟩ = w.cell? ⟨g, k, none⟩ := fun k => hb.cell (p := ⟨g, k, none⟩) (by show g < B; omega)
  exact ⟨g, o, rfl, by have := hb.size; omega, fun i x hi => by rw [at_, at_, at_, at_]; exact hx i x hi⟩

theorem BagAt.get {w : World} {A : Option Addr} {n c : Nat} {l : List It} {i : Nat} {x : It} (h : BagAt w (.slice A n c) l) (hi : l[i]? = some x) : ∃ g o, A = some ⟨g, o, none⟩ ∧ g < w.heap.size ∧
    w.cell? ⟨g, o + i * 4, none⟩ = some (.int .i64 x.1.1) ∧ w.cell? ⟨g, o + i * 4 + 1, none⟩ = some (.int .i64 x.1.2.1) ∧ w.cell? ⟨g, o + i * 4 + 2, none⟩ = some (.int .i64 x.1.2.2) ∧ w.cell? ⟨g, o + i * 4 + 3, none⟩ = some (.int .i64 x.2) := by
  obtain ⟨A', c', he, hc⟩ := h
  cases he
  obtain ⟨g, o, rfl, hg, hx⟩ := hc (by have := (List.getElem?_eq_some_iff.1 hi).1; omega)
  exact ⟨g, o, rfl, hg, hx i x hi⟩

theorem BagAt.len {w : World} {A : Option Addr} {n c : Nat} {l : List It} (h : BagAt w (.slice A n c) l) : l.length = n := by
  obtain ⟨A', c', he, hc⟩ := h
  cases he
  rfl

theorem BagAt.nil (w : World) : BagAt w (.slice none 0 0) [] := ⟨none, 0, rfl, fun h => by cases h⟩

/-- What a row owns is a bag. -/
theorem BagAt.of_row {w : World} {B : Nat} {ty : TypeId} {v : Value} {l : List It} (h : w.ownsRow B ty 4 v l.length (l.flatMap encIt)) : BagAt w v l := by
  rcases h.2 with ⟨rfl, h0⟩ | ⟨g, cap, cur, rfl, _, hgb, _, _, _, h4⟩
  · exact ⟨none, 0, by rw [h0], fun h => by omega⟩
  · refine ⟨_, _, rfl, fun _ => ⟨g, 0, rfl, (Array.getElem?_eq_some_iff.1 hgb).1, fun i x hx => ?_⟩⟩
    have hi := (List.getElem?_eq_some_iff.1 hx).1
    have at_ : ∀ k (u : Value), k < 4 → (encIt x)[k]? = some u → w.cell? ⟨g, 0 + i * 4 + k, none⟩ = some u := fun k u hk hu => by
      have h1 : (cur.toList.take (l.length * 4))[i * 4 + k]? = (l.flatMap encIt)[i * 4 + k]? := by rw [h4]
      rw [List.getElem?_take_of_lt (by omega), flat_at encIt_len (by decide), show (i * 4 + k) / 4 = i by omega, show (i * 4 + k) % 4 = k by omega, hx] at h1
      simp only [Option.bind_some, hu] at h1
      unfold World.cell?
      simp only [hgb, Nat.zero_add]
      simpa using h1
    exact ⟨at_ 0 _ (by decide) rfl, at_ 1 _ (by decide) rfl, at_ 2 _ (by decide) rfl, at_ 3 _ (by decide) rfl⟩

/-- A number lies between two. -/
def inB (n a b : Int) : Bool := decide (a ≤ n) && decide (n ≤ b)
def recFB (x : R3) : Bool := inB x.1 0 200 && (inB x.2.1 (-1000000000) 1000000000 && inB x.2.2 (-1000000000) 1000000000)
/-- An item may be put into a bag. -/
def itemB (x : It) : Bool := recFB x.1 && inB x.2 (-1000000) 1000000
/-- The item at a place is formed, there, and behind the one before. -/
def stepB (l : List It) (i : Nat) : Bool := match l[i]? with
  | none => false
  | some x => itemB x && (!decide (x.2 = 0) && (match i with | 0 => true | j + 1 => match l[j]? with | some y => decide (rLt y.1 x.1) | none => false))
def stepsTo (l : List It) (k : Nat) : Bool := (List.range k).all (stepB l)
theorem stepsTo_succ (l : List It) (k : Nat) : stepsTo l (k + 1) = (stepsTo l k && stepB l k) := by
  unfold stepsTo; rw [List.range_succ, List.all_append]; simp
theorem stepsTo_no {l : List It} {k n : Nat} (h : stepB l k = false) (hk : k < n) : stepsTo l n = false := by
  unfold stepsTo
  rw [List.all_eq_false]
  exact ⟨k, List.mem_range.2 hk, by rw [h]; decide⟩
/-- Which bags are formed. -/
def goodB (l : List It) : Bool := decide (l.length ≤ 300) && stepsTo l l.length
theorem goodB_no {l : List It} {k : Nat} (h : stepB l k = false) (hk : k < l.length) : goodB l = false := by
  unfold goodB; rw [stepsTo_no h hk, Bool.and_false]
theorem stepB_zero {l : List It} {x : It} (h : l[0]? = some x) : stepB l 0 = (itemB x && !decide (x.2 = 0)) := by
  unfold stepB; rw [h]; simp
theorem stepB_succ {l : List It} {j : Nat} {x y : It} (h : l[j + 1]? = some x) (h' : l[j]? = some y) : stepB l (j + 1) = (itemB x && (!decide (x.2 = 0) && decide (rLt y.1 x.1))) := by
  unfold stepB; rw [h]; simp only [h']
theorem stepB_bad {l : List It} {i : Nat} {x : It} (h : l[i]? = some x) (hx : itemB x = false ∨ x.2 = 0) : stepB l i = false := by
  unfold stepB; rw [h]
  rcases hx with hx | hx
  · simp [hx]
  · simp [hx]
end Go.RecM
