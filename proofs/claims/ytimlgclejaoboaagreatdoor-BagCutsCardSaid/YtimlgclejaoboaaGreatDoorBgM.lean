/- Records as the library's sort sees them: rows of cells, a struct at a time; their order; no program. -/
import Derived.Shelf.SlSortCmp.InsertionK
import Derived.Sort.OwnSorted
import Derived.Shelf.SlSortCmp.KitK
namespace Go.RecM
open Go Go.RowKit Go.Proofs

theorem flat_at {α : Type} {enc : α → List Value} {k : Nat} (hk : ∀ x, (enc x).length = k) (hk0 : 0 < k) : ∀ (l : List α) (t : Nat), (l.flatMap enc)[t]? = (l[t / k]?).bind fun x => (enc x)[t % k]?
  | [], t => by simp
  | x :: l, t => by
    rw [List.flatMap_cons]
    by_cases h : t < k
    · rw [List.getElem?_append_left (by rw [hk]; exact h), Nat.div_eq_of_lt h, Nat.mod_eq_of_lt h]; rfl
    · obtain ⟨u, rfl⟩ : ∃ u, t = u + k := ⟨t - k, by omega⟩
      rw [List.getElem?_append_right (by rw [hk]; omega), hk, Nat.add_sub_cancel, flat_at hk hk0 l u, Nat.add_div_right _ hk0, Nat.add_mod_right]
      rfl

theorem flat_len {α : Type} {enc : α → List Value} {k : Nat} (hk : ∀ x, (enc x).length = k) : ∀ (l : List α), (l.flatMap enc).length = l.length * k
  | [] => by simp
  | x :: l => by rw [List.flatMap_cons, List.length_append, hk, flat_len hk l, List.length_cons, Nat.add_mul]; omega

section
variable {α : Type} [Inhabited α] {enc : α → List Value} {k : Nat}

theorem flat_eq (hk : ∀ x, (enc x).length = k) (hk0 : 0 < k) (d : Array α) : (Sort.flatK enc k d).toList = d.toList.flatMap enc := by
  apply List.ext_getElem?
  intro t
  rw [flat_at hk hk0]
  by_cases ht : t < d.size * k
  · have e0 : (Sort.flatK enc k d)[t]! = (enc d[t / k]!)[t % k]! := Sort.get_flatK _ _ _ _ ht
    rw [Array.getElem?_toList, Array.getElem?_eq_getElem (by simpa using ht)]
    rw [getElem!_pos _ t (by simpa using ht)] at e0
    rw [e0]
    have hq : t / k < d.size := (Nat.div_lt_iff_lt_mul hk0).2 ht
    have hr : t % k < (enc d[t / k]).length := by rw [hk]; exact Nat.mod_lt _ hk0
    rw [Array.getElem?_toList, Array.getElem?_eq_getElem hq, getElem!_pos d _ hq]
    simp only [Option.bind_some]
    rw [List.getElem?_eq_getElem hr]
    simp [hr]
  · have hq : ¬ t / k < d.size := fun h => ht ((Nat.div_lt_iff_lt_mul hk0).1 h)
    rw [List.getElem?_eq_none (by simp; omega), Array.getElem?_toList, Array.getElem?_eq_none (by omega)]
    rfl

theorem holds_of_row (hk : ∀ x, (enc x).length = k) (hk0 : 0 < k) {w : World} {g : Nat} {cur : Array Value} {ty : TypeId} {d : Array α} (hb : w.heap[g]? = some (.cells cur ty (0, 0))) (ht : cur.toList.take (d.size * k) = d.toList.flatMap enc) : Sort.HoldsK enc k w g 0 d := by
  rw [← flat_eq hk hk0] at ht
  intro j hj
  have hj' : j < d.size * k := by simpa using hj
  refine ⟨?_, by simp [World.frozen?, hb]⟩
  have h1 : (cur.toList.take (d.size * k))[j]? = (Sort.flatK enc k d).toList[j]? := by rw [ht]
  rw [List.getElem?_take_of_lt hj'] at h1
  simp only [World.cell?, hb, Nat.zero_add]
  simp only [Option.isSome_none, Bool.false_eq_true, if_false]
  rw [← Array.getElem?_toList, h1, Array.getElem?_toList, Array.getElem?_eq_getElem hj, getElem!_pos _ j hj]
  rfl

theorem heap_sortedK {w : World} {g n : Nat} {os : Array Obj} {cur : Array Value} {ty : TypeId} {fr : Nat × Nat} (d : Array Value) (hb : w.heap[g]? = some (.cells cur ty fr)) :
    (Sort.grow (Sort.putRow id (Sort.ahead w n) g 0 d) os).heap[g]? = some (.cells (Sort.putCells id 0 d cur) ty fr) := by
  have hg : g < w.heap.size := (Array.getElem?_eq_some_iff.1 hb).1
  rw [Sort.heap_grow_old _ _ (by simpa using hg)]
  simp [Sort.putRow, Sort.mapBlock, Sort.ahead, Array.getElem?_modify, hb, Sort.onCells]

theorem grownK {w : World} {g n : Nat} {os : Array Obj} (d : Array Value) : w.grownBy (Sort.grow (Sort.putRow id (Sort.ahead w n) g 0 d) os) (some g) := by
  refine ⟨rfl, rfl, rfl, by simp, fun k hk hne => ?_⟩
  rw [Sort.heap_grow_old _ _ (by simpa using hk)]
  have : g ≠ k := fun e => hne (by rw [e])
  simp [Sort.putRow, Sort.mapBlock, Sort.ahead, Array.getElem?_modify, this]

theorem take_putK (cur : Array Value) (d : Array Value) (h : d.size ≤ cur.size) : (Sort.putCells id 0 d cur).toList.take d.size = d.toList := by
  apply List.ext_getElem?
  intro j
  by_cases hj : j < d.size
  · rw [List.getElem?_take_of_lt hj, Array.getElem?_toList]
    simp [Sort.putCells, hj, show j < cur.size by omega]
  · rw [List.getElem?_take_eq_none (by omega), List.getElem?_eq_none (by simp; omega)]

theorem ownsRow_sortedK (hk : ∀ x, (enc x).length = k) (hk0 : 0 < k) {w : World} {base g cap n : Nat} {ty : TypeId} {os : Array Obj} {cur : Array Value} {d d' : Array α} (hl : d'.size = d.size) (hbase : base ≤ g) (hb : w.heap[g]? = some (.cells cur ty (0, 0)))
    (h1 : d.size ≤ cap) (h2 : cap ≤ maxLen) (h3 : cur.size = cap * k) :
    (sortWorldK enc k w g 0 n d' os).ownsRow base ty k (.slice (some ⟨g, 0, none⟩) d.size cap) d.size (d'.toList.flatMap enc) := by
  refine ⟨by rw [flat_len hk]; simp [hl], .inr ⟨g, cap, _, rfl, hbase, heap_sortedK _ hb, h1, h2, by simp [Sort.putCells, h3], ?_⟩⟩
  have e : (Sort.flatK enc k d').size = d.size * k := by rw [Sort.size_flatK, hl]
  rw [← flat_eq hk hk0, ← e]
  refine take_putK _ _ ?_
  rw [e, h3]
  exact Nat.mul_le_mul_right _ h1

end

/-! Records: three integers; their order. -/
abbrev R3 := Int × Int × Int
def encR (x : R3) : List Value := [.int .i64 x.1, .int .i64 x.2.1, .int .i64 x.2.2]
abbrev aggR (x : R3) : Value := .agg (encR x).toArray
theorem encR_len (x : R3) : (encR x).length = 3 := rfl
theorem encR_one (x : R3) : ∀ v ∈ encR x, v.oneCell' = true := fun v hv => by simp [encR] at hv; rcases hv with rfl | rfl | rfl <;> rfl
theorem aggR_inj {x y : R3} (h : aggR x = aggR y) : x = y := by
  obtain ⟨a, b, c⟩ := x
  obtain ⟨a', b', c'⟩ := y
  simpa [aggR, encR] using h

def cmp1 (a b : Int) : Int := if a < b then -1 else if b < a then 1 else 0
def cfR (x y : R3) : Int := if cmp1 x.1 y.1 ≠ 0 then cmp1 x.1 y.1 else if cmp1 x.2.1 y.2.1 ≠ 0 then cmp1 x.2.1 y.2.1 else cmp1 x.2.2 y.2.2
def rLt (x y : R3) : Prop := x.1 < y.1 ∨ (x.1 = y.1 ∧ (x.2.1 < y.2.1 ∨ (x.2.1 = y.2.1 ∧ x.2.2 < y.2.2)))
instance : DecidableRel rLt := fun x y => by unfold rLt; infer_instance
theorem ltR (x y : R3) : ltOf cfR x y = decide (rLt x y) := by
  unfold ltOf
  rw [decide_eq_decide]
  unfold cfR cmp1 rLt
  constructor
  · intro h
    split at h <;> split at h <;> (try split at h) <;> (try split at h) <;> (try split at h) <;> (try split at h) <;> (try split at h) <;> omega
  · intro h
    split <;> split <;> (try split) <;> (try split) <;> (try split) <;> (try split) <;> (try split) <;> omega
theorem swoR : Sort.SWO (ltOf cfR) := {
  irrefl x := by rw [ltR]; simp [rLt]
  trans x y z h1 h2 := by
    rw [ltR] at *
    have h1 := of_decide_eq_true h1
    have h2 := of_decide_eq_true h2
    apply decide_eq_true
    unfold rLt at *
    omega
  ntrans x y z h1 h2 := by
    rw [ltR] at *
    have h1 := of_decide_eq_false h1
    have h2 := of_decide_eq_false h2
    apply decide_eq_false
    unfold rLt at *
    omega }
theorem rLt_total {x y : R3} (h : ¬ rLt x y) (h' : ¬ rLt y x) : x = y := by
  obtain ⟨a, b, c⟩ := x
  obtain ⟨a', b', c'⟩ := y
  simp only [rLt] at h h'
  have : a = a' ∧ b = b' ∧ c = c' := by omega
  rw [this.1, this.2.1, this.2.2]

end Go.RecM
