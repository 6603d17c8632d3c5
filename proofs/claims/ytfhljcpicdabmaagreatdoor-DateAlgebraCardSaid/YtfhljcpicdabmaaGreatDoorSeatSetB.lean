/- The seat: sets of spans, both sides. -/
import Derived.Test.YtfhljcpicdabmaaGreatDoorSeatSetA
import Derived.Shelf.SlSortCmp.InsertionK
import Derived.Sort.OwnSorted
import Derived.Shelf.SlSortCmp.KitK
import Derived.Test.YtfhljcpicdabmaaGreatDoorSeatBq
import Derived.Shelf.SlSortCmp.WholeK
import Derived.Shelf.SlSortCmp.NoneTotal
/- The seat: edges as the library's sort sees them: rows of three cells; the comparators. -/
namespace Go.Proofs.YtfhljcpicdabmaaGreatDoor
open Go Go.RowKit Go.Ev Go.WayM
open Go.SetM hiding Sp
set_option maxRecDepth 100000
set_option maxHeartbeats 1000000
/-- An edge whose day is small: the difference of two does not wrap. -/
abbrev EB := { e : SetM.Edge // -5000000 ≤ e.1 ∧ e.1 ≤ 5000000 }
instance : Inhabited EB := ⟨⟨(0, false, false), by decide⟩⟩
def encE (x : EB) : List Value := [.int .i64 x.1.1, .bool x.1.2.1, .bool x.1.2.2]
def cfE (x y : EB) : Int := x.1.1 - y.1.1
theorem ltE (x y : EB) : ltOf cfE x y = decide (x.1.1 < y.1.1) := by
  unfold ltOf cfE
  by_cases h : x.1.1 < y.1.1
  · simp [h]; omega
  · simp [h]; omega
theorem swoE : Sort.SWO (ltOf cfE) := {
  irrefl x := by rw [ltE]; simp
  trans x y z h1 h2 := by rw [ltE] at *; simp at *; omega
  ntrans x y z h1 h2 := by rw [ltE] at *; simp at *; omega }
theorem flatE (d : Array EB) : (Sort.flatK encE 3 d).toList = eCells (d.toList.map (·.1)) := by
  apply List.ext_getElem?
  intro t
  by_cases ht : t < d.size * 3
  · have e0 : (Sort.flatK encE 3 d)[t]! = (encE d[t / 3]!)[t % 3]! := Sort.get_flatK _ _ _ _ ht
    rw [Array.getElem?_toList, Array.getElem?_eq_getElem (by simpa using ht)]
    rw [getElem!_pos _ t (by simpa using ht)] at e0
    rw [e0]
    have hq : t / 3 < d.size := by omega
    have hg : (d.toList.map (·.1))[t / 3]? = some (d[t / 3]!).1 := by
      rw [List.getElem?_map, Array.getElem?_toList, Array.getElem?_eq_getElem hq, getElem!_pos d _ hq]; rfl
    obtain ⟨a0, a1, a2⟩ := eCells_at _ _ _ hg
    have hr : t % 3 = 0 ∨ t % 3 = 1 ∨ t % 3 = 2 := by omega
    have hd := Nat.div_add_mod t 3
    rcases hr with h | h | h
    · rw [h] at hd ⊢; rw [show t / 3 * 3 = t by omega] at a0; rw [a0]; rfl
    · rw [h] at hd ⊢; rw [show t / 3 * 3 + 1 = t by omega] at a1; rw [a1]; rfl
    · rw [h] at hd ⊢; rw [show t / 3 * 3 + 2 = t by omega] at a2; rw [a2]; rfl
  · rw [List.getElem?_eq_none (by simp; omega), List.getElem?_eq_none (by rw [eCells_len]; simp; omega)]
theorem holdsE {w : World} {g : Nat} {cur : Array Value} {ty : TypeId} {d : Array EB} (hb : w.heap[g]? = some (.cells cur ty (0, 0))) (ht : cur.toList.take (d.size * 3) = eCells (d.toList.map (·.1))) : Sort.HoldsK encE 3 w g 0 d := by
  rw [← flatE] at ht
  intro j hj
  have hj' : j < d.size * 3 := by simpa using hj
  refine ⟨?_, by simp [World.frozen?, hb]⟩
  have h1 : (cur.toList.take (d.size * 3))[j]? = (Sort.flatK encE 3 d).toList[j]? := by rw [ht]
  rw [List.getElem?_take_of_lt hj'] at h1
  simp only [World.cell?, hb, Nat.zero_add]
  simp only [Option.isSome_none, Bool.false_eq_true, if_false]
  rw [← Array.getElem?_toList, h1, Array.getElem?_toList, Array.getElem?_eq_getElem hj, getElem!_pos _ j hj]
  rfl
theorem heap_sortedE {w : World} {g n : Nat} {os : Array Obj} {cur : Array Value} {ty : TypeId} {fr : Nat × Nat} (d : Array Value) (hb : w.heap[g]? = some (.cells cur ty fr)) :
    (Sort.grow (Sort.putRow id (Sort.ahead w n) g 0 d) os).heap[g]? = some (.cells (Sort.putCells id 0 d cur) ty fr) := by
  have hg : g < w.heap.size := (Array.getElem?_eq_some_iff.1 hb).1
  rw [Sort.heap_grow_old _ _ (by simpa using hg)]
  simp [Sort.putRow, Sort.mapBlock, Sort.ahead, Array.getElem?_modify, hb, Sort.onCells]
theorem grownE {w : World} {g n : Nat} {os : Array Obj} (d : Array Value) : w.grownBy (Sort.grow (Sort.putRow id (Sort.ahead w n) g 0 d) os) (some g) := by
  refine ⟨rfl, rfl, rfl, by simp, fun k hk hne => ?_⟩
  rw [Sort.heap_grow_old _ _ (by simpa using hk)]
  have : g ≠ k := fun e => hne (by rw [e])
  simp [Sort.putRow, Sort.mapBlock, Sort.ahead, Array.getElem?_modify, this]
theorem take_putE (cur : Array Value) (d : Array Value) (h : d.size ≤ cur.size) : (Sort.putCells id 0 d cur).toList.take d.size = d.toList := by
  apply List.ext_getElem?
  intro j
  by_cases hj : j < d.size
  · rw [List.getElem?_take_of_lt hj, Array.getElem?_toList]
    simp [Sort.putCells, hj, show j < cur.size by omega]
  · rw [List.getElem?_take_eq_none (by omega), List.getElem?_eq_none (by simp; omega)]
theorem ownsRow_sortedE {w : World} {base g cap n : Nat} {ty : TypeId} {os : Array Obj} {cur : Array Value} {d d' : Array EB} (hl : d'.size = d.size) (hbase : base ≤ g) (hb : w.heap[g]? = some (.cells cur ty (0, 0)))
    (h1 : d.size ≤ cap) (h2 : cap ≤ maxLen) (h3 : cur.size = cap * 3) :
    (sortWorldK encE 3 w g 0 n d' os).ownsRow base ty 3 (.slice (some ⟨g, 0, none⟩) d.size cap) d.size (eCells (d'.toList.map (·.1))) := by
  refine ⟨by rw [eCells_len]; simp [hl], .inr ⟨g, cap, _, rfl, hbase, heap_sortedE _ hb, h1, h2, by simp [Sort.putCells, h3], ?_⟩⟩
  have e : (Sort.flatK encE 3 d').size = d.size * 3 := by rw [Sort.size_flatK, hl]
  rw [← flatE, ← e]
  exact take_putE _ _ (by rw [e, h3]; omega)
/-- The comparator: two blocks are laid, the difference is returned. -/
def CmpBe (x y : EB) (W : World) (e : Ending) (w' : World) : Prop := e = .returned (.int .i64 (cfE x y)) ∧ ∃ q os', w' = Sort.grow (W.drewN q) os'
theorem cmp155 (x y : EB) (W : World) : Calls Tryz.prog 155 #[.agg (encE x).toArray, .agg (encE y).toArray] W (CmpBe x y W) := by
  obtain ⟨⟨x0, x1, x2⟩, hx⟩ := x
  obtain ⟨⟨y0, y1, y2⟩, hy⟩ := y
  have hw : IntKind.i64.wrap (x0 - y0) = x0 - y0 := IntWalk.i64_in _ (by dsimp only at hx hy; omega)
  change Calls Tryz.prog 155 #[.agg #[.int .i64 x0, .bool x1, .bool x2], .agg #[.int .i64 y0, .bool y1, .bool y2]] W _
  go_enter Tryz.func155, Tryz.ntmps155
  go_wp2
  go_ret
  exact ⟨rfl, 0, _, by rw [Sort.alloc_eq_grow, Sort.alloc_eq_grow, Sort.grow_grow]; rfl⟩
theorem cmp189 (x y : EB) (W : World) : Calls Tryz.prog 189 #[.agg (encE x).toArray, .agg (encE y).toArray] W (CmpBe x y W) := by
  obtain ⟨⟨x0, x1, x2⟩, hx⟩ := x
  obtain ⟨⟨y0, y1, y2⟩, hy⟩ := y
  have hw : IntKind.i64.wrap (x0 - y0) = x0 - y0 := IntWalk.i64_in _ (by dsimp only at hx hy; omega)
  change Calls Tryz.prog 189 #[.agg #[.int .i64 x0, .bool x1, .bool x2], .agg #[.int .i64 y0, .bool y1, .bool y2]] W _
  go_enter Tryz.func189, Tryz.ntmps189
  go_wp2
  go_ret
  exact ⟨rfl, 0, _, by rw [Sort.alloc_eq_grow, Sort.alloc_eq_grow, Sort.grow_grow]; rfl⟩
end Go.Proofs.YtfhljcpicdabmaaGreatDoor

/- The seat: what passes an edge, and what is asked of the state. -/
namespace Go.Proofs.YtfhljcpicdabmaaGreatDoor
open Go Go.RowKit Go.Ev Go.WayM
open Go.SetM hiding Sp
set_option maxRecDepth 100000
set_option maxHeartbeats 1000000
def edgeV (x : SetM.Edge) : Value := .agg #[.int .i64 x.1, .bool x.2.1, .bool x.2.2]
def twoV (n : Bool × Bool) : Value := .agg #[.bool n.1, .bool n.2]
def Gives (v : Value) (W : World) (e : Ending) (w' : World) : Prop := e = .returned v ∧ Below W.heap.size W w'
def CountBe (n : Int) (x : SetM.Edge) (W : World) (e : Ending) (w' : World) : Prop := e = .returned (.int .i64 (countE n x)) ∧ w' = W.alloc (.cells #[.int .i64 x.1, .bool x.2.1, .bool x.2.2] 151)
theorem count_edge (n : Int) (x : SetM.Edge) (W : World) (hn : -1000 ≤ n ∧ n ≤ 1000) : Calls Tryz.prog 101 #[.int .i64 n, edgeV x] W (CountBe n x W) := by
  obtain ⟨x0, x1, x2⟩ := x
  have h1 : IntKind.i64.wrap (n + 1) = n + 1 := IntWalk.i64_in _ (by omega)
  have h2 : IntKind.i64.wrap (n - 1) = n - 1 := IntWalk.i64_in _ (by omega)
  change Calls Tryz.prog 101 #[.int .i64 n, .agg #[.int .i64 x0, .bool x1, .bool x2]] W _
  go_enter Tryz.func101, Tryz.ntmps101
  cases x2
  · go_wp2
    go_ret
    exact ⟨rfl, rfl⟩
  · go_wp2
    go_ret
    exact ⟨rfl, rfl⟩
theorem covered_any (n : Int) (W : World) : Calls Tryz.prog 102 #[.int .i64 n] W fun e w' => e = .returned (.bool (decide (0 < n))) ∧ w' = W := by
  go_enter Tryz.func102, Tryz.ntmps102
  go_wp2
  go_ret
  exact ⟨rfl, rfl⟩
theorem results_cell1 {fn : Func} {p : Tmp} {ty : TypeId} (h : fn.results = #[.cell p ty]) (tmps : Array Value) (P : Program) (w : World) :
    (results fn tmps).run P w = ((asAddr (tmps.getD p undef)).run P w).andThen fun a w₁ => (loadVar ty a).run P w₁ := by
  simp only [results, h]
  simp [Sem.run_bind, Result.andThen]
def CrossBe (n : Bool × Bool) (x : SetM.Edge) (W : World) (e : Ending) (w' : World) : Prop := e = .returned (twoV (crossE n x)) ∧ w' = ((W.alloc (.cells #[.bool (crossE n x).1, .bool (crossE n x).2] 115)).alloc (.cells #[.int .i64 x.1, .bool x.2.1, .bool x.2.2] 151)).alloc (.cells #[.bool (crossE n x).1, .bool (crossE n x).2] 115)
theorem cross_edge (n : Bool × Bool) (x : SetM.Edge) (W : World) : Calls Tryz.prog 160 #[twoV n, edgeV x] W (CrossBe n x W) := by
  obtain ⟨x0, x1, x2⟩ := x
  obtain ⟨n0, n1⟩ := n
  change Calls Tryz.prog 160 #[.agg #[.bool n0, .bool n1], .agg #[.int .i64 x0, .bool x1, .bool x2]] W _
  go_enter Tryz.func160, Tryz.ntmps160
  cases x1
  · go_wp2
    (try simp only [Exit.inBlock, Exit.then])
    refine bodyPost_ret (v := twoV (x2, n1)) ?_ rfl ⟨rfl, rfl⟩
    · rw [results_cell1 rfl]; go_simp
      rfl
  · go_wp2
    (try simp only [Exit.inBlock, Exit.then])
    refine bodyPost_ret (v := twoV (n0, x2)) ?_ rfl ⟨rfl, rfl⟩
    · rw [results_cell1 rfl]; go_simp
      rfl
theorem join_any (n : Bool × Bool) (W : World) : Calls Tryz.prog 105 #[twoV n] W (Gives (.bool (n.1 || n.2)) W) := by
  obtain ⟨n0, n1⟩ := n
  change Calls Tryz.prog 105 #[.agg #[.bool n0, .bool n1]] W _
  go_enter Tryz.func105, Tryz.ntmps105
  cases n0
  · go_wp2
    go_ret
    exact ⟨rfl, (Below.refl _ _).alloc (Nat.le_refl _) _⟩
  · go_wp2
    go_ret
    exact ⟨rfl, (Below.refl _ _).alloc (Nat.le_refl _) _⟩
theorem meet_any (n : Bool × Bool) (W : World) : Calls Tryz.prog 106 #[twoV n] W (Gives (.bool (n.1 && n.2)) W) := by
  obtain ⟨n0, n1⟩ := n
  change Calls Tryz.prog 106 #[.agg #[.bool n0, .bool n1]] W _
  go_enter Tryz.func106, Tryz.ntmps106
  cases n0
  · go_wp2
    go_ret
    exact ⟨rfl, (Below.refl _ _).alloc (Nat.le_refl _) _⟩
  · go_wp2
    go_ret
    exact ⟨rfl, (Below.refl _ _).alloc (Nat.le_refl _) _⟩
theorem cut_any (n : Bool × Bool) (W : World) : Calls Tryz.prog 107 #[twoV n] W (Gives (.bool (n.1 && !n.2)) W) := by
  obtain ⟨n0, n1⟩ := n
  change Calls Tryz.prog 107 #[.agg #[.bool n0, .bool n1]] W _
  go_enter Tryz.func107, Tryz.ntmps107
  cases n0
  · go_wp2
    go_ret
    exact ⟨rfl, (Below.refl _ _).alloc (Nat.le_refl _) _⟩
  · go_wp2
    go_ret
    exact ⟨rfl, (Below.refl _ _).alloc (Nat.le_refl _) _⟩
end Go.Proofs.YtfhljcpicdabmaaGreatDoor

/- The seat: the library's sort at edges: the same row holds the same edges, in order. -/
namespace Go.Proofs.YtfhljcpicdabmaaGreatDoor
open Go Go.RowKit Go.Ev Go.WayM
open Go.SetM hiding Sp
set_option maxRecDepth 100000
set_option maxHeartbeats 1000000
def SortBe (L : List SetM.Edge) (B : Nat) (u : Value) (W : World) (e : Ending) (w' : World) : Prop :=
  e = .returned (.tuple #[]) ∧ ∃ L' : List SetM.Edge, L'.Perm L ∧ Up L' ∧ w'.ownsRow B 151 3 u L'.length (eCells L') ∧ W.grownBy w' u.ownBlock
theorem sub_list : ∀ (L : List SetM.Edge), (∀ e ∈ L, -5000000 ≤ e.1 ∧ e.1 ≤ 5000000) → ∃ d : List EB, L = d.map (·.1)
  | [], _ => ⟨[], rfl⟩
  | e :: L, h => by
    obtain ⟨d, rfl⟩ := sub_list L fun x hx => h x (List.mem_cons_of_mem _ hx)
    exact ⟨⟨e, h e List.mem_cons_self⟩ :: d, rfl⟩
theorem sort_any (g : Nat) (eg : ∀ args w, (callFunc g args).run Tryz.prog w = .ok (.enter g args) w) (hc : ∀ (x y : EB) (W : World), Calls Tryz.prog g #[.agg (encE x).toArray, .agg (encE y).toArray] W (CmpBe x y W))
    (L : List SetM.Edge) (hn : L.length ≤ 400) (hL : ∀ e ∈ L, -5000000 ≤ e.1 ∧ e.1 ≤ 5000000) (u : Value) (B : Nat) (W : World) (hown : W.ownsRow B 151 3 u L.length (eCells L)) :
    Calls Tryz.prog 154 #[u, .func (.func g) #[] #[]] W (SortBe L B u W) := by
  have hown0 := hown
  obtain ⟨_, ⟨rfl, h0⟩ | ⟨b, cap, cur, rfl, hB, hb, h1, h2, h3, h4⟩⟩ := hown
  · have hl : L = [] := List.length_eq_zero_iff.1 h0
    subst hl
    have hcon := AnyF.slices_SortFunc_none Tryz.sortE none 0 (.func (.func g) #[] #[]) W
    change Calls Tryz.prog 154 _ _ _ at hcon
    change Calls Tryz.prog 154 _ _ _ at hcon
    refine hcon.mono ?_
    rintro e w' ⟨rfl, rfl⟩
    exact ⟨rfl, [], List.Perm.refl _, List.Pairwise.nil, hown0, ⟨rfl, rfl, rfl, Nat.le_refl _, fun _ _ _ => rfl⟩⟩
  · obtain ⟨d, rfl⟩ := sub_list L hL
    have hH : Sort.HoldsK encE 3 W b 0 d.toArray := holdsE hb (by simpa using h4)
    have hlt : b < W.heap.size := (Array.getElem?_eq_some_iff.1 hb).1
    have hsz : d.toArray.size < 4611686018427387904 := by simp at hn ⊢; omega
    have hcon := AnyQ.slices_SortFunc Tryz.sortE 3 Tryz.isAgg151 Tryz.sizeOf151 encE (fun _ => rfl) (fun x v hv => by simp [encE] at hv; rcases hv with rfl | rfl | rfl <;> rfl) cfE swoE g #[] b 0 cap d.toArray W eg (fun m os dk _ x y => hc x y _) hH hlt hsz
    change Calls Tryz.prog 154 _ _ _ at hcon
    rw [show d.toArray.size = (d.map (·.1)).length by simp] at hcon
    refine hcon.mono ?_
    rintro e w' ⟨rfl, d', n, os, hp, hs, rfl⟩
    obtain ⟨hz, _, hp⟩ := hp
    have hz' : d'.size = d.length := by simpa using hz
    have hlen : (d'.toList.map (·.1)).length = (d.map (·.1)).length := by simp [hz']
    refine ⟨rfl, d'.toList.map (·.1), ?_, ?_, ?_, ?_⟩
    · have e1 : d'.extract 0 (d.map (·.1)).length = d' := by rw [List.length_map, ← hz', Array.extract_size]
      have e2 : d.toArray.extract 0 (d.map (·.1)).length = d.toArray := by rw [List.length_map, show d.length = d.toArray.size by simp, Array.extract_size]
      rw [e1, e2] at hp
      exact hp.map _
    · refine List.pairwise_iff_getElem.2 fun i j hi hj hij => ?_
      have hi' : i < d'.size := by simpa using hi
      have hj' : j < d'.size := by simpa using hj
      have := hs i j (Nat.zero_le _) hij (by rw [List.length_map, ← hz']; exact hj')
      rw [ltE, getElem!_pos d' j hj', getElem!_pos d' i hi'] at this
      simp at this ⊢
      omega
    · rw [hlen]
      have := ownsRow_sortedE (n := n) (os := os) (d := d.toArray) (d' := d') (by simpa using hz') hB hb (by simpa using h1) h2 (by simpa using h3)
      simpa using this
    · exact grownE _
theorem sort155 (L : List SetM.Edge) (hn : L.length ≤ 400) (hL : ∀ e ∈ L, -5000000 ≤ e.1 ∧ e.1 ≤ 5000000) (u : Value) (B : Nat) (W : World) (hown : W.ownsRow B 151 3 u L.length (eCells L)) :
    Calls Tryz.prog 154 #[u, .func (.func 155) #[] #[]] W (SortBe L B u W) := sort_any 155 (enters_of Tryz.func155 (by kernel_rfl) rfl) cmp155 L hn hL u B W hown
theorem sort189 (L : List SetM.Edge) (hn : L.length ≤ 400) (hL : ∀ e ∈ L, -5000000 ≤ e.1 ∧ e.1 ≤ 5000000) (u : Value) (B : Nat) (W : World) (hown : W.ownsRow B 151 3 u L.length (eCells L)) :
    Calls Tryz.prog 154 #[u, .func (.func 189) #[] #[]] W (SortBe L B u W) := sort_any 189 (enters_of Tryz.func189 (by kernel_rfl) rfl) cmp189 L hn hL u B W hown
end Go.Proofs.YtfhljcpicdabmaaGreatDoor

/- The seat: a sweep over sorted edges that counts, the project's side. -/
namespace Go.Proofs.YtfhljcpicdabmaaGreatDoor
open Go Go.RowKit Go.Ev Go.WayM
open Go.SetM hiding Sp
set_option maxRecDepth 100000
set_option maxHeartbeats 2000000
/-- A slice of edges. -/
def EdAt (w : World) (s : Value) (L : List SetM.Edge) : Prop := ∃ A c, s = .slice A L.length c ∧ ∀ (i : Nat) (x : SetM.Edge), L[i]? = some x → ∃ g, A = some ⟨g, 0, none⟩ ∧ g < w.heap.size ∧ w.cell? ⟨g, i * 3, none⟩ = some (.int .i64 x.1) ∧ w.cell? ⟨g, i * 3 + 1, none⟩ = some (.bool x.2.1) ∧ w.cell? ⟨g, i * 3 + 2, none⟩ = some (.bool x.2.2)
theorem EdAt.below {w w' : World} {B : Nat} {s : Value} {L : List SetM.Edge} (h : EdAt w s L) (hb : Below B w w') (hB : w.heap.size ≤ B) : EdAt w' s L := by
  obtain ⟨A, c, rfl, h⟩ := h
  refine ⟨A, c, rfl, fun i x hx => ?_⟩
  obtain ⟨g, rfl, hg, c0, c1, c2⟩ := h i x hx
  have hgB : g < B := by omega
  exact ⟨g, rfl, by have := hb.size; omega, by rw [hb.cell (p := ⟨g, i * 3, none⟩) hgB]; exact c0, by rw [hb.cell (p := ⟨g, i * 3 + 1, none⟩) hgB]; exact c1, by rw [hb.cell (p := ⟨g, i * 3 + 2, none⟩) hgB]; exact c2⟩
theorem edAt_own {w : World} {B : Nat} {s : Value} {L : List SetM.Edge} (h : w.ownsRow B 151 3 s L.length (eCells L)) : EdAt w s L := by
  have h' := h
  obtain ⟨_, ⟨rfl, h0⟩ | ⟨g, cap, cur, rfl, _, hb, _⟩⟩ := h'
  · have hl : L = [] := List.length_eq_zero_iff.1 h0
    subst hl
    exact ⟨none, 0, rfl, fun i x hx => by simp at hx⟩
  · refine ⟨_, cap, rfl, fun i x hx => ⟨g, rfl, (Array.getElem?_eq_some_iff.1 hb).1, ?_⟩⟩
    have hi : i < L.length := (List.getElem?_eq_some_iff.1 hx).1
    obtain ⟨a0, a1, a2⟩ := eCells_at L i x hx
    exact ⟨by rw [h.cellAt _ (by omega)]; exact a0, by rw [h.cellAt _ (by omega)]; exact a1, by rw [h.cellAt _ (by omega)]; exact a2⟩
theorem EdAt.get {w : World} {A : Option Addr} {n c : Nat} {L : List SetM.Edge} (h : EdAt w (.slice A n c) L) : ∀ (i : Nat) (x : SetM.Edge), L[i]? = some x → ∃ g, A = some ⟨g, 0, none⟩ ∧ g < w.heap.size ∧ w.cell? ⟨g, i * 3, none⟩ = some (.int .i64 x.1) ∧ w.cell? ⟨g, i * 3 + 1, none⟩ = some (.bool x.2.1) ∧ w.cell? ⟨g, i * 3 + 2, none⟩ = some (.bool x.2.2) := by
  obtain ⟨A', c', he, h⟩ := h
  cases he
  exact h
theorem row_mono {w : World} {base base' : Nat} {e : TypeId} {size : Nat} {v : Value} {n : Nat} {xs : List Value} (h : w.ownsRow base e size v n xs) (hb : base' ≤ base) : w.ownsRow base' e size v n xs := ⟨h.1, h.2.imp id fun ⟨g, cap, cur, a, b, c⟩ => ⟨g, cap, cur, a, Nat.le_trans hb b, c⟩⟩
theorem sweep_step {σ : Type} (pass : σ → SetM.Edge → σ) (wanted : σ → Bool) {L : List SetM.Edge} {i : Nat} {x : SetM.Edge} (hx : L[i]? = some x) (st : σ) (o : Bool) (f : Int) (out : List Sp) :
    sweepL pass wanted (L.drop i) st o f out = if more x (L.drop (i + 1)) || (wanted (pass st x) == o) then sweepL pass wanted (L.drop (i + 1)) (pass st x) o f out
      else sweepL pass wanted (L.drop (i + 1)) (pass st x) (!o) x.1 (if o then out ++ [(f, x.1)] else out) := by
  obtain ⟨hi, e⟩ := List.getElem?_eq_some_iff.1 hx
  rw [List.drop_eq_getElem_cons hi, e, sweepL]
theorem more_next {L : List SetM.Edge} {i : Nat} {x y : SetM.Edge} (hy : L[i + 1]? = some y) : more x (L.drop (i + 1)) = decide (y.1 = x.1) := by
  obtain ⟨hi, e⟩ := List.getElem?_eq_some_iff.1 hy
  rw [List.drop_eq_getElem_cons hi, e, more]
theorem more_end {L : List SetM.Edge} {i : Nat} {x : SetM.Edge} (hi : i + 1 = L.length) : more x (L.drop (i + 1)) = false := by
  rw [List.drop_eq_nil_of_le (by omega), more]
def wI (n : Int) : Bool := decide (0 < n)
def SweepBe (R : List SetM.Edge → List Sp) (L : List SetM.Edge) (B : Nat) (W0 : World) (e : Ending) (w' : World) : Prop :=
  ∃ v L', e = .returned v ∧ L'.Perm L ∧ Up L' ∧ w'.ownsRow W0.heap.size 48 2 v (R L').length (spCells (R L')) ∧ Below B W0 w'
theorem sweepI_any (u : Value) (L0 : List SetM.Edge) (B : Nat) (W0 : World) (hown : W0.ownsRow B 151 3 u L0.length (eCells L0)) (hB : B ≤ W0.heap.size) (hn : L0.length ≤ 400) (hL : ∀ e ∈ L0, -5000000 ≤ e.1 ∧ e.1 ≤ 5000000) :
    Calls Tryz.prog 99 #[u, .func (.func 101) #[] #[], .func (.func 102) #[] #[]] W0 (SweepBe (fun L' => sweepL countE wI L' 0 false 0 []) L0 B W0) := by
  obtain ⟨i0, hi0, hz0, hz1, hz2⟩ := info_parts info48
  have cs := sort155 L0 hn hL u B W0 hown
  obtain ⟨A, c, hu0, _⟩ := edAt_own hown
  obtain ⟨n, hn0⟩ : ∃ n, Hid (L0.length = n) := ⟨_, Lib.hid rfl⟩
  rw [hn0.out] at hu0 hn
  subst hu0
  clear hown
  go_enter Tryz.func99, Tryz.ntmps99
  go_wp2_with (go_at_call 154; refine cs.mono ?_; rintro e w1 ⟨rfl, L, hp, hu, hown, hg⟩)
  have hnl : L.length = n := by rw [hp.length_eq, hn0.out]
  have hbL : Hid (∀ x ∈ L, -5000000 ≤ x.1 ∧ x.1 ≤ 5000000) := Lib.hid fun x hx => hL x (hp.subset hx)
  have HE : Hid (∀ w, Below w1.heap.size w1 w → EdAt w (.slice A n c) L) := Lib.hid fun w hb => (edAt_own hown).below hb (Nat.le_refl _)
  have hb1 : Hid (Below B W0 w1) := Lib.hid ((Below.refl _ _).grown hg hB fun k hk => (hown.lt k hk).1)
  have hsz1 : Hid (W0.heap.size ≤ w1.heap.size) := Lib.hid hg.size
  have hnL := Lib.hid hnl
  obtain ⟨R, hR⟩ : ∃ R, Hid (sweepL countE wI L 0 false 0 [] = R) := ⟨_, Lib.hid rfl⟩
  have hpu := Lib.hid (And.intro hp hu)
  clear cs hown hg hL hp hu hnl
  go_wp2
  go_loopw [7, 8, 9, 10, 17] (fun u7 u8 u9 u10 u17 wr => ∃ (i : Nat) (st : Int) (o : Bool) (f : Int) (out : List Sp), i ≤ n ∧ out.length ≤ i ∧ -(i : Int) ≤ st ∧ st ≤ i ∧ u17 = .int .i64 i ∧ u7 = .int .i64 st ∧ u9 = .bool o ∧ u10 = .int .i64 f ∧ Hid (sweepL countE wI (L.drop i) st o f out = R) ∧ wr.ownsRow w1.heap.size 48 2 u8 out.length (spCells out) ∧ Below w1.heap.size w1 wr) (fun _ _ _ _ u17 _ => n - (intOf u17).toNat)
  case atStart => exact ⟨0, 0, false, 0, [], by omega, by simp, by omega, by omega, rfl, rfl, rfl, rfl, by rw [List.drop_zero]; exact hR, World.ownsRow_nil _ _ _ _, Below.refl _ _⟩
  case round =>
    obtain ⟨i, st, o, f, out, hi, hol, hs1, hs2, rfl, rfl, rfl, rfl, hsw, hr, hbw⟩ := hrel
    by_cases hlt : i < n
    · obtain ⟨x, hx⟩ : ∃ x, L[i]? = some x := ⟨_, List.getElem?_eq_getElem (by have := hnL.out; omega)⟩
      have hx' := (HE.out wr hbw).get
      obtain ⟨g, rfl, hg, c0, c1, c2⟩ := hx' i x hx
      have hst := Lib.hid (sweep_step countE wI hx st o f out)
      have hall := Lib.hid hx'
      clear hx hx'
      have bi1 : (0 : Int) ≤ i := by omega
      have bi3 : (i : Int) < n := by omega
      have bi4 : (0 : Int) ≤ (i : Int) + 1 := by omega
      have bi5 : ((i : Int) + 1).toNat = i + 1 := by omega
      have bi6 : IntKind.i64.wrap ((i : Int) + 1) = (i : Int) + 1 := IntWalk.i64_in _ (by omega)
      have cE := fun W => count_edge st x W (by omega)
      obtain ⟨st', hst'⟩ : ∃ st', Hid (countE st x = st') := ⟨_, Lib.hid rfl⟩
      unfold CountBe edgeV at cE
      rw [hst'.out] at cE
      have cC : ∀ W, Calls Tryz.prog 102 #[.int .i64 st'] W fun e w' => e = .returned (.bool (decide (0 < st'))) ∧ w' = W := fun W => covered_any st' W
      obtain ⟨q, hq⟩ : ∃ q, Hid (decide (0 < st') = q) := ⟨_, Lib.hid rfl⟩
      rw [hq.out] at cC
      have hqw : Hid (wI (countE st x) = q) := Lib.hid (by rw [hst'.out]; exact hq.out)
      have hBr : w1.heap.size ≤ wr.heap.size := hbw.size
      have hstL : -((i : Int) + 1) ≤ st' ∧ st' ≤ (i : Int) + 1 := by
        have := hst'.out
        unfold countE at this
        split at this <;> omega
      obtain ⟨hs3, hs4⟩ := hstL
      by_cases h1 : i + 1 < n
      · obtain ⟨y, hy⟩ : ∃ y, L[i + 1]? = some y := ⟨_, List.getElem?_eq_getElem (by have := hnL.out; omega)⟩
        obtain ⟨g', hgg, _, e0, _, _⟩ := hall.out (i + 1) y hy
        cases hgg
        have hmo := Lib.hid (more_next (x := x) hy)
        clear hy
        have d1 : decide ((i : Int) + 1 < n) = true := by simp; omega
        have bi2 : (i : Int) + 1 < n := by omega
        by_cases hyx : y.1 = x.1
        · have d2 : (y.1 == x.1) = true := by simp [hyx]
          have hstep : Hid (sweepL countE wI (L.drop (i + 1)) st' o f out = R) := Lib.hid (by
            have := hst.out
            rw [hmo.out, show decide (y.1 = x.1) = true by simp [hyx], Bool.true_or, if_pos rfl, hst'.out] at this
            rw [← this]; exact hsw.out)
          clear hyx
          go_wp2_with (go_at_call 101; refine (cE _).mono ?_; rintro e w4 ⟨rfl, rfl⟩)
          go_quiet (fail)
          go_wp2
          go_roundw
          case rel => exact ⟨i + 1, st', o, f, out, by omega, by omega, by omega, by omega, by go_num, rfl, rfl, rfl, hstep, (hr.alloc _).alloc _, (drewN_below ((hbw.alloc hBr _).alloc (by simp; omega) _) _)⟩
          case measure => simp [intOf]; omega
        · have d2 : (y.1 == x.1) = false := by simp [hyx]
          have hmf : Hid (more x (L.drop (i + 1)) = false) := Lib.hid (by rw [hmo.out]; simp [hyx])
          clear hyx hmo
          cases o with
          | false =>
            cases q with
            | false =>
              have hstep : Hid (sweepL countE wI (L.drop (i + 1)) st' false f out = R) := Lib.hid (by
                have := hst.out
                rw [hmf.out, hqw.out, hst'.out, if_pos (by decide)] at this
                exact this.symm.trans hsw.out)
              go_wp2_with (go_at_call 101; refine (cE _).mono ?_; rintro e w4 ⟨rfl, rfl⟩)
              go_quiet ((go_at_call 102; exact Calls.quiet_of_same (cC _)))
              go_wp2
              go_roundw
              case rel => exact ⟨i + 1, st', false, f, out, by omega, by omega, by omega, by omega, by go_num, rfl, rfl, rfl, hstep, (hr.alloc _).alloc _, (drewN_below ((hbw.alloc hBr _).alloc (by simp; omega) _) _)⟩
              case measure => simp [intOf]; omega
            | true =>
              have hstep : Hid (sweepL countE wI (L.drop (i + 1)) st' true x.1 out = R) := Lib.hid (by
                have := hst.out
                rw [hmf.out, hqw.out, hst'.out, if_neg (by decide)] at this
                exact this.symm.trans hsw.out)
              go_wp2_with (go_at_call 101; refine (cE _).mono ?_; rintro e w4 ⟨rfl, rfl⟩)
              go_quiet ((go_at_call 102; exact Calls.quiet_of_same (cC _)))
              go_wp2
              go_quiet (fail)
              go_wp2
              go_roundw
              case rel => exact ⟨i + 1, st', true, x.1, out, by omega, by omega, by omega, by omega, by go_num, rfl, rfl, rfl, hstep, (hr.alloc _).alloc _, (drewN_below ((hbw.alloc hBr _).alloc (by simp; omega) _) _)⟩
              case measure => simp [intOf]; omega
          | true =>
            cases q with
            | false =>
              have hstep : Hid (sweepL countE wI (L.drop (i + 1)) st' false x.1 (out ++ [(f, x.1)]) = R) := Lib.hid (by
                have := hst.out
                rw [hmf.out, hqw.out, hst'.out, if_neg (by decide)] at this
                exact this.symm.trans hsw.out)
              go_wp2_with (go_at_call 101; refine (cE _).mono ?_; rintro e w4 ⟨rfl, rfl⟩)
              go_quiet ((go_at_call 102; exact Calls.quiet_of_same (cC _)))
              go_wp2_with (at_builtin; refine wpList_append_own _ rfl (.tmp 50) (.tmp 55) 42 rfl w1.heap.size 48 i0 (.agg #[.int .i64 0, .int .i64 0]) 2 16 Tryz.underlying42 hi0 hz0 hz1 hz2 rfl (by decide) _ _ _ rfl (((hr.alloc _).alloc _).alloc _) ⟨_, 0, none⟩ 1 1 [.int .i64 f, .int .i64 x.1] rfl rfl ?k1 ?k2 ?k3 ?k4 ?k5 ?_)
              case k1 =>
                intro j u hj
                have hc := cells_new (((wr.alloc (.cells #[.int .i64 x.1, .bool x.2.1, .bool x.2.2] 151)).alloc (.cells #[.int .i64 x.1, .bool x.2.1, .bool x.2.2] 151)).drewN nq) [.int .i64 f, .int .i64 x.1] 48 j u hj
                rw [show (((wr.alloc (.cells #[.int .i64 x.1, .bool x.2.1, .bool x.2.2] 151)).alloc (.cells #[.int .i64 x.1, .bool x.2.1, .bool x.2.2] 151)).drewN nq).heap.size = wr.heap.size + 1 + 1 by simp] at hc
                exact hc
              case k2 =>
                intro v hv
                simp only [List.mem_cons, List.not_mem_nil, or_false] at hv
                rcases hv with rfl | rfl <;> rfl
              case k3 => unfold maxLen; omega
              case k4 => omega
              case k5 => simp; omega
              intro v' w3 hown3 hg3 _
              have cb : w3.cell? ⟨wr.heap.size, 0, none⟩ = some (.int .i64 x.1) := by
                rw [World.cell?_of_block (hg3.block wr.heap.size (by simp; omega) (by intro h; have := (hr.lt _ h.symm).2; omega))]
                go_simp
              have hb3 : Below w1.heap.size w1 w3 := Below.grown (Below.alloc (drewN_below ((hbw.alloc hBr _).alloc (by simp; omega) _) nq) (by simp; omega) _) hg3 (by simp; omega) (fun j hj => (hr.lt j hj).1)
              go_wp2
              go_quiet (fail)
              go_wp2
              go_roundw
              case rel => exact ⟨i + 1, st', false, x.1, out ++ [(f, x.1)], by omega, by simp; omega, by omega, by omega, by go_num, rfl, rfl, rfl, hstep, by rw [spCells_snoc, List.length_append]; exact hown3, drewN_below hb3 _⟩
              case measure => simp [intOf]; omega
            | true =>
              have hstep : Hid (sweepL countE wI (L.drop (i + 1)) st' true f out = R) := Lib.hid (by
                have := hst.out
                rw [hmf.out, hqw.out, hst'.out, if_pos (by decide)] at this
                exact this.symm.trans hsw.out)
              go_wp2_with (go_at_call 101; refine (cE _).mono ?_; rintro e w4 ⟨rfl, rfl⟩)
              go_quiet ((go_at_call 102; exact Calls.quiet_of_same (cC _)))
              go_wp2
              go_roundw
              case rel => exact ⟨i + 1, st', true, f, out, by omega, by omega, by omega, by omega, by go_num, rfl, rfl, rfl, hstep, (hr.alloc _).alloc _, (drewN_below ((hbw.alloc hBr _).alloc (by simp; omega) _) _)⟩
              case measure => simp [intOf]; omega
      · have d1 : decide ((i : Int) + 1 < n) = false := by simp; omega
        have hmf : Hid (more x (L.drop (i + 1)) = false) := Lib.hid (more_end (by have := hnL.out; omega))
        cases o with
        | false =>
          cases q with
          | false =>
            have hstep : Hid (sweepL countE wI (L.drop (i + 1)) st' false f out = R) := Lib.hid (by
              have := hst.out
              rw [hmf.out, hqw.out, hst'.out, if_pos (by decide)] at this
              exact this.symm.trans hsw.out)
            go_wp2_with (go_at_call 101; refine (cE _).mono ?_; rintro e w4 ⟨rfl, rfl⟩)
            go_quiet ((go_at_call 102; exact Calls.quiet_of_same (cC _)))
            go_wp2
            go_roundw
            case rel => exact ⟨i + 1, st', false, f, out, by omega, by omega, by omega, by omega, by go_num, rfl, rfl, rfl, hstep, (hr.alloc _).alloc _, (drewN_below ((hbw.alloc hBr _).alloc (by simp; omega) _) _)⟩
            case measure => simp [intOf]; omega
          | true =>
            have hstep : Hid (sweepL countE wI (L.drop (i + 1)) st' true x.1 out = R) := Lib.hid (by
              have := hst.out
              rw [hmf.out, hqw.out, hst'.out, if_neg (by decide)] at this
              exact this.symm.trans hsw.out)
            go_wp2_with (go_at_call 101; refine (cE _).mono ?_; rintro e w4 ⟨rfl, rfl⟩)
            go_quiet ((go_at_call 102; exact Calls.quiet_of_same (cC _)))
            go_wp2
            go_quiet (fail)
            go_wp2
            go_roundw
            case rel => exact ⟨i + 1, st', true, x.1, out, by omega, by omega, by omega, by omega, by go_num, rfl, rfl, rfl, hstep, (hr.alloc _).alloc _, (drewN_below ((hbw.alloc hBr _).alloc (by simp; omega) _) _)⟩
            case measure => simp [intOf]; omega
        | true =>
          cases q with
          | false =>
            have hstep : Hid (sweepL countE wI (L.drop (i + 1)) st' false x.1 (out ++ [(f, x.1)]) = R) := Lib.hid (by
              have := hst.out
              rw [hmf.out, hqw.out, hst'.out, if_neg (by decide)] at this
              exact this.symm.trans hsw.out)
            go_wp2_with (go_at_call 101; refine (cE _).mono ?_; rintro e w4 ⟨rfl, rfl⟩)
            go_quiet ((go_at_call 102; exact Calls.quiet_of_same (cC _)))
            go_wp2_with (at_builtin; refine wpList_append_own _ rfl (.tmp 50) (.tmp 55) 42 rfl w1.heap.size 48 i0 (.agg #[.int .i64 0, .int .i64 0]) 2 16 Tryz.underlying42 hi0 hz0 hz1 hz2 rfl (by decide) _ _ _ rfl (((hr.alloc _).alloc _).alloc _) ⟨_, 0, none⟩ 1 1 [.int .i64 f, .int .i64 x.1] rfl rfl ?k1 ?k2 ?k3 ?k4 ?k5 ?_)
            case k1 =>
              intro j u hj
              have hc := cells_new (((wr.alloc (.cells #[.int .i64 x.1, .bool x.2.1, .bool x.2.2] 151)).alloc (.cells #[.int .i64 x.1, .bool x.2.1, .bool x.2.2] 151)).drewN nq) [.int .i64 f, .int .i64 x.1] 48 j u hj
              rw [show (((wr.alloc (.cells #[.int .i64 x.1, .bool x.2.1, .bool x.2.2] 151)).alloc (.cells #[.int .i64 x.1, .bool x.2.1, .bool x.2.2] 151)).drewN nq).heap.size = wr.heap.size + 1 + 1 by simp] at hc
              exact hc
            case k2 =>
              intro v hv
              simp only [List.mem_cons, List.not_mem_nil, or_false] at hv
              rcases hv with rfl | rfl <;> rfl
            case k3 => unfold maxLen; omega
            case k4 => omega
            case k5 => simp; omega
            intro v' w3 hown3 hg3 _
            have cb : w3.cell? ⟨wr.heap.size, 0, none⟩ = some (.int .i64 x.1) := by
              rw [World.cell?_of_block (hg3.block wr.heap.size (by simp; omega) (by intro h; have := (hr.lt _ h.symm).2; omega))]
              go_simp
            have hb3 : Below w1.heap.size w1 w3 := Below.grown (Below.alloc (drewN_below ((hbw.alloc hBr _).alloc (by simp; omega) _) nq) (by simp; omega) _) hg3 (by simp; omega) (fun j hj => (hr.lt j hj).1)
            go_wp2
            go_quiet (fail)
            go_wp2
            go_roundw
            case rel => exact ⟨i + 1, st', false, x.1, out ++ [(f, x.1)], by omega, by simp; omega, by omega, by omega, by go_num, rfl, rfl, rfl, hstep, by rw [spCells_snoc, List.length_append]; exact hown3, drewN_below hb3 _⟩
            case measure => simp [intOf]; omega
          | true =>
            have hstep : Hid (sweepL countE wI (L.drop (i + 1)) st' true f out = R) := Lib.hid (by
              have := hst.out
              rw [hmf.out, hqw.out, hst'.out, if_pos (by decide)] at this
              exact this.symm.trans hsw.out)
            go_wp2_with (go_at_call 101; refine (cE _).mono ?_; rintro e w4 ⟨rfl, rfl⟩)
            go_quiet ((go_at_call 102; exact Calls.quiet_of_same (cC _)))
            go_wp2
            go_roundw
            case rel => exact ⟨i + 1, st', true, f, out, by omega, by omega, by omega, by omega, by go_num, rfl, rfl, rfl, hstep, (hr.alloc _).alloc _, (drewN_below ((hbw.alloc hBr _).alloc (by simp; omega) _) _)⟩
            case measure => simp [intOf]; omega
    · have hin : i = n := by omega
      have HI := Lib.hid hin
      clear hin
      go_wp2
      go_ret
      have hout : out = R := by
        have := hsw.out
        rw [HI.out, List.drop_eq_nil_of_le (by rw [hnL.out]; omega), sweepL] at this
        exact this
      refine ⟨u8, L, rfl, hpu.out.1, hpu.out.2, ?_, hb1.out.trans (hbw.mono (by have := hsz1.out; omega))⟩
      show wr.ownsRow W0.heap.size 48 2 u8 (sweepL countE wI L 0 false 0 []).length (spCells (sweepL countE wI L 0 false 0 []))
      rw [show sweepL countE wI L 0 false 0 [] = out from hR.out.trans hout.symm]
      exact row_mono hr hsz1.out
end Go.Proofs.YtfhljcpicdabmaaGreatDoor

/- The seat: a sweep over sorted edges of two lists, the project's side. -/
namespace Go.Proofs.YtfhljcpicdabmaaGreatDoor
open Go Go.RowKit Go.Ev Go.WayM
open Go.SetM hiding Sp
set_option maxRecDepth 100000
set_option maxHeartbeats 2000000
theorem put2 {w : World} {B : Nat} {x y K L : Value} (h0 : w.cell? ⟨B, 0, none⟩ = some x) (h1 : w.cell? ⟨B, 1, none⟩ = some y) :
    ((w.setCell ⟨B, 0, none⟩ K).setCell ⟨B, 1, none⟩ L).cell? ⟨B, 0, none⟩ = some K ∧ ((w.setCell ⟨B, 0, none⟩ K).setCell ⟨B, 1, none⟩ L).cell? ⟨B, 1, none⟩ = some L ∧
    (∀ b o, b ≠ B → ((w.setCell ⟨B, 0, none⟩ K).setCell ⟨B, 1, none⟩ L).cell? ⟨b, o, none⟩ = w.cell? ⟨b, o, none⟩) := by
  have e0 := World.cell?_setCell_same w ⟨B, 0, none⟩ K h0
  have e1 : (w.setCell ⟨B, 0, none⟩ K).cell? ⟨B, 1, none⟩ = some y := (World.cell?_setCell_other w _ _ K (by simp)).trans h1
  refine ⟨(World.cell?_setCell_other (w.setCell ⟨B, 0, none⟩ K) ⟨B, 1, none⟩ ⟨B, 0, none⟩ L (by simp)).trans e0, World.cell?_setCell_same (w.setCell ⟨B, 0, none⟩ K) ⟨B, 1, none⟩ L e1, fun b o hb => ?_⟩
  rw [World.cell?_setCell_other _ _ _ L (by first | (simp; done) | (simp; omega)), World.cell?_setCell_other _ _ _ K (by first | (simp; done) | (simp; omega))]
/-- What the sweep's region reads. -/
abbrev SwN (B7 eb g k : Nat) (x1 y1 : Int) (t0 t1 : Bool) (w : World) : Prop := w.cell? ⟨B7, 0, none⟩ = some (.bool t0) ∧ w.cell? ⟨B7, 1, none⟩ = some (.bool t1) ∧ w.cell? ⟨eb, 0, none⟩ = some (.int .i64 x1) ∧ w.cell? ⟨g, k, none⟩ = some (.int .i64 y1)
theorem SwN.below {B7 eb g k : Nat} {x1 y1 : Int} {t0 t1 : Bool} {w w' : World} (hb : Below w.heap.size w w') (h : SwN B7 eb g k x1 y1 t0 t1 w.drew) (h1 : B7 < w.heap.size) (h2 : eb < w.heap.size) (h3 : g < w.heap.size) : SwN B7 eb g k x1 y1 t0 t1 w' :=
  ⟨(hb.cell (p := ⟨B7, 0, none⟩) h1).trans h.1, (hb.cell (p := ⟨B7, 1, none⟩) h1).trans h.2.1, (hb.cell (p := ⟨eb, 0, none⟩) h2).trans h.2.2.1, (hb.cell (p := ⟨g, k, none⟩) h3).trans h.2.2.2⟩
theorem own_belowX {w w' : World} {B e size n : Nat} {v : Value} {xs : List Value} (h : w.ownsRow B e size v n xs) (hb : Below w.heap.size w w') : w'.ownsRow B e size v n xs := by
  obtain ⟨h1, h2⟩ := h
  refine ⟨h1, ?_⟩
  rcases h2 with h2 | ⟨g, cap, cur, hv, hg, hh, r⟩
  · exact .inl h2
  · exact .inr ⟨g, cap, cur, hv, hg, (hb.block g (Array.getElem?_eq_some_iff.1 hh).1).trans hh, r⟩
theorem sweepX_any (m : Nat) (wx : Bool × Bool → Bool) (eg : ∀ args w, (callFunc m args).run Tryz.prog w = .ok (.enter m args) w) (cW : ∀ (n : Bool × Bool) (W : World), Calls Tryz.prog m #[twoV n] W (Gives (.bool (wx n)) W))
    (u : Value) (L0 : List SetM.Edge) (B : Nat) (W0 : World) (hown : W0.ownsRow B 151 3 u L0.length (eCells L0)) (hB : B ≤ W0.heap.size) (hn : L0.length ≤ 400) (hL : ∀ e ∈ L0, -5000000 ≤ e.1 ∧ e.1 ≤ 5000000) :
    Calls Tryz.prog 159 #[u, .func (.func 160) #[] #[], .func (.func m) #[] #[]] W0 (SweepBe (fun L' => sweepL crossE wx L' (false, false) false 0 []) L0 B W0) := by
  obtain ⟨i0, hi0, hz0, hz1, hz2⟩ := info_parts info48
  have cs := sort189 L0 hn hL u B W0 hown
  obtain ⟨A, c, hu0, _⟩ := edAt_own hown
  obtain ⟨n, hn0⟩ : ∃ n, Hid (L0.length = n) := ⟨_, Lib.hid rfl⟩
  rw [hn0.out] at hu0 hn
  subst hu0
  clear hown
  go_enter Tryz.func159, Tryz.ntmps159
  go_wp2_with (go_at_call 154; refine cs.mono ?_; rintro e w1 ⟨rfl, L, hp, hu, hown, hg⟩)
  have hnl : L.length = n := by rw [hp.length_eq, hn0.out]
  have hbL : Hid (∀ x ∈ L, -5000000 ≤ x.1 ∧ x.1 ≤ 5000000) := Lib.hid fun x hx => hL x (hp.subset hx)
  have HE : Hid (∀ w, Below w1.heap.size w1 w → EdAt w (.slice A n c) L) := Lib.hid fun w hb => (edAt_own hown).below hb (Nat.le_refl _)
  have hb1 : Hid (Below B W0 w1) := Lib.hid ((Below.refl _ _).grown hg hB fun k hk => (hown.lt k hk).1)
  have hsz1 : Hid (W0.heap.size ≤ w1.heap.size) := Lib.hid hg.size
  have hnL := Lib.hid hnl
  obtain ⟨R, hR⟩ : ∃ R, Hid (sweepL crossE wx L (false, false) false 0 [] = R) := ⟨_, Lib.hid rfl⟩
  have hpu := Lib.hid (And.intro hp hu)
  clear cs hown hg hL hp hu hnl
  go_wp2
  go_loopw [8, 9, 10, 17] (fun u8 u9 u10 u17 wr => ∃ (i : Nat) (s0 s1 : Bool) (o : Bool) (f : Int) (out : List Sp), i ≤ n ∧ out.length ≤ i ∧ u17 = .int .i64 i ∧ u9 = .bool o ∧ u10 = .int .i64 f ∧ Hid (sweepL crossE wx (L.drop i) (s0, s1) o f out = R) ∧ wr.ownsRow (w1.heap.size + 1) 48 2 u8 out.length (spCells out) ∧ w1.heap.size < wr.heap.size ∧ wr.cell? ⟨w1.heap.size, 0, none⟩ = some (.bool s0) ∧ wr.cell? ⟨w1.heap.size, 1, none⟩ = some (.bool s1) ∧ wr.frozen? ⟨w1.heap.size, 0, none⟩ = false ∧ wr.frozen? ⟨w1.heap.size, 1, none⟩ = false ∧ Below w1.heap.size w1 wr) (fun _ _ _ u17 _ => n - (intOf u17).toNat)
  case atStart =>
    refine ⟨0, false, false, false, 0, [], by omega, by simp, rfl, rfl, rfl, by rw [List.drop_zero]; exact hR, World.ownsRow_nil _ _ _ _, by simp, ?_, ?_, ?_, ?_, (Below.refl _ _).alloc (Nat.le_refl _) _⟩ <;> go_simp
  case round =>
    obtain ⟨i, s0, s1, o, f, out, hi, hol, rfl, rfl, rfl, hsw, hr, hsz, k0, k1, f0, f1, hbw⟩ := hrel
    by_cases hlt : i < n
    · obtain ⟨x, hx⟩ : ∃ x, L[i]? = some x := ⟨_, List.getElem?_eq_getElem (by have := hnL.out; omega)⟩
      obtain ⟨g, rfl, hgN, _⟩ := (HE.out w1 (Below.refl _ _)).get i x hx
      have hgl : g < wr.heap.size := by omega
      have hx' : ∀ (i : Nat) (x : SetM.Edge), L[i]? = some x → wr.cell? ⟨g, i * 3, none⟩ = some (.int .i64 x.1) ∧ wr.cell? ⟨g, i * 3 + 1, none⟩ = some (.bool x.2.1) ∧ wr.cell? ⟨g, i * 3 + 2, none⟩ = some (.bool x.2.2) := fun i x hx => by
        obtain ⟨g', hgg, _, h⟩ := (HE.out wr hbw).get i x hx
        cases hgg
        exact h
      obtain ⟨c0, c1, c2⟩ := hx' i x hx
      have hst := Lib.hid (sweep_step crossE wx hx (s0, s1) o f out)
      have hall := Lib.hid hx'
      clear hx hx'
      have bi1 : (0 : Int) ≤ i := by omega
      have bi3 : (i : Int) < n := by omega
      have bi4 : (0 : Int) ≤ (i : Int) + 1 := by omega
      have bi5 : ((i : Int) + 1).toNat = i + 1 := by omega
      have bi6 : IntKind.i64.wrap ((i : Int) + 1) = (i : Int) + 1 := IntWalk.i64_in _ (by omega)
      have cE := fun W => cross_edge (s0, s1) x W
      obtain ⟨t0, t1, ht⟩ : ∃ t0 t1, Hid (crossE (s0, s1) x = (t0, t1)) := ⟨_, _, Lib.hid rfl⟩
      unfold CrossBe edgeV twoV at cE
      rw [ht.out] at cE
      dsimp only at cE
      go_wp2_with fail
      refine (cE _).mono ?_
      rintro e w4 ⟨rfl, hw4⟩
      have b4 : Below wr.heap.size wr w4 := by rw [hw4]; exact ((((Below.refl _ _).alloc (Nat.le_refl _) _).alloc (by simp) _).alloc (by simp; omega) _).alloc (by simp; omega) _
      have j0 : w4.cell? ⟨w1.heap.size, 0, none⟩ = some (.bool s0) := by rw [b4.cell (p := ⟨w1.heap.size, 0, none⟩) hsz]; exact k0
      have j1 : w4.cell? ⟨w1.heap.size, 1, none⟩ = some (.bool s1) := by rw [b4.cell (p := ⟨w1.heap.size, 1, none⟩) hsz]; exact k1
      have e0 : w4.frozen? ⟨w1.heap.size, 0, none⟩ = false := by rw [b4.frozen (p := ⟨w1.heap.size, 0, none⟩) hsz]; exact f0
      have e1 : w4.frozen? ⟨w1.heap.size, 1, none⟩ = false := by rw [b4.frozen (p := ⟨w1.heap.size, 1, none⟩) hsz]; exact f1
      have je : w4.cell? ⟨wr.heap.size, 0, none⟩ = some (.int .i64 x.1) := by rw [hw4]; go_simp
      have hr4 : w4.ownsRow (w1.heap.size + 1) 48 2 u8 out.length (spCells out) := by rw [hw4]; exact (((hr.alloc _).alloc _).alloc _).alloc _
      have hsz4 : wr.heap.size + 1 ≤ w4.heap.size := by rw [hw4]; simp; try omega
      have hw4' : w1.heap.size < w4.heap.size := by omega
      clear hw4 k0 k1 f0 f1 c1 c2
      go_wp2
      refine name_world ?_
      intro wa hwa
      obtain ⟨p0, p1, pz⟩ := put2 (K := .bool t0) (L := .bool t1) j0 j1
      rw [← hwa] at p0 p1 pz
      have hwz : wa.heap.size = w4.heap.size := by rw [hwa]; simp
      have q0 : wa.frozen? ⟨w1.heap.size, 0, none⟩ = false := by rw [hwa]; simpa using e0
      have q1 : wa.frozen? ⟨w1.heap.size, 1, none⟩ = false := by rw [hwa]; simpa using e1
      have hba : Below w1.heap.size w1 wa := by rw [hwa]; exact ((hbw.trans (b4.mono (by omega))).setCell (Nat.le_refl _) _).setCell (Nat.le_refl _) _
      have hra : wa.ownsRow (w1.heap.size + 1) 48 2 u8 out.length (spCells out) := by rw [hwa]; exact ownsRow_setCell_below (ownsRow_setCell_below hr4 (by simp) _) (by simp) _
      have hje : wa.cell? ⟨wr.heap.size, 0, none⟩ = some (.int .i64 x.1) := (pz wr.heap.size 0 (by omega)).trans je
      have hcg : ∀ k, wa.cell? ⟨g, k, none⟩ = wr.cell? ⟨g, k, none⟩ := fun k => (pz g k (by omega)).trans (b4.cell (p := ⟨g, k, none⟩) hgl)
      have hB7 : w1.heap.size < wa.heap.size := by omega
      have hEb : wr.heap.size < wa.heap.size := by omega
      have hgA : g < wa.heap.size := by omega
      have hcg' := Lib.hid hcg
      clear je j0 j1 e0 e1 hwa pz hr4 b4 hbw hcg c0
      have je := hje
      clear hje
      have cC0 := fun W => cW (t0, t1) W
      unfold Gives twoV at cC0
      dsimp only at cC0
      obtain ⟨q, hq⟩ : ∃ q, Hid (wx (t0, t1) = q) := ⟨_, Lib.hid rfl⟩
      rw [hq.out] at cC0
      have cC := cC0
      clear cC0
      have hqw : Hid (wx (t0, t1) = q) := hq
      by_cases h1 : i + 1 < n
      · obtain ⟨y, hy⟩ : ∃ y, L[i + 1]? = some y := ⟨_, List.getElem?_eq_getElem (by have := hnL.out; omega)⟩
        have cy := (hcg'.out _).trans (hall.out (i + 1) y hy).1
        have hmo := Lib.hid (more_next (x := x) hy)
        clear hy
        have d1 : decide ((i : Int) + 1 < n) = true := by simp; omega
        have bi2 : (i : Int) + 1 < n := by omega
        by_cases hyx : y.1 = x.1
        · have d2 : (y.1 == x.1) = true := by simp [hyx]
          have hstep : Hid (sweepL crossE wx (L.drop (i + 1)) (t0, t1) o f out = R) := Lib.hid (by
            have := hst.out
            rw [hmo.out, show decide (y.1 = x.1) = true by simp [hyx], Bool.true_or, if_pos rfl, ht.out] at this
            rw [← this]; exact hsw.out)
          clear hyx
          go_quiet (fail)
          go_wp2
          go_roundw
          case rel => exact ⟨i + 1, t0, t1, o, f, out, by omega, by omega, by go_num, rfl, rfl, hstep, hra, by simp; omega, p0, p1, q0, q1, drewN_below hba _⟩
          case measure => simp [intOf]; omega
        · have d2 : (y.1 == x.1) = false := by simp [hyx]
          have hmf : Hid (more x (L.drop (i + 1)) = false) := Lib.hid (by rw [hmo.out]; simp [hyx])
          clear hyx hmo
          have hS0 : SwN w1.heap.size wr.heap.size g ((i + 1) * 3) x.1 y.1 t0 t1 wa.drew := ⟨p0, p1, je, cy⟩
          refine wp_region_noPanic ?_
          refine wp_region_held (S := SwN w1.heap.size wr.heap.size g ((i + 1) * 3) x.1 y.1 t0 t1) (by kernel_rfl) ?_
          refine wpAnyH_take_at 0 (some 26) (.int .i64 i) rfl rfl (by kernel_rfl) (by kernel_rfl) (by kernel_rfl) (fun _ _ _ h => h) (.inl ⟨by rfl, fun wz hSw => ?_⟩) hS0 ?_
          · (try dsimp only at hSw); go_simp
          try simp only [Act.put, List.setIfInBounds_toArray, List.set_cons_zero, List.set_cons_succ]
          refine wpAnyH_take_at 1 (some 27) (.int .i64 ((i : Int) + 1)) rfl rfl (by kernel_rfl) (by kernel_rfl) (by kernel_rfl) (fun _ _ _ h => h) (.inl ⟨by rfl, fun wz hSw => ?_⟩) hS0 ?_
          · (try dsimp only at hSw); go_simp
          try simp only [Act.put, List.setIfInBounds_toArray, List.set_cons_zero, List.set_cons_succ]
          refine wpAnyH_take_at 2 (some 28) (.slice (some ⟨g, 0, none⟩) n c) rfl rfl (by kernel_rfl) (by kernel_rfl) (by kernel_rfl) (fun _ _ _ h => h) (.inl ⟨by rfl, fun wz hSw => ?_⟩) hS0 ?_
          · (try dsimp only at hSw); go_simp
          try simp only [Act.put, List.setIfInBounds_toArray, List.set_cons_zero, List.set_cons_succ]
          refine wpAnyH_take_at 3 (some 29) (.int .i64 n) rfl rfl (by kernel_rfl) (by kernel_rfl) (by kernel_rfl) (fun _ _ _ h => h) (.inl ⟨by rfl, fun wz hSw => ?_⟩) hS0 ?_
          · (try dsimp only at hSw); go_simp
          try simp only [Act.put, List.setIfInBounds_toArray, List.set_cons_zero, List.set_cons_succ]
          refine wpAnyH_take_at 4 (some 30) (.bool true) rfl rfl (by kernel_rfl) (by kernel_rfl) (by kernel_rfl) (fun _ _ _ h => h) (.inl ⟨by rfl, fun wz hSw => ?_⟩) hS0 ?_
          · (try dsimp only at hSw); go_simp
          try simp only [Act.put, List.setIfInBounds_toArray, List.set_cons_zero, List.set_cons_succ]
          refine wpAnyH_take_at 5 (some 31) (.bool true) rfl rfl (by kernel_rfl) (by kernel_rfl) (by kernel_rfl) (fun _ _ _ h => h) (.inl ⟨by rfl, fun wz hSw => ?_⟩) hS0 ?_
          · (try dsimp only at hSw); go_simp
          try simp only [Act.put, List.setIfInBounds_toArray, List.set_cons_zero, List.set_cons_succ]
          refine wpAnyH_take_at 6 (some 32) (.slice (some ⟨g, 0, none⟩) n c) rfl rfl (by kernel_rfl) (by kernel_rfl) (by kernel_rfl) (fun _ _ _ h => h) (.inl ⟨by rfl, fun wz hSw => ?_⟩) hS0 ?_
          · (try dsimp only at hSw); go_simp
          try simp only [Act.put, List.setIfInBounds_toArray, List.set_cons_zero, List.set_cons_succ]
          refine wpAnyH_take_at 7 (some 33) (.int .i64 i) rfl rfl (by kernel_rfl) (by kernel_rfl) (by kernel_rfl) (fun _ _ _ h => h) (.inl ⟨by rfl, fun wz hSw => ?_⟩) hS0 ?_
          · (try dsimp only at hSw); go_simp
          try simp only [Act.put, List.setIfInBounds_toArray, List.set_cons_zero, List.set_cons_succ]
          refine wpAnyH_take_at 8 (some 34) (.int .i64 ((i : Int) + 1)) rfl rfl (by kernel_rfl) (by kernel_rfl) (by kernel_rfl) (fun _ _ _ h => h) (.inl ⟨by rfl, fun wz hSw => ?_⟩) hS0 ?_
          · (try dsimp only at hSw); go_simp
          try simp only [Act.put, List.setIfInBounds_toArray, List.set_cons_zero, List.set_cons_succ]
          refine wpAnyH_take_at 9 (some 35) (.pointer (some ⟨g, (i + 1) * 3, none⟩)) rfl rfl (by kernel_rfl) (by kernel_rfl) (by kernel_rfl) (fun _ _ _ h => h) (.inl ⟨by rfl, fun wz hSw => ?_⟩) hS0 ?_
          · (try dsimp only at hSw); go_simp
          try simp only [Act.put, List.setIfInBounds_toArray, List.set_cons_zero, List.set_cons_succ]
          refine wpAnyH_take_at 10 (some 36) (.pointer (some ⟨g, (i + 1) * 3, none⟩)) rfl rfl (by kernel_rfl) (by kernel_rfl) (by kernel_rfl) (fun _ _ _ h => h) (.inl ⟨by rfl, fun wz hSw => ?_⟩) hS0 ?_
          · (try dsimp only at hSw); go_simp
          try simp only [Act.put, List.setIfInBounds_toArray, List.set_cons_zero, List.set_cons_succ]
          refine wpAnyH_take_at 11 (some 37) (.int .i64 y.1) rfl rfl (by kernel_rfl) (by kernel_rfl) (by kernel_rfl) (fun _ _ _ h => h) (.inl ⟨by rfl, fun wz hSw => ?_⟩) hS0 ?_
          · (try dsimp only at hSw); go_simp
          try simp only [Act.put, List.setIfInBounds_toArray, List.set_cons_zero, List.set_cons_succ]
          refine wpAnyH_take_at 12 (some 38) (.pointer (some ⟨wr.heap.size, 0, none⟩)) rfl rfl (by kernel_rfl) (by kernel_rfl) (by kernel_rfl) (fun _ _ _ h => h) (.inl ⟨by rfl, fun wz hSw => ?_⟩) hS0 ?_
          · (try dsimp only at hSw); go_simp
          try simp only [Act.put, List.setIfInBounds_toArray, List.set_cons_zero, List.set_cons_succ]
          refine wpAnyH_take_at 13 (some 39) (.int .i64 x.1) rfl rfl (by kernel_rfl) (by kernel_rfl) (by kernel_rfl) (fun _ _ _ h => h) (.inl ⟨by rfl, fun wz hSw => ?_⟩) hS0 ?_
          · (try dsimp only at hSw); go_simp
          try simp only [Act.put, List.setIfInBounds_toArray, List.set_cons_zero, List.set_cons_succ]
          refine wpAnyH_take_at 14 (some 40) (.bool false) rfl rfl (by kernel_rfl) (by kernel_rfl) (by kernel_rfl) (fun _ _ _ h => h) (.inl ⟨by rfl, fun wz hSw => ?_⟩) hS0 ?_
          · (try dsimp only at hSw); go_simp
          try simp only [Act.put, List.setIfInBounds_toArray, List.set_cons_zero, List.set_cons_succ]
          refine wpAnyH_take_at 15 (some 41) (.bool false) rfl rfl (by kernel_rfl) (by kernel_rfl) (by kernel_rfl) (fun _ _ _ h => h) (.inl ⟨by rfl, fun wz hSw => ?_⟩) hS0 ?_
          · (try dsimp only at hSw); go_simp
          try simp only [Act.put, List.setIfInBounds_toArray, List.set_cons_zero, List.set_cons_succ]
          refine wpAnyH_take_at 16 (some 42) (.bool false) rfl rfl (by kernel_rfl) (by kernel_rfl) (by kernel_rfl) (fun _ _ _ h => h) (.inl ⟨by rfl, fun wz hSw => ?_⟩) hS0 ?_
          · (try dsimp only at hSw); go_simp
          try simp only [Act.put, List.setIfInBounds_toArray, List.set_cons_zero, List.set_cons_succ]
          refine wpAnyH_take_at 17 (some 43) (.func (.func m) #[] #[]) rfl rfl (by kernel_rfl) (by kernel_rfl) (by kernel_rfl) (fun _ _ _ h => h) (.inl ⟨by rfl, fun wz hSw => ?_⟩) hS0 ?_
          · (try dsimp only at hSw); go_simp
          try simp only [Act.put, List.setIfInBounds_toArray, List.set_cons_zero, List.set_cons_succ]
          refine wpAnyH_take_at 18 (some 44) (.agg #[.bool t0, .bool t1]) rfl rfl (by kernel_rfl) (by kernel_rfl) (by kernel_rfl) (fun _ _ _ h => h) (.inl ⟨by rfl, fun wz hSw => ?_⟩) hS0 ?_
          · (try dsimp only at hSw); go_simp
          try simp only [Act.put, List.setIfInBounds_toArray, List.set_cons_zero, List.set_cons_succ]
          refine wpAnyH_take_at 20 (some 46) (.bool o) rfl rfl (by kernel_rfl) (by kernel_rfl) (by kernel_rfl) (fun _ _ _ h => h) (.inl ⟨by rfl, fun wz hSw => ?_⟩) hS0 ?_
          · (try dsimp only at hSw); go_simp
          try simp only [Act.put, List.setIfInBounds_toArray, List.set_cons_zero, List.set_cons_succ]
          refine wpAnyH_one (j := 19) (by kernel_rfl) ?_
          refine wpOp_yes' rfl rfl ?_
          go_simp
          go_at_fn m
          with_reducible refine (cC _).mono ?_
          rintro e w5 ⟨rfl, b5⟩
          have b5' : Below wa.heap.size wa w5 := (Below.drew (Below.refl _ _)).trans (b5.mono (Nat.le_refl _))
          have hS5 : SwN w1.heap.size wr.heap.size g ((i + 1) * 3) x.1 y.1 t0 t1 w5 := SwN.below b5' hS0 hB7 hEb hgA
          refine ⟨hS5, ?_⟩
          try simp only [Act.put, List.setIfInBounds_toArray, List.set_cons_zero, List.set_cons_succ]
          refine wpAnyH_take_at 21 (some 47) (.bool (q == o)) rfl rfl (by kernel_rfl) (by kernel_rfl) (by kernel_rfl) (fun _ _ _ h => h) (.inl ⟨by rfl, fun wz hSw => ?_⟩) hS5 ?_
          · (try dsimp only at hSw); go_simp
          try simp only [Act.put, List.setIfInBounds_toArray, List.set_cons_zero, List.set_cons_succ]
          refine wpAnyH_take_at 22 (some 48) (.bool (q == o)) rfl rfl (by kernel_rfl) (by kernel_rfl) (by kernel_rfl) (fun _ _ _ h => h) (.inl ⟨by rfl, fun wz hSw => ?_⟩) hS5 ?_
          · (try dsimp only at hSw); go_simp
          try simp only [Act.put, List.setIfInBounds_toArray, List.set_cons_zero, List.set_cons_succ]
          refine wpAnyH_done (by kernel_rfl) ?_ _
          simp only [NoPanic]
          have hr5 : w5.ownsRow (w1.heap.size + 1) 48 2 u8 out.length (spCells out) := own_belowX hra b5'
          obtain ⟨p0', p1', je', _⟩ := hS5
          have q0' : w5.frozen? ⟨w1.heap.size, 0, none⟩ = false := by rw [b5'.frozen (p := ⟨w1.heap.size, 0, none⟩) hB7]; exact q0
          have q1' : w5.frozen? ⟨w1.heap.size, 1, none⟩ = false := by rw [b5'.frozen (p := ⟨w1.heap.size, 1, none⟩) hB7]; exact q1
          have hb5 : Below w1.heap.size w1 w5 := hba.trans (b5'.mono (by omega))
          have hs5 : wr.heap.size + 1 ≤ w5.heap.size := by have := b5'.size; omega
          clear b5 b5' p0 p1 je q0 q1 hra hba
          cases o with
          | false =>
            cases q with
            | false =>
              have hstep : Hid (sweepL crossE wx (L.drop (i + 1)) (t0, t1) false f out = R) := Lib.hid (by
                have := hst.out
                rw [hmf.out, ht.out, hqw.out, if_pos (by decide)] at this
                exact this.symm.trans hsw.out)
              go_wp2
              go_roundw
              case rel => exact ⟨i + 1, t0, t1, false, f, out, by omega, by omega, by go_num, rfl, rfl, hstep, hr5, by omega, p0', p1', q0', q1', hb5⟩
              case measure => simp [intOf]; omega
            | true =>
              have hstep : Hid (sweepL crossE wx (L.drop (i + 1)) (t0, t1) true x.1 out = R) := Lib.hid (by
                have := hst.out
                rw [hmf.out, ht.out, hqw.out, if_neg (by decide)] at this
                exact this.symm.trans hsw.out)
              go_wp2
              go_quiet (fail)
              go_wp2
              go_roundw
              case rel => exact ⟨i + 1, t0, t1, true, x.1, out, by omega, by omega, by go_num, rfl, rfl, hstep, hr5, by simp; omega, p0', p1', q0', q1', drewN_below hb5 _⟩
              case measure => simp [intOf]; omega
          | true =>
            cases q with
            | false =>
              have hstep : Hid (sweepL crossE wx (L.drop (i + 1)) (t0, t1) false x.1 (out ++ [(f, x.1)]) = R) := Lib.hid (by
                have := hst.out
                rw [hmf.out, ht.out, hqw.out, if_neg (by decide)] at this
                exact this.symm.trans hsw.out)
              go_wp2_with (at_builtin; refine wpList_append_own _ rfl (.tmp 50) (.tmp 55) 42 rfl (w1.heap.size + 1) 48 i0 (.agg #[.int .i64 0, .int .i64 0]) 2 16 Tryz.underlying42 hi0 hz0 hz1 hz2 rfl (by decide) _ _ _ rfl (hr5.alloc _) ⟨_, 0, none⟩ 1 1 [.int .i64 f, .int .i64 x.1] rfl rfl ?k1 ?k2 ?k3 ?k4 ?k5 ?_)
              case k2 => exact ⟨rfl, rfl⟩
              case k3 => unfold maxLen; omega
              case k4 => omega
              case k5 => omega
              intro v' w6 hown6 hg6 _
              have hlt5 : ∀ j, u8.ownBlock = some j → w1.heap.size + 1 ≤ j ∧ j < w5.heap.size := hr5.lt
              have b6 : ∀ a : Addr, a.block < w5.heap.size → some a.block ≠ u8.ownBlock → w6.cell? a = w5.cell? a := fun a h1 h2 => (World.cell?_of_block (hg6.block a.block (by simp; omega) h2)).trans (by exact World.cell?_of_block (Below.heap_alloc _ _ _ h1))
              have b6f : ∀ a : Addr, a.block < w5.heap.size → some a.block ≠ u8.ownBlock → w6.frozen? a = w5.frozen? a := fun a h1 h2 => (World.frozen?_of_block (hg6.block a.block (by simp; omega) h2)).trans (by exact World.frozen?_of_block (Below.heap_alloc _ _ _ h1))
              have nB : some w1.heap.size ≠ u8.ownBlock := fun h => by have := (hlt5 _ h.symm).1; omega
              have nE : some wr.heap.size ≠ u8.ownBlock := fun h => by have := (hr.lt _ h.symm).2; omega
              have p0'' := (b6 ⟨w1.heap.size, 0, none⟩ (show w1.heap.size < w5.heap.size by omega) nB).trans p0'
              have p1'' := (b6 ⟨w1.heap.size, 1, none⟩ (show w1.heap.size < w5.heap.size by omega) nB).trans p1'
              have je'' := (b6 ⟨wr.heap.size, 0, none⟩ (show wr.heap.size < w5.heap.size by omega) nE).trans je'
              have q0'' := (b6f ⟨w1.heap.size, 0, none⟩ (show w1.heap.size < w5.heap.size by omega) nB).trans q0'
              have q1'' := (b6f ⟨w1.heap.size, 1, none⟩ (show w1.heap.size < w5.heap.size by omega) nB).trans q1'
              have hb6 : Below w1.heap.size w1 w6 := Below.grown (Below.alloc hb5 (by omega) _) hg6 (by simp; omega) (fun j hj => by have := (hlt5 j hj).1; omega)
              have hs6 : wr.heap.size + 1 ≤ w6.heap.size := by have := hg6.size; simp at this; omega
              clear b6 b6f
              go_wp2
              go_quiet (fail)
              go_wp2
              go_roundw
              case rel => exact ⟨i + 1, t0, t1, false, x.1, out ++ [(f, x.1)], by omega, by simp; omega, by go_num, rfl, rfl, hstep, by rw [spCells_snoc, List.length_append]; exact hown6, by simp; omega, p0'', p1'', q0'', q1'', drewN_below hb6 _⟩
              case measure => simp [intOf]; omega
            | true =>
              have hstep : Hid (sweepL crossE wx (L.drop (i + 1)) (t0, t1) true f out = R) := Lib.hid (by
                have := hst.out
                rw [hmf.out, ht.out, hqw.out, if_pos (by decide)] at this
                exact this.symm.trans hsw.out)
              go_wp2
              go_roundw
              case rel => exact ⟨i + 1, t0, t1, true, f, out, by omega, by omega, by go_num, rfl, rfl, hstep, hr5, by omega, p0', p1', q0', q1', hb5⟩
              case measure => simp [intOf]; omega
      · have d1 : decide ((i : Int) + 1 < n) = false := by simp; omega
        have hmf : Hid (more x (L.drop (i + 1)) = false) := Lib.hid (more_end (by have := hnL.out; omega))
        have hS0 : SwN w1.heap.size wr.heap.size wr.heap.size 0 x.1 x.1 t0 t1 wa.drew := ⟨p0, p1, je, je⟩
        refine wp_region_noPanic ?_
        refine wp_region_held (S := SwN w1.heap.size wr.heap.size wr.heap.size 0 x.1 x.1 t0 t1) (by kernel_rfl) ?_
        refine wpAnyH_take_at 0 (some 26) (.int .i64 i) rfl rfl (by kernel_rfl) (by kernel_rfl) (by kernel_rfl) (fun _ _ _ h => h) (.inl ⟨by rfl, fun wz hSw => ?_⟩) hS0 ?_
        · (try dsimp only at hSw); go_simp
        try simp only [Act.put, List.setIfInBounds_toArray, List.set_cons_zero, List.set_cons_succ]
        refine wpAnyH_take_at 1 (some 27) (.int .i64 ((i : Int) + 1)) rfl rfl (by kernel_rfl) (by kernel_rfl) (by kernel_rfl) (fun _ _ _ h => h) (.inl ⟨by rfl, fun wz hSw => ?_⟩) hS0 ?_
        · (try dsimp only at hSw); go_simp
        try simp only [Act.put, List.setIfInBounds_toArray, List.set_cons_zero, List.set_cons_succ]
        refine wpAnyH_take_at 2 (some 28) (.slice (some ⟨g, 0, none⟩) n c) rfl rfl (by kernel_rfl) (by kernel_rfl) (by kernel_rfl) (fun _ _ _ h => h) (.inl ⟨by rfl, fun wz hSw => ?_⟩) hS0 ?_
        · (try dsimp only at hSw); go_simp
        try simp only [Act.put, List.setIfInBounds_toArray, List.set_cons_zero, List.set_cons_succ]
        refine wpAnyH_take_at 3 (some 29) (.int .i64 n) rfl rfl (by kernel_rfl) (by kernel_rfl) (by kernel_rfl) (fun _ _ _ h => h) (.inl ⟨by rfl, fun wz hSw => ?_⟩) hS0 ?_
        · (try dsimp only at hSw); go_simp
        try simp only [Act.put, List.setIfInBounds_toArray, List.set_cons_zero, List.set_cons_succ]
        refine wpAnyH_take_at 4 (some 30) (.bool false) rfl rfl (by kernel_rfl) (by kernel_rfl) (by kernel_rfl) (fun _ _ _ h => h) (.inl ⟨by rfl, fun wz hSw => ?_⟩) hS0 ?_
        · (try dsimp only at hSw); go_simp
        try simp only [Act.put, List.setIfInBounds_toArray, List.set_cons_zero, List.set_cons_succ]
        refine wpAnyH_take_at 5 (some 31) (.bool false) rfl rfl (by kernel_rfl) (by kernel_rfl) (by kernel_rfl) (fun _ _ _ h => h) (.inl ⟨by rfl, fun wz hSw => ?_⟩) hS0 ?_
        · (try dsimp only at hSw); go_simp
        try simp only [Act.put, List.setIfInBounds_toArray, List.set_cons_zero, List.set_cons_succ]
        refine wpAnyH_take_at 6 (some 32) (undef) rfl rfl (by kernel_rfl) (by kernel_rfl) (by kernel_rfl) (fun _ _ _ h => h) (.inr ⟨by rfl, rfl⟩) hS0 ?_
        try simp only [Act.put, List.setIfInBounds_toArray, List.set_cons_zero, List.set_cons_succ]
        refine wpAnyH_take_at 7 (some 33) (undef) rfl rfl (by kernel_rfl) (by kernel_rfl) (by kernel_rfl) (fun _ _ _ h => h) (.inr ⟨by rfl, rfl⟩) hS0 ?_
        try simp only [Act.put, List.setIfInBounds_toArray, List.set_cons_zero, List.set_cons_succ]
        refine wpAnyH_take_at 8 (some 34) (undef) rfl rfl (by kernel_rfl) (by kernel_rfl) (by kernel_rfl) (fun _ _ _ h => h) (.inr ⟨by rfl, rfl⟩) hS0 ?_
        try simp only [Act.put, List.setIfInBounds_toArray, List.set_cons_zero, List.set_cons_succ]
        refine wpAnyH_take_at 9 (some 35) (undef) rfl rfl (by kernel_rfl) (by kernel_rfl) (by kernel_rfl) (fun _ _ _ h => h) (.inr ⟨by rfl, rfl⟩) hS0 ?_
        try simp only [Act.put, List.setIfInBounds_toArray, List.set_cons_zero, List.set_cons_succ]
        refine wpAnyH_take_at 10 (some 36) (undef) rfl rfl (by kernel_rfl) (by kernel_rfl) (by kernel_rfl) (fun _ _ _ h => h) (.inr ⟨by rfl, rfl⟩) hS0 ?_
        try simp only [Act.put, List.setIfInBounds_toArray, List.set_cons_zero, List.set_cons_succ]
        refine wpAnyH_take_at 11 (some 37) (undef) rfl rfl (by kernel_rfl) (by kernel_rfl) (by kernel_rfl) (fun _ _ _ h => h) (.inr ⟨by rfl, rfl⟩) hS0 ?_
        try simp only [Act.put, List.setIfInBounds_toArray, List.set_cons_zero, List.set_cons_succ]
        refine wpAnyH_take_at 12 (some 38) (undef) rfl rfl (by kernel_rfl) (by kernel_rfl) (by kernel_rfl) (fun _ _ _ h => h) (.inr ⟨by rfl, rfl⟩) hS0 ?_
        try simp only [Act.put, List.setIfInBounds_toArray, List.set_cons_zero, List.set_cons_succ]
        refine wpAnyH_take_at 13 (some 39) (undef) rfl rfl (by kernel_rfl) (by kernel_rfl) (by kernel_rfl) (fun _ _ _ h => h) (.inr ⟨by rfl, rfl⟩) hS0 ?_
        try simp only [Act.put, List.setIfInBounds_toArray, List.set_cons_zero, List.set_cons_succ]
        refine wpAnyH_take_at 14 (some 40) (undef) rfl rfl (by kernel_rfl) (by kernel_rfl) (by kernel_rfl) (fun _ _ _ h => h) (.inr ⟨by rfl, rfl⟩) hS0 ?_
        try simp only [Act.put, List.setIfInBounds_toArray, List.set_cons_zero, List.set_cons_succ]
        refine wpAnyH_take_at 15 (some 41) (.bool false) rfl rfl (by kernel_rfl) (by kernel_rfl) (by kernel_rfl) (fun _ _ _ h => h) (.inl ⟨by rfl, fun wz hSw => ?_⟩) hS0 ?_
        · (try dsimp only at hSw); go_simp
        try simp only [Act.put, List.setIfInBounds_toArray, List.set_cons_zero, List.set_cons_succ]
        refine wpAnyH_take_at 16 (some 42) (.bool false) rfl rfl (by kernel_rfl) (by kernel_rfl) (by kernel_rfl) (fun _ _ _ h => h) (.inl ⟨by rfl, fun wz hSw => ?_⟩) hS0 ?_
        · (try dsimp only at hSw); go_simp
        try simp only [Act.put, List.setIfInBounds_toArray, List.set_cons_zero, List.set_cons_succ]
        refine wpAnyH_take_at 17 (some 43) (.func (.func m) #[] #[]) rfl rfl (by kernel_rfl) (by kernel_rfl) (by kernel_rfl) (fun _ _ _ h => h) (.inl ⟨by rfl, fun wz hSw => ?_⟩) hS0 ?_
        · (try dsimp only at hSw); go_simp
        try simp only [Act.put, List.setIfInBounds_toArray, List.set_cons_zero, List.set_cons_succ]
        refine wpAnyH_take_at 18 (some 44) (.agg #[.bool t0, .bool t1]) rfl rfl (by kernel_rfl) (by kernel_rfl) (by kernel_rfl) (fun _ _ _ h => h) (.inl ⟨by rfl, fun wz hSw => ?_⟩) hS0 ?_
        · (try dsimp only at hSw); go_simp
        try simp only [Act.put, List.setIfInBounds_toArray, List.set_cons_zero, List.set_cons_succ]
        refine wpAnyH_take_at 20 (some 46) (.bool o) rfl rfl (by kernel_rfl) (by kernel_rfl) (by kernel_rfl) (fun _ _ _ h => h) (.inl ⟨by rfl, fun wz hSw => ?_⟩) hS0 ?_
        · (try dsimp only at hSw); go_simp
        try simp only [Act.put, List.setIfInBounds_toArray, List.set_cons_zero, List.set_cons_succ]
        refine wpAnyH_one (j := 19) (by kernel_rfl) ?_
        refine wpOp_yes' rfl rfl ?_
        go_simp
        go_at_fn m
        with_reducible refine (cC _).mono ?_
        rintro e w5 ⟨rfl, b5⟩
        have b5' : Below wa.heap.size wa w5 := (Below.drew (Below.refl _ _)).trans (b5.mono (Nat.le_refl _))
        have hS5 : SwN w1.heap.size wr.heap.size wr.heap.size 0 x.1 x.1 t0 t1 w5 := SwN.below b5' hS0 hB7 hEb hEb
        refine ⟨hS5, ?_⟩
        try simp only [Act.put, List.setIfInBounds_toArray, List.set_cons_zero, List.set_cons_succ]
        refine wpAnyH_take_at 21 (some 47) (.bool (q == o)) rfl rfl (by kernel_rfl) (by kernel_rfl) (by kernel_rfl) (fun _ _ _ h => h) (.inl ⟨by rfl, fun wz hSw => ?_⟩) hS5 ?_
        · (try dsimp only at hSw); go_simp
        try simp only [Act.put, List.setIfInBounds_toArray, List.set_cons_zero, List.set_cons_succ]
        refine wpAnyH_take_at 22 (some 48) (.bool (q == o)) rfl rfl (by kernel_rfl) (by kernel_rfl) (by kernel_rfl) (fun _ _ _ h => h) (.inl ⟨by rfl, fun wz hSw => ?_⟩) hS5 ?_
        · (try dsimp only at hSw); go_simp
        try simp only [Act.put, List.setIfInBounds_toArray, List.set_cons_zero, List.set_cons_succ]
        refine wpAnyH_done (by kernel_rfl) ?_ _
        simp only [NoPanic]
        have hr5 : w5.ownsRow (w1.heap.size + 1) 48 2 u8 out.length (spCells out) := own_belowX hra b5'
        obtain ⟨p0', p1', je', _⟩ := hS5
        have q0' : w5.frozen? ⟨w1.heap.size, 0, none⟩ = false := by rw [b5'.frozen (p := ⟨w1.heap.size, 0, none⟩) hB7]; exact q0
        have q1' : w5.frozen? ⟨w1.heap.size, 1, none⟩ = false := by rw [b5'.frozen (p := ⟨w1.heap.size, 1, none⟩) hB7]; exact q1
        have hb5 : Below w1.heap.size w1 w5 := hba.trans (b5'.mono (by omega))
        have hs5 : wr.heap.size + 1 ≤ w5.heap.size := by have := b5'.size; omega
        clear b5 b5' p0 p1 je q0 q1 hra hba
        cases o with
        | false =>
          cases q with
          | false =>
            have hstep : Hid (sweepL crossE wx (L.drop (i + 1)) (t0, t1) false f out = R) := Lib.hid (by
              have := hst.out
              rw [hmf.out, ht.out, hqw.out, if_pos (by decide)] at this
              exact this.symm.trans hsw.out)
            go_wp2
            go_roundw
            case rel => exact ⟨i + 1, t0, t1, false, f, out, by omega, by omega, by go_num, rfl, rfl, hstep, hr5, by omega, p0', p1', q0', q1', hb5⟩
            case measure => simp [intOf]; omega
          | true =>
            have hstep : Hid (sweepL crossE wx (L.drop (i + 1)) (t0, t1) true x.1 out = R) := Lib.hid (by
              have := hst.out
              rw [hmf.out, ht.out, hqw.out, if_neg (by decide)] at this
              exact this.symm.trans hsw.out)
            go_wp2
            go_quiet (fail)
            go_wp2
            go_roundw
            case rel => exact ⟨i + 1, t0, t1, true, x.1, out, by omega, by omega, by go_num, rfl, rfl, hstep, hr5, by simp; omega, p0', p1', q0', q1', drewN_below hb5 _⟩
            case measure => simp [intOf]; omega
        | true =>
          cases q with
          | false =>
            have hstep : Hid (sweepL crossE wx (L.drop (i + 1)) (t0, t1) false x.1 (out ++ [(f, x.1)]) = R) := Lib.hid (by
              have := hst.out
              rw [hmf.out, ht.out, hqw.out, if_neg (by decide)] at this
              exact this.symm.trans hsw.out)
            go_wp2_with (at_builtin; refine wpList_append_own _ rfl (.tmp 50) (.tmp 55) 42 rfl (w1.heap.size + 1) 48 i0 (.agg #[.int .i64 0, .int .i64 0]) 2 16 Tryz.underlying42 hi0 hz0 hz1 hz2 rfl (by decide) _ _ _ rfl (hr5.alloc _) ⟨_, 0, none⟩ 1 1 [.int .i64 f, .int .i64 x.1] rfl rfl ?m1 ?m2 ?m3 ?m4 ?m5 ?_)
            case m2 => exact ⟨rfl, rfl⟩
            case m3 => unfold maxLen; omega
            case m4 => omega
            case m5 => omega
            intro v' w6 hown6 hg6 _
            have hlt5 : ∀ j, u8.ownBlock = some j → w1.heap.size + 1 ≤ j ∧ j < w5.heap.size := hr5.lt
            have b6 : ∀ a : Addr, a.block < w5.heap.size → some a.block ≠ u8.ownBlock → w6.cell? a = w5.cell? a := fun a h1 h2 => (World.cell?_of_block (hg6.block a.block (by simp; omega) h2)).trans (by exact World.cell?_of_block (Below.heap_alloc _ _ _ h1))
            have b6f : ∀ a : Addr, a.block < w5.heap.size → some a.block ≠ u8.ownBlock → w6.frozen? a = w5.frozen? a := fun a h1 h2 => (World.frozen?_of_block (hg6.block a.block (by simp; omega) h2)).trans (by exact World.frozen?_of_block (Below.heap_alloc _ _ _ h1))
            have nB : some w1.heap.size ≠ u8.ownBlock := fun h => by have := (hlt5 _ h.symm).1; omega
            have nE : some wr.heap.size ≠ u8.ownBlock := fun h => by have := (hr.lt _ h.symm).2; omega
            have p0'' := (b6 ⟨w1.heap.size, 0, none⟩ (show w1.heap.size < w5.heap.size by omega) nB).trans p0'
            have p1'' := (b6 ⟨w1.heap.size, 1, none⟩ (show w1.heap.size < w5.heap.size by omega) nB).trans p1'
            have je'' := (b6 ⟨wr.heap.size, 0, none⟩ (show wr.heap.size < w5.heap.size by omega) nE).trans je'
            have q0'' := (b6f ⟨w1.heap.size, 0, none⟩ (show w1.heap.size < w5.heap.size by omega) nB).trans q0'
            have q1'' := (b6f ⟨w1.heap.size, 1, none⟩ (show w1.heap.size < w5.heap.size by omega) nB).trans q1'
            have hb6 : Below w1.heap.size w1 w6 := Below.grown (Below.alloc hb5 (by omega) _) hg6 (by simp; omega) (fun j hj => by have := (hlt5 j hj).1; omega)
            have hs6 : wr.heap.size + 1 ≤ w6.heap.size := by have := hg6.size; simp at this; omega
            clear b6 b6f
            go_wp2
            go_quiet (fail)
            go_wp2
            go_roundw
            case rel => exact ⟨i + 1, t0, t1, false, x.1, out ++ [(f, x.1)], by omega, by simp; omega, by go_num, rfl, rfl, hstep, by rw [spCells_snoc, List.length_append]; exact hown6, by simp; omega, p0'', p1'', q0'', q1'', drewN_below hb6 _⟩
            case measure => simp [intOf]; omega
          | true =>
            have hstep : Hid (sweepL crossE wx (L.drop (i + 1)) (t0, t1) true f out = R) := Lib.hid (by
              have := hst.out
              rw [hmf.out, ht.out, hqw.out, if_pos (by decide)] at this
              exact this.symm.trans hsw.out)
            go_wp2
            go_roundw
            case rel => exact ⟨i + 1, t0, t1, true, f, out, by omega, by omega, by go_num, rfl, rfl, hstep, hr5, by omega, p0', p1', q0', q1', hb5⟩
            case measure => simp [intOf]; omega
    · have hin : i = n := by omega
      have HI := Lib.hid hin
      clear hin
      go_wp2
      go_ret
      have hout : out = R := by
        have := hsw.out
        rw [HI.out, List.drop_eq_nil_of_le (by rw [hnL.out]; omega), sweepL] at this
        exact this
      refine ⟨u8, L, rfl, hpu.out.1, hpu.out.2, ?_, hb1.out.trans (hbw.mono (by have := hsz1.out; omega))⟩
      show wr.ownsRow W0.heap.size 48 2 u8 (sweepL crossE wx L (false, false) false 0 []).length (spCells (sweepL crossE wx L (false, false) false 0 []))
      rw [show sweepL crossE wx L (false, false) false 0 [] = out from hR.out.trans hout.symm]
      exact row_mono hr (by have := hsz1.out; omega)
end Go.Proofs.YtfhljcpicdabmaaGreatDoor
