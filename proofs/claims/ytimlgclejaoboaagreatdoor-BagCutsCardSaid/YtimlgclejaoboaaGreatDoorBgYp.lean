/- Stage 4's seat: the items of a bag from one time to below another one, collected: the project's part(). -/
import Derived.Test.YtimlgclejaoboaaGreatDoorBgY
namespace Go.Proofs.YtimlgclejaoboaaGreatDoor
open Go Go.RowKit Go.Maps Go.Sort Go.RecM
open Go.RowKit (Below)
set_option maxRecDepth 100000
set_option maxHeartbeats 2000000

theorem between_in (F : Fence) (n : Nat) (hF : F.fn 141) (hro : F.round = none) (A : Option Addr) (k c : Nat) (lo hi : Int) (w : World) :
    CallsIn F n Tryz.prog 141 #[.slice A k c, .int .i64 lo, .int .i64 hi] w fun e w' => e = .returned (.func (.func 158) #[] #[.pointer (some ⟨w.heap.size, 0, none⟩), .pointer (some ⟨w.heap.size + 2, 0, none⟩), .pointer (some ⟨w.heap.size + 1, 0, none⟩)]) ∧
      w' = ((w.alloc (.cells #[.slice A k c] 23)).alloc (.cells #[.int .i64 lo] 3)).alloc (.cells #[.int .i64 hi] 3) := by
  refine callsIn_of_wp Tryz.func141 rfl hF ?_ hro
  simp only [Tryz.ntmps141, List.size_toArray, List.length_cons, List.length_nil, Nat.reduceAdd, Nat.reduceSub, Array.replicate_succ, Array.replicate_zero, List.push_toArray, List.append_toArray, List.nil_append, List.cons_append]
  gi_wp2
  go_ret
  exact ⟨rfl, rfl⟩

def ptAssign : Code := (Code.region 3 #[{ dst := some 8, op := Op.alloc 33, type := 0, pos := "time.go:23", after := #[], guard := none }, { dst := none, op := Op.store 33 (Operand.tmp 8) (Operand.tmp 13), type := 0, pos := "time.go:23", after := #[{ on := 0, ground := Ground.data }, { on := 0, ground := Ground.phase }], guard := none }] false)
def ptBody : Code := (Code.block 1 (Code.region 4 #[{ dst := some 14, op := Op.load 23 (Operand.tmp 7), type := 23, pos := "time.go:24", after := #[], guard := none }, { dst := some 15, op := Op.load 33 (Operand.tmp 8), type := 33, pos := "time.go:24", after := #[], guard := none }, { dst := some 16, op := Op.buildSlice 23 1 #[(0, Operand.tmp 15)], type := 23, pos := "time.go:24", after := #[{ on := 1, ground := Ground.data }], guard := none }, { dst := some 17, op := Op.call { callee := Callee.builtin Builtin.append, args := #[Operand.tmp 14, Operand.tmp 16], argTypes := #[23, 23] }, type := 23, pos := "time.go:24", after := #[{ on := 0, ground := Ground.data }, { on := 2, ground := Ground.data }], guard := none }, { dst := none, op := Op.store 23 (Operand.tmp 7) (Operand.tmp 17), type := 0, pos := "time.go:24", after := #[{ on := 3, ground := Ground.data }, { on := 3, ground := Ground.chain }, { on := 0, ground := Ground.phase }, { on := 1, ground := Ground.phase }, { on := 2, ground := Ground.phase }, { on := 3, ground := Ground.phase }], guard := none }] false))
/-- The loop's record: part's temporaries as they stood at the entering. -/
def ptRec (fn : FuncId) (s : Value) (lo hi : Int) (sv : Value) (Bs D : Nat) (st : LoopState) (pend : Option Code) : Loop :=
  { state := st, pending := pend, fn, tmps := #[s, .int .i64 lo, .int .i64 hi, undef, undef, undef, .slice none 0 0, .pointer (some ⟨Bs, 0, none⟩), undef, s, .int .i64 lo, .int .i64 hi, sv, undef, undef, undef, undef, undef, undef], params := #[13], assign := ptAssign, body := ptBody, defers := D }

/-- Between two rounds: the box holds a slice that owns, in a block of the call's own, what has come so far; the iterator's own boxes stand. -/
structure PtAt (w0 : World) (fn : FuncId) (s : Value) (lo hi : Int) (sv : Value) (Bs l D : Nat) (ss : List It) (W : World) : Prop where
  box : ∃ v, W.heap[Bs]? = some (.cells #[v] 23 (0, 0)) ∧ W.ownsRow w0.heap.size 33 4 v ss.length (ss.flatMap encIt)
  L : W.heap[l]? = some (.loop (ptRec fn s lo hi sv Bs D .ready none))
  K : W.heap[D]? = some (.deferred (some []))
  k1 : W.heap[Bs + 1]? = some (.cells #[s] 23 (0, 0))
  k2 : W.heap[Bs + 2]? = some (.cells #[.int .i64 lo] 3 (0, 0))
  k3 : W.heap[Bs + 3]? = some (.cells #[.int .i64 hi] 3 (0, 0))
  below : Below w0.heap.size w0 W

theorem pt_abides (w0 : World) (fn : FuncId) (s : Value) (lo hi : Int) (sv : Value) (Bs l D B : Nat) (hB : w0.heap.size ≤ B) : AbidesFrom B (PtAt w0 fn s lo hi sv Bs l D) := fun ss W W' row h hg hrow => by
  have hrow' : ∀ r, row = some r → ∃ o : Obj, W.heap[r]? = some o ∧ o.isWalk = true := fun r e => (hrow r e).2
  obtain ⟨v, hv, hr⟩ := h.box
  exact ⟨⟨v, (grownBy_keeps hg hrow' hv rfl).trans hv, ownsRow_abides_a hr hg hrow'⟩, (grownBy_keeps hg hrow' h.L rfl).trans h.L, (grownBy_keeps hg hrow' h.K rfl).trans h.K, (grownBy_keeps hg hrow' h.k1 rfl).trans h.k1, (grownBy_keeps hg hrow' h.k2 rfl).trans h.k2, (grownBy_keeps hg hrow' h.k3 rfl).trans h.k3,
    h.below.grown hg h.below.size (fun k e => Nat.le_trans hB (hrow k e).1)⟩

theorem cell_four_new (w : World) (x y z u : Value) (t : TypeId) : ∀ j v, [x, y, z, u][j]? = some v → (w.alloc (.cells #[x, y, z, u] t)).cell? ((⟨w.heap.size, 0, none⟩ : Addr).add j) = some v := by
  intro j v hj
  match j, hj with
  | 0, hj => simp at hj; subst hj; go_simp
  | 1, hj => simp at hj; subst hj; go_simp
  | 2, hj => simp at hj; subst hj; go_simp
  | 3, hj => simp at hj; subst hj; go_simp
  | j + 4, hj => simp at hj

theorem ptYield (F : Fence) (m : Nat) (w0 : World) (fn : FuncId) (hfn : F.fn fn) (s : Value) (lo hi : Int) (sv : Value) (Bs l D : Nat) (hBl : Bs ≠ l) (hDl : D ≠ l) (hDB : D ≠ Bs) (h0B : w0.heap.size ≤ Bs) (h0l : w0.heap.size ≤ l)
    (hBD : Bs + 4 ≤ D) (hDl' : D < l) (N : Nat) (hN : N ≤ maxLen) (hNb : N * 32 ≤ 140737488355328) (ss : List It) (x0 x1 x2 x3 : Int) (W : World) (h : PtAt w0 fn s lo hi sv Bs l D ss W) (hlen : ss.length < N) :
    YieldAt F m Tryz.prog l #[.agg #[.int .i64 x0, .int .i64 x1, .int .i64 x2, .int .i64 x3]] W fun e W' => e = .returned (.bool true) ∧ PtAt w0 fn s lo hi sv Bs l D (ss ++ [((x0, x1, x2), x3)]) W' ∧ KeepsWalks W W' := by
  obtain ⟨i0, hii, hz0, hz1, hz2⟩ := info_parts info33
  refine ⟨fn, #[s, .int .i64 lo, .int .i64 hi, undef, undef, undef, .slice none 0 0, .pointer (some ⟨Bs, 0, none⟩), undef, s, .int .i64 lo, .int .i64 hi, sv, .agg #[.int .i64 x0, .int .i64 x1, .int .i64 x2, .int .i64 x3], undef, undef, undef, undef, undef], ptAssign, ptBody, by simpa [ptRec] using run_yield (P := Tryz.prog) (args := #[.agg #[.int .i64 x0, .int .i64 x1, .int .i64 x2, .int .i64 x3]]) h.L rfl, roundIn_of_wpIn hfn ?_⟩
  have hl0 : l < W.heap.size := (Array.getElem?_eq_some_iff.1 h.L).1
  have h' : PtAt w0 fn s lo hi sv Bs l D ss (W.alloc (.cells #[.int .i64 x0, .int .i64 x1, .int .i64 x2, .int .i64 x3] 33)) := pt_abides w0 fn s lo hi sv Bs l D w0.heap.size (Nat.le_refl _) ss W _ none h (World.grownBy_alloc W _ none) (fun r e => by cases e)
  have hk0 : KeepsWalks W (W.alloc (.cells #[.int .i64 x0, .int .i64 x1, .int .i64 x2, .int .i64 x3] 33)) := KeepsWalks.alloc _ _
  have hW0 : (W.alloc (.cells #[.int .i64 x0, .int .i64 x1, .int .i64 x2, .int .i64 x3] 33)).heap[W.heap.size]? = some (.cells #[.int .i64 x0, .int .i64 x1, .int .i64 x2, .int .i64 x3] 33 (0, 0)) := World.alloc_heap_new W _
  have hne : l ≠ W.heap.size := by omega
  obtain ⟨v, hv, hrow⟩ := h'.box
  have hl : l < (W.alloc (.cells #[.int .i64 x0, .int .i64 x1, .int .i64 x2, .int .i64 x3] 33)).heap.size := (Array.getElem?_eq_some_iff.1 h'.L).1
  have hbr := run_beginRound (P := Tryz.prog) h'.L rfl
  obtain ⟨W2, hW2⟩ : ∃ W2, (W.alloc (.cells #[.int .i64 x0, .int .i64 x1, .int .i64 x2, .int .i64 x3] 33)).putObj l (.loop { ptRec fn s lo hi sv Bs D .ready none with state := .busy }) = W2 := ⟨_, rfl⟩
  rw [hW2] at hbr
  have hg2 : (W.alloc (.cells #[.int .i64 x0, .int .i64 x1, .int .i64 x2, .int .i64 x3] 33)).grownBy W2 (some l) := by rw [← hW2]; exact grownBy_putObj_a _ _ _
  have hk2 : KeepsWalks W W2 := hk0.trans (by rw [← hW2]; exact KeepsWalks.putObj _ h'.L rfl)
  have keep2 : ∀ j o, W.heap[j]? = some o → j ≠ l → W2.heap[j]? = some o := fun j o hj hjl => by rw [← hW2]; exact (World.putObj_heap_other hjl).trans ((Below.heap_alloc _ _ j (Array.getElem?_eq_some_iff.1 hj).1).trans hj)
  have hv2 : W2.heap[Bs]? = some (.cells #[v] 23 (0, 0)) := by rw [← hW2]; exact (World.putObj_heap_other hBl).trans hv
  have hx2 : W2.heap[W.heap.size]? = some (.cells #[.int .i64 x0, .int .i64 x1, .int .i64 x2, .int .i64 x3] 33 (0, 0)) := by rw [← hW2]; exact (World.putObj_heap_other (Ne.symm hne)).trans hW0
  have hK2 : W2.heap[D]? = some (.deferred (some [])) := by rw [← hW2]; exact (World.putObj_heap_other hDl).trans h'.K
  have hL2 : W2.heap[l]? = some (.loop { ptRec fn s lo hi sv Bs D .ready none with state := .busy }) := by rw [← hW2]; exact World.putObj_heap_same hl
  have hrow2 : W2.ownsRow w0.heap.size 33 4 v ss.length (ss.flatMap encIt) := hrow.kept hg2 (ownsRow_ne_a hrow h'.L (fun cur e => by cases e))
  have hb2 : Below w0.heap.size w0 W2 := h'.below.grown hg2 h'.below.size (fun k e => by cases e; exact h0l)
  obtain ⟨hc2, hf2⟩ := cell_of_box_a hv2
  have hx20 : W2.cell? ⟨W.heap.size, 0, none⟩ = some (.int .i64 x0) := by simp [World.cell?, hx2]
  have hx21 : W2.cell? ⟨W.heap.size, 1, none⟩ = some (.int .i64 x1) := by simp [World.cell?, hx2]
  have hx23 : W2.cell? ⟨W.heap.size, 3, none⟩ = some (.int .i64 x3) := by simp [World.cell?, hx2]
  have hx22 : W2.cell? ⟨W.heap.size, 2, none⟩ = some (.int .i64 x2) := by simp [World.cell?, hx2]
  have hBlt : Bs < W2.heap.size := (Array.getElem?_eq_some_iff.1 hv2).1
  have hl2 : l < W2.heap.size := (Array.getElem?_eq_some_iff.1 hL2).1
  have hDlt : D < W2.heap.size := (Array.getElem?_eq_some_iff.1 hK2).1
  have ne_of : ∀ {j : Nat} {o : Obj}, W2.heap[j]? = some o → (∀ cur, o ≠ .cells cur 33 (0, 0)) → some j ≠ v.ownBlock := fun hj hno => by
    rcases ownsRow_ne_a hrow2 hj hno with e | e
    · rw [e]; simp
    · exact fun e' => e e'.symm
  clear hW2 hW0 hx2
  unfold ptAssign
  gi_wp2_with gi_round_op_a
  unfold ptBody
  gi_wp2_with (first
    | (gi_at_builtin; refine wpListIn_append_own _ rfl _ _ 23 rfl w0.heap.size 33 i0 (.agg #[.int .i64 0, .int .i64 0, .int .i64 0, .int .i64 0]) 4 32 Tryz.underlying23 hii hz0 hz1 hz2 rfl (by decide) _ _ _ rfl (hrow2.alloc _) ⟨W2.heap.size, 0, none⟩ 1 1 [.int .i64 x0, .int .i64 x1, .int .i64 x2, .int .i64 x3] rfl rfl (cell_four_new _ _ _ _ _ _) (by simp [Value.oneCell']) (by omega) (by omega) (by have := hb2.size; simp; omega) ?_; intro v' w3 hown' hg3 hnil3
       have hv3 : w3.heap[Bs]? = some (.cells #[v] 23 (0, 0)) := (hg3.block Bs (by simp; omega) (ne_of hv2 (fun cur e => by cases e))).trans ((Below.heap_alloc _ _ Bs hBlt).trans hv2)
       obtain ⟨hc3, hf3⟩ := cell_of_box_a hv3
       obtain ⟨g', cap', cur', rfl, hbase', hgb', hr1, hr2, hr3, hr4⟩ : ∃ g' cap' cur', v' = .slice (some ⟨g', 0, none⟩) (ss.length + 1) cap' ∧ w0.heap.size ≤ g' ∧ w3.heap[g']? = some (.cells cur' 33 (0, 0)) ∧ ss.length + 1 ≤ cap' ∧ cap' ≤ maxLen ∧ cur'.size = cap' * 4 ∧ cur'.toList.take ((ss.length + 1) * 4) = ss.flatMap encIt ++ [.int .i64 x0, .int .i64 x1, .int .i64 x2, .int .i64 x3] := by
         rcases hown'.2 with ⟨_, h0⟩ | h'
         · exact absurd h0 (by omega)
         · exact h'
       go_frame)
    | gi_round_op_a)
  have hg3' : (W2.alloc (.cells #[.int .i64 x0, .int .i64 x1, .int .i64 x2, .int .i64 x3] 33)).grownBy w3 v.ownBlock := hg3
  have hL3 : w3.heap[l]? = some (.loop { ptRec fn s lo hi sv Bs D .ready none with state := .busy }) := (hg3'.block l (by simp; omega) (ne_of hL2 (fun cur e => by cases e))).trans ((Below.heap_alloc _ _ l hl2).trans hL2)
  have hK3 : w3.heap[D]? = some (.deferred (some [])) := (hg3'.block D (by simp; omega) (ne_of hK2 (fun cur e => by cases e))).trans ((Below.heap_alloc _ _ D hDlt).trans hK2)
  obtain ⟨w4, hw4⟩ : ∃ w4, w3.setCell ⟨Bs, 0, none⟩ (.slice (some ⟨g', 0, none⟩) (ss.length + 1) cap') = w4 := ⟨_, rfl⟩
  rw [hw4]
  have hg4 : w3.grownBy w4 (some Bs) := by rw [← hw4]; exact grownBy_setCell0_a _ _ _
  have hv4 : w4.heap[Bs]? = some (.cells #[.slice (some ⟨g', 0, none⟩) (ss.length + 1) cap'] 23 (0, 0)) := by rw [← hw4]; exact heap_setCell_box_a _ hv3
  have hL4 : w4.heap[l]? = some (.loop { ptRec fn s lo hi sv Bs D .ready none with state := .busy }) := (hg4.block l (Array.getElem?_eq_some_iff.1 hL3).1 (fun e => hBl (by cases e; rfl))).trans hL3
  have hK4 : w4.heap[D]? = some (.deferred (some [])) := (hg4.block D (Array.getElem?_eq_some_iff.1 hK3).1 (fun e => hDB (by cases e; rfl))).trans hK3
  have keep4 : ∀ j o, W.heap[j]? = some o → j ≠ l → j ≠ Bs → (∀ cur, o ≠ .cells cur 33 (0, 0)) → w4.heap[j]? = some o := fun j o hj hjl hjB hno => by
    have h2 := keep2 j o hj hjl
    have hj2 := (Array.getElem?_eq_some_iff.1 h2).1
    have h3 : w3.heap[j]? = some o := (hg3'.block j (by simp; omega) (ne_of h2 hno)).trans ((Below.heap_alloc _ _ j hj2).trans h2)
    exact (hg4.block j (Array.getElem?_eq_some_iff.1 h3).1 (fun e => hjB (by cases e; rfl))).trans h3
  have hrow4 := hown'.kept hg4 (ownsRow_ne_a hown' hv3 (fun cur e => by cases e))
  have hl4 : l < w4.heap.size := (Array.getElem?_eq_some_iff.1 hL4).1
  have hb3 : Below w0.heap.size w0 w3 := (hb2.alloc hb2.size _).grown hg3' (by have := hb2.size; simp; omega) (fun k e => (hrow2.lt k e).1)
  have hb4 : Below w0.heap.size w0 w4 := hb3.grown hg4 hb3.size (fun k e => by cases e; exact h0B)
  have hk4 : KeepsWalks W w4 := ((hk2.trans (KeepsWalks.alloc _ _)).trans (KeepsWalks.of_grownBy hg3' (ownsRow_not_walk_a (hrow2.alloc _)))).trans (by rw [← hw4]; exact KeepsWalks.setCell _ _ _)
  clear hw4
  refine ⟨_, _, run_endRound none hL4, rfl, ⟨⟨_, (World.putObj_heap_other hBl).trans hv4, ?_⟩, World.putObj_heap_same hl4, (World.putObj_heap_other hDl).trans hK4, (World.putObj_heap_other (by omega)).trans (keep4 _ _ h.k1 (by omega) (by omega) (fun cur e => by cases e)), (World.putObj_heap_other (by omega)).trans (keep4 _ _ h.k2 (by omega) (by omega) (fun cur e => by cases e)), (World.putObj_heap_other (by omega)).trans (keep4 _ _ h.k3 (by omega) (by omega) (fun cur e => by cases e)), hb4.grown (grownBy_putObj_a _ _ _) hb4.size (fun k e => by cases e; exact h0l)⟩, hk4.trans (KeepsWalks.putObj _ hL4 rfl)⟩
  have := hrow4.kept (grownBy_putObj_a w4 l (.loop { { ptRec fn s lo hi sv Bs D .ready none with state := .busy } with state := if (none : Option Code).isNone then .ready else .done, pending := none })) (ownsRow_ne_a hrow4 hL4 (fun cur e => by cases e))
  have e9 : (ss ++ [((x0, x1, x2), x3)]).flatMap encIt = ss.flatMap encIt ++ [.int .i64 x0, .int .i64 x1, .int .i64 x2, .int .i64 x3] := by simp [encIt]
  rw [e9]
  simpa using this


theorem part_in (F : Fence) (n : Nat) (hF : F.fn 110) (h1 : F.fn 141) (h2 : F.fn 158) (hro : F.round = none) (hn : 3 ≤ n) (s : Value) (l : List It) (lo hi : Int) (w : World) (hbag : BagAt w s l) (hl : l.length ≤ 300) :
    CallsIn F n Tryz.prog 110 #[s, .int .i64 lo, .int .i64 hi] w fun e w' => ∃ v, e = .returned v ∧ w'.ownsRow w.heap.size 33 4 v (betL lo hi l).length ((betL lo hi l).flatMap encIt) ∧ Below w.heap.size w w' := by
  obtain ⟨A, c, rfl, -⟩ := id hbag
  have eg : ∀ args w, (callFunc 158 args).run Tryz.prog w = .ok (.enter 158 args) w := enters_of Tryz.func158 (by kernel_rfl) rfl
  refine callsIn_of_wp_marks Tryz.func110 rfl hF ?_ hro
  simp only [Tryz.ntmps110, List.size_toArray, List.length_cons, List.length_nil, Nat.reduceAdd, Nat.reduceSub, Array.replicate_succ, Array.replicate_zero, List.push_toArray, List.append_toArray, List.nil_append, List.cons_append]
  gi_wp2
  refine ⟨fun _ => by omega, ?_⟩
  refine (between_in F (n - 1) h1 hro _ _ _ _ _ _).mono ?_
  rintro e w1 ⟨rfl, hw1⟩
  have hs1 : w1.heap.size = w.heap.size + 4 := by rw [hw1]; simp
  have bx0 : w1.heap[w.heap.size]? = some (.cells #[.slice none 0 0] 23 (0, 0)) := by
    rw [hw1]; exact (Below.heap_alloc _ _ _ (by simp; omega)).trans ((Below.heap_alloc _ _ _ (by simp; omega)).trans ((Below.heap_alloc _ _ _ (by simp)).trans (World.alloc_heap_new w _)))
  have bx1 : w1.heap[w.heap.size + 1]? = some (.cells #[.slice A l.length c] 23 (0, 0)) := by
    rw [hw1]; exact (Below.heap_alloc _ _ _ (by simp)).trans ((Below.heap_alloc _ _ _ (by simp)).trans (by have := World.alloc_heap_new (w.alloc (.cells #[.slice none 0 0] 23)) (.cells #[.slice A l.length c] 23 (0, 0)); rwa [World.size_alloc] at this))
  have bx2 : w1.heap[w.heap.size + 2]? = some (.cells #[.int .i64 lo] 3 (0, 0)) := by
    rw [hw1]; exact (Below.heap_alloc _ _ _ (by simp)).trans (by have := World.alloc_heap_new ((w.alloc (.cells #[.slice none 0 0] 23)).alloc (.cells #[.slice A l.length c] 23)) (.cells #[.int .i64 lo] 3 (0, 0)); rwa [World.size_alloc, World.size_alloc] at this)
  have bx3 : w1.heap[w.heap.size + 3]? = some (.cells #[.int .i64 hi] 3 (0, 0)) := by
    rw [hw1]; have := World.alloc_heap_new (((w.alloc (.cells #[.slice none 0 0] 23)).alloc (.cells #[.slice A l.length c] 23)).alloc (.cells #[.int .i64 lo] 3)) (.cells #[.int .i64 hi] 3 (0, 0)); rwa [World.size_alloc, World.size_alloc, World.size_alloc] at this
  have hb0 : Below w.heap.size w w1 := by
    rw [hw1]; exact ((((Below.refl _ w).alloc (Nat.le_refl _) _).alloc (by simp) _).alloc (by simp; omega) _).alloc (by simp; omega) _
  clear hw1
  rw [World.size_alloc]
  gi_wp2
  refine wpIn_rangeFunc ?_
  intro fn hfn
  rw [hro]
  obtain ⟨sv, hsv⟩ : ∃ sv, Value.func (.func 158) #[] #[.pointer (some ⟨w.heap.size + 1, 0, none⟩), .pointer (some ⟨w.heap.size + 1 + 2, 0, none⟩), .pointer (some ⟨w.heap.size + 1 + 1, 0, none⟩)] = sv := ⟨_, rfl⟩
  obtain ⟨W1, hW1⟩ : ∃ W1, (w1.alloc (.deferred (some []))).alloc (.loop (ptRec fn (.slice A l.length c) lo hi sv w.heap.size w1.heap.size .ready none)) = W1 := ⟨_, rfl⟩
  have hold : ∀ k, k < w1.heap.size → W1.heap[k]? = w1.heap[k]? := fun k hk => by
    rw [← hW1]; exact (Below.heap_alloc _ _ k (by simp; omega)).trans (Below.heap_alloc _ _ k hk)
  have hb1 : Below w.heap.size w W1 := by rw [← hW1]; exact (hb0.alloc hb0.size _).alloc (by have := hb0.size; simp; omega) _
  have hM : PtAt w fn (.slice A l.length c) lo hi sv w.heap.size (w1.heap.size + 1) w1.heap.size [] W1 :=
    ⟨⟨_, (hold w.heap.size (by omega)).trans bx0, ⟨rfl, .inl ⟨rfl, rfl⟩⟩⟩,
     by rw [← hW1]; have := World.alloc_heap_new (w1.alloc (.deferred (some []))) (.loop (ptRec fn (.slice A l.length c) lo hi sv w.heap.size w1.heap.size .ready none)); rwa [World.size_alloc] at this,
     by rw [← hW1]; exact (Below.heap_alloc _ _ _ (by simp)).trans (World.alloc_heap_new w1 _), (hold _ (by omega)).trans bx1, (hold _ (by omega)).trans bx2, (hold _ (by omega)).trans bx3, hb1⟩
  refine ⟨w1.heap.size + 1, [{ target := .collected w1.heap.size, args := #[] }], W1, { target := .fn (.func 158) #[.pointer (some ⟨w.heap.size + 1, 0, none⟩), .pointer (some ⟨w.heap.size + 1 + 2, 0, none⟩), .pointer (some ⟨w.heap.size + 1 + 1, 0, none⟩)], args := #[.func (.yield (w1.heap.size + 1)) #[] #[]] }, W1, 158,
    #[.func (.yield (w1.heap.size + 1)) #[] #[]] ++ #[.pointer (some ⟨w.heap.size + 1, 0, none⟩), .pointer (some ⟨w.heap.size + 1 + 2, 0, none⟩), .pointer (some ⟨w.heap.size + 1 + 1, 0, none⟩)], W1, ?_, ?_, ?_, ?_, fun _ => by omega, ?_⟩
  · rw [← hW1, ← hsv]; exact run_enterLoop_outer _ _ _ _ _
  · simp [resolve, go_sem]
  · intro f' hf'; simp [Target.leads] at hf'; subst hf'; exact h2
  · simp [invoke, go_sem, eg]
  · have hbox : ∀ {W : World} {j : Nat} {v : Value} {t : TypeId}, W.heap[j]? = some (.cells #[v] t (0, 0)) → W.cell? ⟨j, 0, none⟩ = some v := fun h => by simp [World.cell?, h]
    refine (iter_in F (n - 1) h2 hro (by omega) (w1.heap.size + 1) (w.heap.size + 1) (w.heap.size + 3) (w.heap.size + 2) (.slice A l.length c) lo hi l hl (PtAt w fn (.slice A l.length c) lo hi sv w.heap.size (w1.heap.size + 1) w1.heap.size) 300 hl
      (fun ss W h => ⟨hbag.below h.below (Nat.le_refl _), hbox h.k1, hbox h.k3, hbox h.k2⟩)
      (fun pre x W hJ hlp => by obtain ⟨⟨x0, x1, x2⟩, x3⟩ := x; exact ptYield F (n - 1 - 1) w fn hfn _ lo hi sv w.heap.size (w1.heap.size + 1) w1.heap.size (by omega) (by omega) (by omega) (Nat.le_refl _) (by omega) (by omega) (by omega) 300 (by decide) (by decide) pre x0 x1 x2 x3 W hJ hlp)
      W1 (pt_abides _ _ _ _ _ _ _ _ _ _ hb1.size) hM).mono ?_
    rintro e W2 ⟨⟨v0, rfl⟩, h2'⟩
    obtain ⟨v, hv, hrow⟩ := h2'.box
    have hend := run_endLoop (P := Tryz.prog) h2'.L (by simp [ptRec])
    obtain ⟨W3, hW3⟩ : ∃ W3, W2.putObj (w1.heap.size + 1) (.loop { ptRec fn (.slice A l.length c) lo hi sv w.heap.size w1.heap.size .ready none with state := .exhausted }) = W3 := ⟨_, rfl⟩
    rw [hW3] at hend
    have hg3 : W2.grownBy W3 (some (w1.heap.size + 1)) := by rw [← hW3]; exact grownBy_putObj_a _ _ _
    have hv3 : W3.heap[w.heap.size]? = some (.cells #[v] 23 (0, 0)) := by rw [← hW3]; exact (World.putObj_heap_other (by omega)).trans hv
    have hK3 : W3.heap[w1.heap.size]? = some (.deferred (some [])) := by rw [← hW3]; exact (World.putObj_heap_other (by omega)).trans h2'.K
    have hrow3 := hrow.kept hg3 (ownsRow_ne_a hrow h2'.L (fun cur e => by cases e))
    have hb3 : Below w.heap.size w W3 := h2'.below.grown hg3 h2'.below.size (fun k e => by cases e; omega)
    obtain ⟨hc3, hf3⟩ := cell_of_box_a hv3
    clear hW3
    refine ⟨none, W3, hend, ?_⟩
    gi_wp2
    rw [← hs1]
    refine ⟨by simp, .inl ⟨_, _, rfl, run_takeDeferred hK3, ?_⟩⟩
    exact ⟨_, results_tmp rfl _ _ _, v, rfl, hrow3.kept (grownBy_putObj_a _ _ _) (ownsRow_ne_a hrow3 hK3 (fun cur e => by cases e)), hb3.grown (grownBy_putObj_a _ _ _) hb3.size (fun k e => by cases e; omega)⟩

theorem part_any (s : Value) (l : List It) (lo hi : Int) (w : World) (hbag : BagAt w s l) (hl : l.length ≤ 300) :
    Calls Tryz.prog 110 #[s, .int .i64 lo, .int .i64 hi] w fun e w' => ∃ v, e = .returned v ∧ w'.ownsRow w.heap.size 33 4 v (betL lo hi l).length ((betL lo hi l).flatMap encIt) ∧ Below w.heap.size w w' :=
  callsIn_wide.1 (part_in Fence.wide 5 trivial trivial trivial rfl (by omega) s l lo hi w hbag hl)
end Go.Proofs.YtimlgclejaoboaaGreatDoor
