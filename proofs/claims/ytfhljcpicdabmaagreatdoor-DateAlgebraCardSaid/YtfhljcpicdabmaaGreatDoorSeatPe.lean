/- The seat: the project's search for a place. -/
import Derived.Test.YtfhljcpicdabmaaGreatDoorSeatPd
import Derived.Deep.LoopGhost
import Derived.Maps.AppendAt
namespace Go.Proofs.YtfhljcpicdabmaaGreatDoor
open Go Go.RowKit Go.Ev Go.WayM
set_option maxRecDepth 100000
set_option maxHeartbeats 1000000
theorem c161a (es : Nat → TypeId) : sliceOf (evCall env lib1 1000 1000 161 [I 2] ⟨layT [] es, 1000⟩) = some (1, spCells (small 2)) ∧ sliceB 1000 (evCall env lib1 1000 1000 161 [I 2] ⟨layT [] es, 1000⟩) = true := ⟨by kernel_rfl, by kernel_rfl⟩
theorem c161b (es : Nat → TypeId) : sliceOf (evCall env lib1 1000 1000 161 [I 4] ⟨layT [] es, 1000⟩) = some (6, spCells (small 4)) ∧ sliceB 1000 (evCall env lib1 1000 1000 161 [I 4] ⟨layT [] es, 1000⟩) = true := ⟨by kernel_rfl, by kernel_rfl⟩
theorem c161d (es : Nat → TypeId) : sliceOf (evCall env lib1 1000 1000 161 [I 8] ⟨layT [] es, 1000⟩) = some (28, spCells (small 8)) ∧ sliceB 1000 (evCall env lib1 1000 1000 161 [I 8] ⟨layT [] es, 1000⟩) = true := ⟨by kernel_rfl, by kernel_rfl⟩
theorem c162a (es : Nat → TypeId) : sliceOf (evCall env lib1 1000 1000 162 [I 2] ⟨layT [] es, 1000⟩) = some (1, spCells (small 2)) ∧ sliceB 1000 (evCall env lib1 1000 1000 162 [I 2] ⟨layT [] es, 1000⟩) = true := ⟨by kernel_rfl, by kernel_rfl⟩
theorem c162b (es : Nat → TypeId) : sliceOf (evCall env lib1 1000 1000 162 [I 4] ⟨layT [] es, 1000⟩) = some (6, spCells (small 4)) ∧ sliceB 1000 (evCall env lib1 1000 1000 162 [I 4] ⟨layT [] es, 1000⟩) = true := ⟨by kernel_rfl, by kernel_rfl⟩
theorem c162d (es : Nat → TypeId) : sliceOf (evCall env lib1 1000 1000 162 [I 8] ⟨layT [] es, 1000⟩) = some (28, spCells (small 8)) ∧ sliceB 1000 (evCall env lib1 1000 1000 162 [I 8] ⟨layT [] es, 1000⟩) = true := ⟨by kernel_rfl, by kernel_rfl⟩
/-- A row of small spans is returned. -/
def SmallBe (N : Nat) (w : World) (e : Ending) (w' : World) : Prop := ∃ r k, e = .returned (.slice (some ⟨r, 0, none⟩) (small N).length k) ∧ w.heap.size ≤ r ∧ SpansAt w' r (small N) ∧ Below w.heap.size w w'
theorem small_of {f N l : Nat} (w : World) (hl : (small N).length = l) (c : ∀ es : Nat → TypeId, sliceOf (evCall env lib1 1000 1000 f [I N] ⟨layT [] es, 1000⟩) = some (l, spCells (small N)) ∧ sliceB 1000 (evCall env lib1 1000 1000 f [I N] ⟨layT [] es, 1000⟩) = true) :
    Calls Tryz.prog f #[.int .i64 N] w (SmallBe N w) :=
  (run_slice env_ok lib1_ok (tabs := []) (fun t ht => by cases ht) (by show (8 : Nat) ≤ 1000; decide) (Nat.le_refl _) rfl c (fun t ht => by cases ht)).mono fun e w' ⟨r, k, he, hr, hc, hb⟩ =>
    ⟨r, k, by rw [hl]; exact he, hr, fun i p hi => ⟨hc _ _ (spCells_at (small N) i p hi).1, hc _ _ (spCells_at (small N) i p hi).2⟩, hb⟩
theorem small161 (n : Nat) (w : World) (h1 : 1 ≤ n) (h4 : n ≤ 4) : Calls Tryz.prog 161 #[.int .i64 (2 * (n : Int))] w (SmallBe (2 * n) w) := by
  have h : n = 1 ∨ n = 2 ∨ n = 3 ∨ n = 4 := by omega
  rcases h with rfl | rfl | rfl | rfl
  · exact small_of w (by decide) c161a
  · exact small_of w (by decide) c161b
  · exact small_of w (by decide) c161
  · exact small_of w (by decide) c161d
theorem small162 (n : Nat) (w : World) (h1 : 1 ≤ n) (h4 : n ≤ 4) : Calls Tryz.prog 162 #[.int .i64 (2 * (n : Int))] w (SmallBe (2 * n) w) := by
  have h : n = 1 ∨ n = 2 ∨ n = 3 ∨ n = 4 := by omega
  rcases h with rfl | rfl | rfl | rfl
  · exact small_of w (by decide) c162a
  · exact small_of w (by decide) c162b
  · exact small_of w (by decide) c162
  · exact small_of w (by decide) c162d
theorem info48 : (Tryz.prog.info? 48).map (fun i => (i.zero, i.size, i.bytes)) = some (some (.agg #[.int .i64 0, .int .i64 0]), 2, 16) := by kernel_rfl
/-- How many were tried at each place: five cells of the call's own. -/
def TriedAt (w : World) (T : Nat) (t : Nat → Nat) : Prop := w.heap[T]? = some (.cells #[.int .i64 (t 0), .int .i64 (t 1), .int .i64 (t 2), .int .i64 (t 3), .int .i64 (t 4)] 158 (0, 0))
theorem own_take {w : World} {base : Nat} {e : TypeId} {size g cap n k : Nat} {xs : List Value} (h : w.ownsRow base e size (.slice (some ⟨g, 0, none⟩) n cap) n xs) (hk : k ≤ n) : w.ownsRow base e size (.slice (some ⟨g, 0, none⟩) k cap) k (xs.take (k * size)) := by
  obtain ⟨hl, h0⟩ := h
  have hle : k * size ≤ n * size := Nat.mul_le_mul_right _ hk
  refine ⟨by rw [List.length_take, hl]; omega, .inr ?_⟩
  rcases h0 with ⟨h0, _⟩ | ⟨g', cap', cur, hv, a1, a2, a3, a4, a5, a6⟩
  · cases h0
  · cases hv
    exact ⟨g, cap, cur, rfl, a1, a2, by omega, a4, a5, by rw [← a6, List.take_take, Nat.min_eq_left hle]⟩
theorem TriedAt.lt {w : World} {T : Nat} {t : Nat → Nat} (h : TriedAt w T t) : T < w.heap.size := by
  unfold TriedAt at h
  rcases Nat.lt_or_ge T w.heap.size with hlt | hge
  · exact hlt
  · rw [Array.getElem?_eq_none hge] at h; cases h
theorem TriedAt.cell {w : World} {T : Nat} {t : Nat → Nat} (h : TriedAt w T t) {j : Nat} (hj : j < 5) : w.cell? ⟨T, j, none⟩ = some (.int .i64 (t j)) := by
  unfold TriedAt at h
  unfold World.cell?
  simp only [h]
  have hc : j = 0 ∨ j = 1 ∨ j = 2 ∨ j = 3 ∨ j = 4 := by omega
  rcases hc with rfl | rfl | rfl | rfl | rfl <;> rfl
theorem TriedAt.frozen {w : World} {T : Nat} {t : Nat → Nat} (h : TriedAt w T t) (j : Nat) : w.frozen? ⟨T, j, none⟩ = false := by
  unfold TriedAt at h
  simp [World.frozen?, h]
theorem TriedAt.set {w : World} {T : Nat} {t : Nat → Nat} (h : TriedAt w T t) {j v : Nat} (hj : j < 5) : TriedAt (w.setCell ⟨T, j, none⟩ (.int .i64 v)) T (bump t j v) := by
  unfold TriedAt at h
  unfold TriedAt
  have hc : j = 0 ∨ j = 1 ∨ j = 2 ∨ j = 3 ∨ j = 4 := by omega
  rcases hc with rfl | rfl | rfl | rfl | rfl <;> simp [World.setCell, Array.getElem?_modify, h, bump]
theorem TriedAt.keep {w w' : World} {T : Nat} {t : Nat → Nat} (h : TriedAt w T t) (hk : w'.heap[T]? = w.heap[T]?) : TriedAt w' T t := by
  unfold TriedAt at h
  exact hk.trans h
theorem own_tried_ne {w : World} {B n T : Nat} {s : Value} {xs : List Value} {t : Nat → Nat} (h : w.ownsRow B 48 2 s n xs) (ht : TriedAt w T t) : s.ownBlock ≠ some T := by
  rcases h.2 with ⟨rfl, _⟩ | ⟨g, cap, cur, rfl, _, hh, _⟩
  · simp [Value.ownBlock]
  · intro he
    have : g = T := by simpa [Value.ownBlock] using he
    subst this
    unfold TriedAt at ht
    rw [hh] at ht
    injection ht with ht
    injection ht with _ hty
    exact absurd hty (by decide)
theorem grown_set (w : World) (T j : Nat) (v : Value) : w.grownBy (w.setCell ⟨T, j, none⟩ v) (some T) :=
  ⟨rfl, rfl, rfl, by simp [World.setCell], fun k _ hne => Below.heap_setCell _ _ _ _ (fun e => hne (by rw [e]))⟩
theorem grown_of_below {w w' : World} (h : Below w.heap.size w w') : w.grownBy w' none := ⟨h.os, h.tape, h.output, h.size, fun i hi _ => h.block i hi⟩
theorem own_or (s : Value) (r : Option Nat) (h : s.ownBlock ≠ r) : s.ownBlock = none ∨ s.ownBlock ≠ r := .inr h
theorem own_none (s : Value) : s.ownBlock = none ∨ s.ownBlock ≠ none := Classical.em _
theorem spCells_snoc (l : List Sp) (p : Sp) : spCells (l ++ [p]) = spCells l ++ [.int .i64 p.1, .int .i64 p.2] := by
  unfold spCells; rw [List.flatMap_append]; rfl
theorem spCells_take : ∀ (l : List Sp) (k : Nat), (spCells l).take (k * 2) = spCells (l.take k)
  | [], k => by simp [spCells]
  | p :: l, 0 => by simp [spCells]
  | p :: l, k + 1 => by
    have e : spCells (p :: l) = .int .i64 p.1 :: .int .i64 p.2 :: spCells l := rfl
    rw [e, show (k + 1) * 2 = k * 2 + 1 + 1 by omega, List.take_succ_cons, List.take_succ_cons, spCells_take l k]
    rfl
theorem spCells_len (l : List Sp) : (spCells l).length = l.length * 2 := by
  induction l with
  | nil => rfl
  | cons p l ih =>
    have e : spCells (p :: l) = .int .i64 p.1 :: .int .i64 p.2 :: spCells l := rfl
    rw [e]; simp [ih]; omega
theorem spAt_own {w : World} {B : Nat} {s : Value} {l : List Sp} (h : w.ownsRow B 48 2 s l.length (spCells l)) : SpAt w s l := by
  rcases h.2 with ⟨rfl, h0⟩ | ⟨g, cap, cur, rfl, _⟩
  · have : l = [] := List.eq_nil_of_length_eq_zero h0
    subst this
    exact ⟨none, 0, rfl, fun h => by simp at h⟩
  · refine ⟨_, _, rfl, fun hn => ⟨g, 0, rfl, (h.lt g (by simp [Value.ownBlock])).2, fun i p hp => ?_⟩⟩
    have hi : i < l.length := (List.getElem?_eq_some_iff.1 hp).1
    have hc := spCells_at l i p hp
    have hl := spCells_len l
    rw [Nat.zero_add]
    exact ⟨(h.cellAt (i * 2) (by omega)).trans hc.1, (h.cellAt (i * 2 + 1) (by omega)).trans hc.2⟩
/-- Where the search stands, in memory. -/
def PlSt (S : List Sp) (r T : Nat) (W0 : World) (l : List Sp) (t : Nat → Nat) (u : Value) (w : World) : Prop :=
  w.ownsRow W0.heap.size 48 2 u l.length (spCells l) ∧ u.ownBlock ≠ some r ∧ TriedAt w T t ∧ SpansAt w r S ∧ r < w.heap.size ∧ W0.heap.size ≤ T ∧ r ≠ T ∧ Below W0.heap.size W0 w
section
variable {S : List Sp} {r T : Nat} {W0 : World} {l : List Sp} {t : Nat → Nat} {u : Value} {w w' : World}
theorem PlSt.below (h : PlSt S r T W0 l t u w) (hb : Below w.heap.size w w') : PlSt S r T W0 l t u w' := by
  obtain ⟨h1, h2, h3, h4, h5, h6, h7, h8⟩ := h
  exact ⟨h1.kept (grown_of_below hb) (own_none _), h2, h3.keep (hb.block T h3.lt), h4.below hb h5, by have := hb.size; omega, h6, h7, h8.trans (hb.mono h8.size)⟩
theorem PlSt.set (h : PlSt S r T W0 l t u w) {j v : Nat} {z : Int} (hj : j < 5) (hz : z = (v : Int)) : PlSt S r T W0 l (bump t j v) u (w.setCell ⟨T, j, none⟩ (.int .i64 z)) := by
  subst hz
  obtain ⟨h1, h2, h3, h4, h5, h6, h7, h8⟩ := h
  refine ⟨h1.kept (grown_set w T j _) (.inr (own_tried_ne h1 h3)), h2, h3.set hj, fun i p hi => ?_, by simp [World.setCell]; exact h5, h6, h7, h8.setCell h6 _⟩
  have hc := h4 i p hi
  have hg := grown_set w T j (.int .i64 v)
  exact ⟨hg.cell hc.1 (fun e => h7 (by cases e; rfl)), hg.cell hc.2 (fun e => h7 (by cases e; rfl))⟩
theorem PlSt.net {s : Value} {net : Net} (h : PlSt S r T W0 l t u w) (hn : NetAt W0 s net) : NetAt w s net := hn.below h.2.2.2.2.2.2.2 (Nat.le_refl _)
theorem PlSt.sp (h : PlSt S r T W0 l t u w) : SpAt w u l := spAt_own h.1
theorem PlSt.app {v' : Value} {p : Sp} (h : PlSt S r T W0 l t u w) (ho : w'.ownsRow W0.heap.size 48 2 v' (l.length + 1) (spCells l ++ [.int .i64 p.1, .int .i64 p.2])) (hg : w.grownBy w' u.ownBlock) (ha : v'.ownBlock = u.ownBlock ∨ v'.ownBlock = some w.heap.size) : PlSt S r T W0 (l ++ [p]) t v' w' := by
  obtain ⟨h1, h2, h3, h4, h5, h6, h7, h8⟩ := h
  have hT := own_tried_ne h1 h3
  refine ⟨by rw [spCells_snoc, List.length_append]; exact ho, ?_, h3.keep (hg.block T h3.lt (fun e => hT e.symm)), fun i q hi => ?_, by have := hg.size; omega, h6, h7, h8.grown hg h8.size (fun k hk => (h1.lt k hk).1)⟩
  · rcases ha with e | e
    · rw [e]; exact h2
    · rw [e]; intro he; cases he; omega
  · have hc := h4 i q hi
    exact ⟨hg.cell hc.1 (fun e => h2 e.symm), hg.cell hc.2 (fun e => h2 e.symm)⟩
theorem PlSt.pop {g cap k : Nat} (h : PlSt S r T W0 l t (.slice (some ⟨g, 0, none⟩) l.length cap) w) (hk : k ≤ l.length) : PlSt S r T W0 (l.take k) t (.slice (some ⟨g, 0, none⟩) k cap) w := by
  obtain ⟨h1, h2, h3, h4, h5, h6, h7, h8⟩ := h
  have := own_take h1 hk
  rw [spCells_take] at this
  exact ⟨by rw [List.length_take, Nat.min_eq_left hk]; exact this, h2, h3, h4, h5, h6, h7, h8⟩
end
def pot (m n : Nat) (t : Nat → Nat) (k : Nat) : Nat := (n + 2) * mu m n t k + k
/-- Where the search stands, in mathematics. -/
def PlMath (net : Net) (S : List Sp) (n : Nat) (R : Option (List Sp)) (l : List Sp) (t : Nat → Nat) (g : Nat) : Prop :=
  fitsAll net l = true ∧ (∀ p ∈ l, p ∈ S) ∧ (∀ j, j ≤ l.length → t j ≤ S.length) ∧ (l.length < n → res net S n l t l.length = R) ∧ (l.length = n → R = some l) ∧ pot S.length n t l.length ≤ g
section
variable {net : Net} {S : List Sp} {n g : Nat} {R : Option (List Sp)} {l : List Sp} {t : Nat → Nat} {p : Sp}
theorem PlMath.skip (h : PlMath net S n R l t g) (hl : l.length < n) (hp : S[t l.length]? = some p) (hf : fitsNext net l p = false) : PlMath net S n R l (bump t l.length (t l.length + 1)) g := by
  obtain ⟨h1, h2, h3, h4, h5, h6⟩ := h
  have hlt : t l.length < S.length := (List.getElem?_eq_some_iff.1 hp).1
  refine ⟨h1, h2, fun j hj => ?_, fun _ => ?_, fun e => absurd e (by omega), ?_⟩
  · by_cases e : j = l.length
    · subst e; rw [bump_at]; omega
    · rw [bump_ne e]; exact h3 j hj
  · rw [← res_skip net S n l t hp (by rw [fits_snoc, hf, Bool.and_false]), h4 hl]
  · have := mu_skip S.length n t l.length hlt
    have := Nat.mul_le_mul_left (n + 2) (Nat.le_of_lt this)
    unfold pot at h6 ⊢
    omega
theorem PlMath.push (h : PlMath net S n R l t g) (hl : l.length < n) (hp : S[t l.length]? = some p) (hf : fitsNext net l p = true) : ∃ g', g' < g ∧ PlMath net S n R (l ++ [p]) (bump (bump t l.length (t l.length + 1)) (l.length + 1) 0) g' := by
  obtain ⟨h1, h2, h3, h4, h5, h6⟩ := h
  have hlt : t l.length < S.length := (List.getElem?_eq_some_iff.1 hp).1
  have hfa : fitsAll net (l ++ [p]) = true := by rw [fits_snoc, h1, hf]; rfl
  refine ⟨pot S.length n (bump (bump t l.length (t l.length + 1)) (l.length + 1) 0) (l.length + 1), ?_, hfa, fun q hq => ?_, fun j hj => ?_, fun hl2 => ?_, fun he => ?_, by rw [List.length_append]; exact Nat.le_refl _⟩
  · have := mu_push S.length n t l.length hlt hl
    have h7 := Nat.mul_le_mul_left (n + 2) (show mu S.length n (bump (bump t l.length (t l.length + 1)) (l.length + 1) 0) (l.length + 1) + 1 ≤ mu S.length n t l.length from this)
    rw [Nat.mul_add] at h7
    unfold pot at h6 ⊢
    omega
  · rcases List.mem_append.1 hq with hq | hq
    · exact h2 q hq
    · rw [List.mem_singleton] at hq; subst hq; exact List.mem_of_getElem? hp
  · rw [List.length_append] at hj
    by_cases e : j = l.length + 1
    · subst e; rw [bump_at]; omega
    · rw [bump_ne e]
      by_cases e2 : j = l.length
      · subst e2; rw [bump_at]; omega
      · rw [bump_ne e2]; exact h3 j (by simp at hj; omega)
  · rw [List.length_append] at hl2 ⊢
    rw [← h4 hl, res_push net S n l t hp hfa hl2]; rfl
  · rw [List.length_append] at he
    rw [← h4 hl, res_end net S n l t hp hfa he]
theorem PlMath.pop {k : Nat} (h : PlMath net S n R l t g) (hl : l.length < n) (hk : l.length = k + 1) (ht : S.length ≤ t l.length) : ∃ g', g' < g ∧ PlMath net S n R (l.take k) t g' := by
  obtain ⟨h1, h2, h3, h4, h5, h6⟩ := h
  have hlen : (l.take k).length = k := by rw [List.length_take]; omega
  refine ⟨pot S.length n t k, ?_, fits_take h1 k, fun q hq => h2 q (List.mem_of_mem_take hq), fun j hj => h3 j (by rw [hlen] at hj; omega), fun _ => ?_, fun he => by rw [hlen] at he; omega, by rw [hlen]; exact Nat.le_refl _⟩
  · have := mu_pop S.length n t k
    have := Nat.mul_le_mul_left (n + 2) this
    unfold pot at h6 ⊢
    rw [hk] at h6
    omega
  · rw [hlen, ← res_pop net S n l t hk ht, h4 hl]
theorem PlMath.fail (h : PlMath net S n R l t g) (hl : l.length < n) (hk : l.length = 0) (ht : S.length ≤ t l.length) : R = none := by
  obtain ⟨h1, h2, h3, h4, h5, h6⟩ := h
  rw [← h4 hl, hk]
  rw [hk] at ht
  exact res_fail net S n l t ht
theorem PlMath.start (hn : 0 < n) (h0 : ∀ j, t j = 0) : ∃ g, PlMath net S n (srch net S n []) [] t g :=
  ⟨_, rfl, fun _ h => by simp at h, fun j _ => by rw [h0]; omega, fun _ => res_start net S n t hn (h0 0), fun e => by simp at e; omega, Nat.le_refl _⟩
end
theorem Box.set {w : World} {b T j : Nat} {p : Sp} (h : Box w b p) (hne : b ≠ T) (v : Value) : Box (w.setCell ⟨T, j, none⟩ v) b p :=
  ⟨(grown_set w T j v).cell h.1 (fun e => hne (by cases e; rfl)), (grown_set w T j v).cell h.2.1 (fun e => hne (by cases e; rfl)), by simp [World.setCell]; exact h.2.2⟩
theorem two_cell (w : World) (x y : Value) (t : TypeId) : ∀ j u, ([x, y] : List Value)[j]? = some u → (w.alloc (.cells #[x, y] t)).cell? ((⟨w.heap.size, 0, none⟩ : Addr).add j) = some u := by
  intro j u h
  cases j with
  | zero =>
    simp only [List.getElem?_cons_zero, Option.some.injEq] at h
    subst h
    show (w.alloc (.cells #[x, y] t)).cell? ⟨w.heap.size, 0, none⟩ = some x
    go_simp
  | succ j =>
    cases j with
    | zero =>
      simp only [List.getElem?_cons_succ, List.getElem?_cons_zero, Option.some.injEq] at h
      subst h
      show (w.alloc (.cells #[x, y] t)).cell? ⟨w.heap.size, 1, none⟩ = some y
      go_simp
    | succ j => simp at h
theorem two_one (n m : Int) : ∀ u ∈ ([.int .i64 n, .int .i64 m] : List Value), u.oneCell' = true := by
  intro u h
  simp only [List.mem_cons, List.not_mem_nil, or_false] at h
  rcases h with rfl | rfl <;> rfl
theorem own_some {w : World} {B n c : Nat} {A : Option Addr} {xs : List Value} (h : w.ownsRow B 48 2 (.slice A n c) n xs) (h0 : 0 < n) : ∃ g, A = some ⟨g, 0, none⟩ ∧ n ≤ c := by
  rcases h.2 with ⟨_, h1⟩ | ⟨g, cap, cur, hv, _, _, hc, _⟩
  · omega
  · cases hv
    exact ⟨g, rfl, hc⟩
def FirstBe (net : Net) (W0 : World) (e : Ending) (w' : World) : Prop := ∃ v l, e = .returned v ∧ w'.ownsRow W0.heap.size 48 2 v l.length (spCells l) ∧ ((l.length = net.length ∧ srch net (small (2 * net.length)) net.length [] = some l) ∨ (l.length < net.length ∧ srch net (small (2 * net.length)) net.length [] = none)) ∧ Below W0.heap.size W0 w'
theorem small_28 (n : Nat) (h1 : 1 ≤ n) (h4 : n ≤ 4) : 1 ≤ (small (2 * n)).length ∧ (small (2 * n)).length ≤ 28 := by
  have h : n = 1 ∨ n = 2 ∨ n = 3 ∨ n = 4 := by omega
  rcases h with rfl | rfl | rfl | rfl <;> decide
theorem firstP_any (s : Value) (net : Net) (W0 : World) (h : NetAt W0 s net) (hN : Hid (netB net = true)) (h0 : 0 < net.length) :
    Calls Tryz.prog 119 #[s] W0 (FirstBe net W0) := by
  obtain ⟨i0, hi0, hz0, hz1, hz2⟩ := info_parts info48
  obtain ⟨A, c, rfl, _⟩ := id h
  obtain ⟨n, hn⟩ : ∃ n, Hid (net.length = n) := ⟨_, Lib.hid rfl⟩
  have h4 := netB_four hN.out
  rw [hn.out] at h h4 h0 ⊢
  have HN := Lib.hid h
  clear h
  go_enter Tryz.func119, Tryz.ntmps119
  go_wp2_with fail
  go_step3
  go_wp2_with fail
  refine (small161 n _ (by omega) h4).mono ?_
  rintro e w1 ⟨r, kk, rfl, hr, hsp, hb⟩
  have hsl := small_28 n (by omega) h4
  obtain ⟨S, hS⟩ : ∃ S, Hid (small (2 * n) = S) := ⟨_, Lib.hid rfl⟩
  rw [hS.out] at hsp hsl ⊢
  obtain ⟨ms, hms⟩ : ∃ ms, Hid (S.length = ms) := ⟨_, Lib.hid rfl⟩
  rw [hms.out] at hsl ⊢
  obtain ⟨sl1, sl2⟩ := hsl
  go_wp2
  go_step3
  go_wp2
  have hrs : r < w1.heap.size := by
    rcases Nat.lt_or_ge r w1.heap.size with h' | h'
    · exact h'
    · obtain ⟨p, hp⟩ : ∃ p, S[0]? = some p := ⟨_, List.getElem?_eq_getElem (by have := hms.out; omega)⟩
      have := (hsp 0 p hp).1
      unfold World.cell? at this
      simp [Array.getElem?_eq_none h'] at this
  have hst0 : PlSt S r w1.heap.size W0 [] (fun _ => 0) (.slice none 0 0) (w1.alloc (.cells #[.int .i64 0, .int .i64 0, .int .i64 0, .int .i64 0, .int .i64 0] 158)) :=
    ⟨World.ownsRow_nil _ _ _ _, by simp [Value.ownBlock], heap_alloc_new w1 _, hsp.below (below_new w1 _) hrs, by simp; omega, hb.size, by omega, hb.alloc hb.size _⟩
  obtain ⟨G0, hmt0⟩ := PlMath.start (net := net) (S := S) (n := n) (t := fun _ => 0) h0 (fun _ => rfl)
  obtain ⟨R, hR⟩ : ∃ R, Hid (srch net S n [] = R) := ⟨_, Lib.hid rfl⟩
  rw [hR.out] at hmt0
  clear hsp hrs hb hr
  obtain ⟨T, hT⟩ : ∃ T, w1.heap.size = T := ⟨_, rfl⟩
  rw [hT] at hst0 ⊢
  clear hT
  generalize w1.alloc (.cells #[.int .i64 0, .int .i64 0, .int .i64 0, .int .i64 0, .int .i64 0] 158) = wT at hst0 ⊢
  go_loopg [5] G0 (fun g u5 wr => ∃ l t, l.length ≤ n ∧ PlSt S r T W0 l t u5 wr ∧ PlMath net S n R l t g)
  case atStart => exact ⟨[], fun _ => 0, by simp, hst0, hmt0⟩
  case round =>
    obtain ⟨l, t, hln, hst, hmt⟩ := hrel
    clear hst0 hmt0
    obtain ⟨A5, c5, rfl, _⟩ := hst.sp
    obtain ⟨a, ha⟩ : ∃ a, Hid (l.length = a) := ⟨_, Lib.hid rfl⟩
    rw [ha.out] at hln hst ⊢
    by_cases hlt : a < n
    · obtain ⟨G, rfl⟩ : ∃ G, G = gk := ⟨_, rfl⟩
      have bd1 : a < 5 := by omega
      go_wp2
      go_loopg [5] (S.length - t l.length) (fun gi u5 wi => ∃ t, u5 = .slice A5 a c5 ∧ PlSt S r T W0 l t (.slice A5 a c5) wi ∧ PlMath net S n R l t G ∧ S.length - t l.length ≤ gi)
      case atStart => exact ⟨t, rfl, hst, hmt, Nat.le_refl _⟩
      case round =>
        obtain ⟨t1, rfl, hst1, hmt1, hgi⟩ := hrel
        clear hst hmt
        have c0 := hst1.2.2.1.cell bd1
        have f0 := hst1.2.2.1.frozen a
        have z0 := hst1.2.2.1.lt
        have z1 := hst1.2.2.2.2.1
        obtain ⟨ta, hta⟩ : ∃ ta, Hid (t1 a = ta) := ⟨_, Lib.hid rfl⟩
        rw [hta.out] at c0
        have hle : ta ≤ ms := by
          have := hmt1.2.2.1 a (by rw [ha.out]; exact Nat.le_refl _)
          rw [hms.out, hta.out] at this
          exact this
        by_cases hts : ta < ms
        · obtain ⟨p, hp⟩ : ∃ p, S[ta]? = some p := ⟨_, List.getElem?_eq_getElem (by have := hms.out; omega)⟩
          obtain ⟨d0, d1⟩ := hst1.2.2.2.1 ta p hp
          have gp : p.1 < p.2 := (small_out (N := 2 * n) (by rw [hS.out]; exact List.mem_of_getElem? hp)).2.1
          have hg : Hid (∀ p ∈ l, p.1 < p.2) := Lib.hid fun q hq => (small_out (N := 2 * n) (by rw [hS.out]; exact hmt1.2.1 q hq)).2.1
          have HP := Lib.hid hp
          clear hp
          go_wp2_with fail
          have hst2 := (hst1.set (j := a) (v := ta + 1) (z := (ta : Int) + 1) bd1 (by omega)).below (below_new _ (.cells #[.int .i64 p.1, .int .i64 p.2] 48))
          have hzs : (wr.setCell ⟨T, a, none⟩ (.int .i64 ((ta : Int) + 1))).heap.size = wr.heap.size := by simp [World.setCell]
          have hbox2 := Box.new (wr.setCell ⟨T, a, none⟩ (.int .i64 ((ta : Int) + 1))) p 48
          rw [hzs] at hbox2
          have z2 : T ≠ wr.heap.size := by omega
          clear hst1 c0 f0 d0 d1 hzs
          generalize (wr.setCell ⟨T, a, none⟩ (.int .i64 ((ta : Int) + 1))).alloc (.cells #[.int .i64 p.1, .int .i64 p.2] 48) = w2 at hst2 hbox2 ⊢
          obtain ⟨B7, hB7⟩ : ∃ B7, wr.heap.size = B7 := ⟨_, rfl⟩
          rw [hB7] at hbox2 z2 ⊢
          clear hB7 z0 z1
          have hsp2 := hst2.sp
          have cF := fitsP_any _ _ net l p w2 (hst2.net HN.out) hsp2 hN (by have := hn.out; have := ha.out; omega) hg gp
          obtain ⟨q, hq⟩ : ∃ q, Hid (fitsNext net l p = q) := ⟨_, Lib.hid rfl⟩
          rw [hq.out] at cF
          refine cF.mono ?_
          clear cF
          rintro e w3 ⟨rfl, b3⟩
          have hst3 := hst2.below b3
          have hbox3 := hbox2.below b3 hbox2.2.2
          clear hst2 hbox2 b3 hsp2
          cases q with
          | false =>
            go_wp2
            go_roundg (gk - 1)
            case measure =>
              have := hms.out
              have := hta.out
              have := ha.out
              rw [ha.out, hta.out, hms.out] at hgi
              omega
            case rel =>
              have hm2 := hmt1.skip (by rw [ha.out]; exact hlt) (by rw [ha.out, hta.out]; exact HP.out) hq.out
              rw [ha.out, hta.out] at hm2
              refine ⟨_, rfl, hst3, hm2, ?_⟩
              rw [ha.out, bump_at, hms.out]
              rw [ha.out, hta.out, hms.out] at hgi
              omega
          | true =>
            obtain ⟨b0, b1, b2⟩ := id hbox3
            have hown := hst3.1
            rw [ha.out] at hown
            go_wp2_with (at_builtin; refine wpList_append_own_at _ rfl (.tmp 40) (.tmp 42) 42 rfl W0.heap.size 48 i0 (.agg #[.int .i64 0, .int .i64 0]) 2 16 Tryz.underlying42 hi0 hz0 hz1 hz2 rfl (by decide) _ _ _ rfl (hown.alloc _) ⟨_, 0, none⟩ 1 1 [.int .i64 p.1, .int .i64 p.2] rfl rfl ?c1 ?c2 ?c3 ?c4 ?c5 ?_)
            case c1 => exact two_cell _ _ _ _
            case c2 => exact two_one _ _
            case c3 => unfold maxLen; omega
            case c4 => omega
            case c5 => simp; have := hst3.2.2.2.2.2.2.2.size; omega
            intro v' w4 hown4 hg4 _ hat4
            rw [← ha.out] at hown4
            have hst4 := (hst3.below (below_new w3 (.cells #[.int .i64 p.1, .int .i64 p.2] 48))).app hown4 hg4 (by simpa using hat4)
            have f4 := hst4.2.2.1.frozen (a + 1)
            have z4 := hst4.2.2.1.lt
            obtain ⟨g', hg', hm2⟩ := hmt1.push (by rw [ha.out]; exact hlt) (by rw [ha.out, hta.out]; exact HP.out) hq.out
            rw [ha.out, hta.out] at hm2
            have c4 := hst4.2.2.1.cell (j := a + 1) (by omega)
            have hst5 := hst4.set (j := a + 1) (v := 0) (z := 0) (by omega) rfl
            have hl5 : (l ++ [p]).length ≤ n := by rw [List.length_append, ha.out]; simp; omega
            clear hst3 hown4 hg4 hat4 hown hst4 hbox3
            go_wp2
            go_roundg g'
            case measure => exact hg'
            case rel => exact ⟨l ++ [p], _, hl5, hst5, hm2⟩
        · have htm : ta = ms := by omega
          have HT := Lib.hid htm
          clear htm
          by_cases ha0 : a = 0
          · have HA := Lib.hid ha0
            have hb0 : ((a : Int) == 0) = true := by simp; omega
            clear ha0
            go_wp2
            try rw [Exit.noGoto_ret]
            go_ret
            have hlt' : l.length < n := by rw [ha.out]; exact hlt
            have hf := hmt1.fail hlt' (by rw [ha.out]; exact HA.out) (by rw [ha.out, hta.out, hms.out, HT.out]; exact Nat.le_refl _)
            exact ⟨_, l, rfl, hst1.1, .inr ⟨by rw [hn.out]; exact hlt', by rw [hn.out, hS.out, hR.out]; exact hf⟩, hst1.2.2.2.2.2.2.2⟩
          · have hb0 : ((a : Int) == 0) = false := by simp; omega
            obtain ⟨g5, hA5, hc5⟩ := own_some (by have := hst1.1; rw [ha.out] at this; exact this) (by omega)
            have q1 : 1 ≤ (a : Int) := by omega
            have q2 : (a : Int) - 1 ≤ c5 := by omega
            have hst2 := (show PlSt S r T W0 l t1 (.slice (some ⟨g5, 0, none⟩) l.length c5) wr by rw [ha.out, ← hA5]; exact hst1).pop (k := a - 1) (by rw [ha.out]; omega)
            obtain ⟨g', hg', hm2⟩ := hmt1.pop (k := a - 1) (by rw [ha.out]; exact hlt) (by rw [ha.out]; omega) (by rw [ha.out, hta.out, hms.out, HT.out]; exact Nat.le_refl _)
            have hl2 : (l.take (a - 1)).length ≤ n := by rw [List.length_take]; omega
            clear hst1
            go_wp2
            go_roundg g'
            case measure => exact hg'
            case rel => exact ⟨l.take (a - 1), t1, hl2, hst2, hm2⟩
    · have han : a = n := by omega
      have HA := Lib.hid han
      clear han
      go_wp2
      try rw [Exit.noGoto_ret]
      go_ret
      have hl' : l.length = n := by rw [ha.out]; exact HA.out
      exact ⟨_, l, rfl, hst.1, .inl ⟨by rw [hn.out]; exact hl', by rw [hn.out, hS.out, hR.out]; exact hmt.2.2.2.2.1 hl'⟩, hst.2.2.2.2.2.2.2⟩
end Go.Proofs.YtfhljcpicdabmaaGreatDoor
