/- Stage 2's seat: the word with a number, the specification's side. -/
import Derived.Test.YtkdcpnfbpplhdaaDoorTmE
import Derived.Deep.RegionHeld3
import Derived.Laws.IdiomStrings
namespace Go.Proofs.YtkdcpnfbpplhdaaDoor
open Go Go.RowKit Go.Ev
open Go.TmM (wordR)
set_option maxRecDepth 100000
set_option maxHeartbeats 1000000
def wordS (n : Nat) : ByteArray := ⟨(wordR n).reverse.toArray⟩
def WordIs (n : Nat) (w : World) (e : Ending) (w' : World) : Prop := e = .returned (.string (wordS n)) ∧ Below w.heap.size w w'
theorem wpAnyH_take_at {P : Program} {md : Region.Mode} {ops : Array Oper} {Q : Exit → Act → World → Prop} {S : World → Prop} (i : Nat) (d : Option Tmp) (v : Value) {oi : Oper} {fuel : Nat} {listed : Array Bool} {a : Act} {w : World} (hi : ops[i]? = some oi) (hd : oi.dst = d)
    (hs : Region.noSelect ops = true) (hf : Region.free md ops listed i = true) (hr : (Region.ready md ops listed).contains i = true)
    (hQ : ∀ c a w, Q (.panic c) (a.put oi.dst v) w → Q (.panic c) a w) (hy : YieldsIf P ops S oi v a) (hS : S w)
    (h : wpAnyH P md ops Q S fuel (listed.setIfInBounds i true) (a.put d v) w) : wpAnyH P md ops Q S (fuel + 1) listed a w := by
  subst hd
  exact wpAnyH_take hi hs hf hr hQ hy hS h
theorem wpAnyH_one {P : Program} {md : Region.Mode} {ops : Array Oper} {Q : Exit → Act → World → Prop} {S : World → Prop} {fuel : Nat} {listed : Array Bool} {a : Act} {w : World} {j : Nat} (hr : Region.ready md ops listed = [j])
    (h : wpOp P ops Q j (fun a' w' => S w' ∧ wpAnyH P md ops Q S fuel (listed.setIfInBounds j true) a' w') a w) : wpAnyH P md ops Q S (fuel + 1) listed a w :=
  wpAnyH_all hr (by simp) fun i hi => by
    rw [List.mem_singleton] at hi
    subst hi
    exact h
theorem wpOp_yes' {P : Program} {ops : Array Oper} {Q : Exit → Act → World → Prop} {i : Nat} {o : Oper} {K : Act → World → Prop} {a : Act} {w : World} (h1 : ops[i]? = some o) (h2 : Region.wanted o (yielded ops a.tmps) = true) (h : o.wp P a w K Q) : wpOp P ops Q i K a w := by
  unfold wpOp
  simp only [h1, h2, if_true]
  exact .inl h
theorem one_byte (w : World) (a : Addr) (c : Nat) (b : UInt8) (h : w.cell? a = some (.int .u8 b.toNat)) : (convert 83 9 (.slice (some a) 1 c)).run Tryd.prog w = .ok (.string ⟨#[b]⟩) w :=
  run_convert_bytes_back w 83 9 5 a c [b] Tryd.underlying83 Tryd.underlying5 Tryd.underlying9 fun j hj => by
    have : j = 0 := by simp at hj; omega
    subst this
    rw [show a.add 0 = a by unfold Addr.add; simp]
    exact h
theorem wordS_size (n : Nat) : (wordS n).size = (wordR n).length := by
  show (wordR n).reverse.toArray.size = _
  simp
theorem word_zero (w : World) : Calls Tryd.prog 30 #[.int .i64 0] w (WordIs 0 w) := by
  go_enter Tryd.func30, Tryd.ntmps30
  go_wp2
  go_ret
  exact ⟨by unfold wordS; rw [wordR]; rfl, Below.refl _ _⟩
theorem word_step (m : Nat) (w : World) (hm : m ≤ 4000000) (ih : ∀ w, Calls Tryd.prog 30 #[.int .i64 ((m / 26 : Nat) : Int)] w (WordIs (m / 26) w)) : Calls Tryd.prog 30 #[.int .i64 ((m : Int) + 1)] w (WordIs (m + 1) w) := by
  have d1 : IntKind.i64.wrap ((m : Int) + 1 - 1) = (m : Int) := by rw [Int.add_sub_cancel]; exact IntWalk.i64_in _ (by omega)
  have d2 : ((m : Int)).tdiv 26 = ((m / 26 : Nat) : Int) := by rw [Int.tdiv_eq_ediv_of_nonneg (by omega)]; rfl
  have d3 : ((m : Int)).tmod 26 = ((m % 26 : Nat) : Int) := by rw [Int.tmod_eq_emod_of_nonneg (by omega)]; rfl
  have d4 : ¬ ((m : Int) + 1 = 0) := by omega
  have hk := TmM.letter_nat (m % 26) (Nat.mod_lt _ (by decide))
  obtain ⟨r, hr⟩ : ∃ r, Hid (m % 26 = r) := ⟨_, Lib.hid rfl⟩
  have hr26 : r < 26 := by rw [← hr.out]; exact Nat.mod_lt _ (by decide)
  obtain ⟨q, hq⟩ : ∃ q, Hid (m / 26 = q) := ⟨_, Lib.hid rfl⟩
  rw [hr.out] at d3 hk
  have w2 : IntKind.i64.wrap (97 + (r : Int)) = 97 + (r : Int) := IntWalk.i64_in _ (by omega)
  have w3 : IntKind.u8.wrap (97 + (r : Int)) = 97 + (r : Int) := IntWalk.u8_in _ (by omega)
  rw [hq.out] at d2 ih
  have w1 : IntKind.i64.wrap (q : Int) = (q : Int) := IntWalk.i64_in _ (by have := hq.out; omega)
  go_enter Tryd.func30, Tryd.ntmps30
  go_wp2
  obtain ⟨bt, hbt⟩ : ∃ bt, Hid (UInt8.ofNat (97 + r) = bt) := ⟨_, Lib.hid rfl⟩
  refine wp_region_noPanic ?_
  refine wp_region_held (S := fun _ => True) (by kernel_rfl) ?_
  refine wpAnyH_take_at 0 (some 7) (.int .i64 m) rfl rfl (by kernel_rfl) (by kernel_rfl) (by kernel_rfl) (fun _ _ _ h => h) (.inl ⟨by rfl, fun wz hSw => ?_⟩) trivial ?_
  · (try dsimp only at hSw); go_simp
  try simp only [Act.put, List.setIfInBounds_toArray, List.set_cons_zero, List.set_cons_succ]
  refine wpAnyH_take_at 1 (some 8) (.int .i64 q) rfl rfl (by kernel_rfl) (by kernel_rfl) (by kernel_rfl) (fun _ _ _ h => h) (.inl ⟨by rfl, fun wz hSw => ?_⟩) trivial ?_
  · (try dsimp only at hSw); go_simp
  try simp only [Act.put, List.setIfInBounds_toArray, List.set_cons_zero, List.set_cons_succ]
  refine wpAnyH_take_at 3 (some 10) (.int .i64 m) rfl rfl (by kernel_rfl) (by kernel_rfl) (by kernel_rfl) (fun _ _ _ h => h) (.inl ⟨by rfl, fun wz hSw => ?_⟩) trivial ?_
  · (try dsimp only at hSw); go_simp
  try simp only [Act.put, List.setIfInBounds_toArray, List.set_cons_zero, List.set_cons_succ]
  refine wpAnyH_take_at 4 (some 11) (.int .i64 r) rfl rfl (by kernel_rfl) (by kernel_rfl) (by kernel_rfl) (fun _ _ _ h => h) (.inl ⟨by rfl, fun wz hSw => ?_⟩) trivial ?_
  · (try dsimp only at hSw); go_simp
  try simp only [Act.put, List.setIfInBounds_toArray, List.set_cons_zero, List.set_cons_succ]
  refine wpAnyH_take_at 5 (some 12) (.int .i64 (97 + r)) rfl rfl (by kernel_rfl) (by kernel_rfl) (by kernel_rfl) (fun _ _ _ h => h) (.inl ⟨by rfl, fun wz hSw => ?_⟩) trivial ?_
  · (try dsimp only at hSw); go_simp
  try simp only [Act.put, List.setIfInBounds_toArray, List.set_cons_zero, List.set_cons_succ]
  refine wpAnyH_take_at 6 (some 13) (.int .u8 (97 + r)) rfl rfl (by kernel_rfl) (by kernel_rfl) (by kernel_rfl) (fun _ _ _ h => h) (.inl ⟨by rfl, fun wz hSw => ?_⟩) trivial ?_
  · (try dsimp only at hSw); go_simp
  try simp only [Act.put, List.setIfInBounds_toArray, List.set_cons_zero, List.set_cons_succ]
  have build : ∀ (wx : World), (wx.alloc (.cells #[.int .u8 (97 + (r : Int))] 5)).cell? ⟨wx.heap.size, 0, none⟩ = some (.int .u8 bt.toNat) := fun wx => by
    rw [← hbt.out, hk]
    simp
  have hs : wordS q ++ (⟨#[bt]⟩ : ByteArray) = wordS (m + 1) := by
    unfold wordS
    rw [TmM.wordR_succ, hr.out, hq.out, hbt.out, List.reverse_cons]
    apply ByteArray.ext
    simp
  have cb : ∀ (wx : World), (convert 83 9 (.slice (some ⟨wx.heap.size, 0, none⟩) 1 1)).run Tryd.prog (wx.alloc (.cells #[.int .u8 (97 + (r : Int))] 5)) = .ok (.string ⟨#[bt]⟩) (wx.alloc (.cells #[.int .u8 (97 + (r : Int))] 5)) := fun wx => one_byte _ _ 1 _ (build wx)
  have hz : ¬ (9223372036854775807 < (wordS q).size + 1) := by
    have := wordS_size q
    have := TmM.wordR_len q (by have := hq.out; omega)
    omega
  refine wpAnyH_all (rs := [2, 7]) (by kernel_rfl) (by simp) fun i hi => ?_
  simp only [List.mem_cons, List.not_mem_nil, or_false] at hi
  rcases hi with rfl | rfl
  · refine wpOp_yes' rfl rfl ?_
    go_simp
    refine (ih _).mono ?_
    rintro e x1 ⟨rfl, k1⟩
    dsimp only
    try simp only [Act.put, List.setIfInBounds_toArray, List.set_cons_zero, List.set_cons_succ]
    refine wpAnyH_one (j := 7) (by kernel_rfl) ?_
    refine wpOp_yes' rfl rfl ?_
    go_simp
    try simp only [Act.put, List.setIfInBounds_toArray, List.set_cons_zero, List.set_cons_succ]
    refine wpAnyH_one (j := 8) (by kernel_rfl) ?_
    refine wpOp_yes' rfl rfl ?_
    have hc := cb x1
    go_simp
    try simp only [Act.put, List.setIfInBounds_toArray, List.set_cons_zero, List.set_cons_succ]
    refine wpAnyH_one (j := 9) (by kernel_rfl) ?_
    refine wpOp_yes' rfl rfl ?_
    go_simp
    try simp only [Act.put, List.setIfInBounds_toArray, List.set_cons_zero, List.set_cons_succ]
    refine wpAnyH_one (j := 10) (by kernel_rfl) ?_
    refine wpOp_yes' rfl rfl ?_
    go_simp
    try simp only [Act.put, List.setIfInBounds_toArray, List.set_cons_zero, List.set_cons_succ]
    refine wpAnyH_done (by kernel_rfl) ?_ _
    simp only [NoPanic]
    go_wp2
    go_ret
    exact ⟨rfl, (((Below.refl w.heap.size w).drew.trans k1).alloc (show w.heap.size ≤ x1.heap.size from k1.size) _)⟩
  · refine wpOp_yes' rfl rfl ?_
    go_simp
    try simp only [Act.put, List.setIfInBounds_toArray, List.set_cons_zero, List.set_cons_succ]
    have kb : Below w.heap.size w (w.alloc (.cells #[.int .u8 (97 + (r : Int))] 5)).drew := ((Below.refl w.heap.size w).alloc (Nat.le_refl _) _).drew
    have hb0 : (w.alloc (.cells #[.int .u8 (97 + (r : Int))] 5)).drew.cell? ⟨w.heap.size, 0, none⟩ = some (.int .u8 bt.toNat) := build w
    refine wpAnyH_all (rs := [2, 8]) (by kernel_rfl) (by simp) fun i hi => ?_
    simp only [List.mem_cons, List.not_mem_nil, or_false] at hi
    rcases hi with rfl | rfl
    · refine wpOp_yes' rfl rfl ?_
      go_simp
      refine (ih _).mono ?_
      rintro e x1 ⟨rfl, k1⟩
      dsimp only
      try simp only [Act.put, List.setIfInBounds_toArray, List.set_cons_zero, List.set_cons_succ]
      have hb1 : x1.cell? ⟨w.heap.size, 0, none⟩ = some (.int .u8 bt.toNat) := (k1.cell (p := ⟨w.heap.size, 0, none⟩) (by show w.heap.size < (w.heap.push _).size; simp)).trans hb0
      have hc := one_byte x1 ⟨w.heap.size, 0, none⟩ 1 bt hb1
      have kx : Below w.heap.size w x1 := kb.trans (k1.mono kb.size)
      refine wpAnyH_one (j := 8) (by kernel_rfl) ?_
      refine wpOp_yes' rfl rfl ?_
      go_simp
      try simp only [Act.put, List.setIfInBounds_toArray, List.set_cons_zero, List.set_cons_succ]
      refine wpAnyH_one (j := 9) (by kernel_rfl) ?_
      refine wpOp_yes' rfl rfl ?_
      go_simp
      try simp only [Act.put, List.setIfInBounds_toArray, List.set_cons_zero, List.set_cons_succ]
      refine wpAnyH_one (j := 10) (by kernel_rfl) ?_
      refine wpOp_yes' rfl rfl ?_
      go_simp
      try simp only [Act.put, List.setIfInBounds_toArray, List.set_cons_zero, List.set_cons_succ]
      refine wpAnyH_done (by kernel_rfl) ?_ _
      simp only [NoPanic]
      go_wp2
      go_ret
      exact ⟨rfl, kx⟩
    · refine wpOp_yes' rfl rfl ?_
      have hc := one_byte _ ⟨w.heap.size, 0, none⟩ 1 bt hb0
      go_simp
      try simp only [Act.put, List.setIfInBounds_toArray, List.set_cons_zero, List.set_cons_succ]
      refine wpAnyH_one (j := 2) (by kernel_rfl) ?_
      refine wpOp_yes' rfl rfl ?_
      go_simp
      refine (ih _).mono ?_
      rintro e x1 ⟨rfl, k1⟩
      dsimp only
      try simp only [Act.put, List.setIfInBounds_toArray, List.set_cons_zero, List.set_cons_succ]
      have kx : Below w.heap.size w x1 := kb.trans (k1.mono kb.size)
      refine wpAnyH_one (j := 9) (by kernel_rfl) ?_
      refine wpOp_yes' rfl rfl ?_
      go_simp
      try simp only [Act.put, List.setIfInBounds_toArray, List.set_cons_zero, List.set_cons_succ]
      refine wpAnyH_one (j := 10) (by kernel_rfl) ?_
      refine wpOp_yes' rfl rfl ?_
      go_simp
      try simp only [Act.put, List.setIfInBounds_toArray, List.set_cons_zero, List.set_cons_succ]
      refine wpAnyH_done (by kernel_rfl) ?_ _
      simp only [NoPanic]
      go_wp2
      go_ret
      exact ⟨rfl, kx⟩
end Go.Proofs.YtkdcpnfbpplhdaaDoor
