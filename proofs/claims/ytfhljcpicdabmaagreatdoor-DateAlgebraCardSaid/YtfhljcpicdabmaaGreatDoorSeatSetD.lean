/- The seat: sets of spans, both sides. -/
import Derived.Shelf.Spec.SlicesGrow
import Derived.Test.YtfhljcpicdabmaaGreatDoorChecked
import Derived.Test.YtfhljcpicdabmaaGreatDoorSeatSetC
/- The seat: the library's Grow, laid at lists of spans, in plain declarations (by the guide's own writer of plain texts). -/
namespace Go.Proofs
open Go.Shelf
def Tryz.growS_ren : Go.Shelf.Ren := ⟨fun | 4 => 142 | n => n, fun | 22 => 42 | 25 => 48 | 3 => 3 | 4 => 4 | 9 => 9 | 20 => 20 | 0 => 0 | 2 => 3 | n => n, fun | n => n⟩
theorem Tryz.growS : Go.Proofs.Lays8.n4 Tryz.prog Tryz.growS_ren := {
  mixed := by kernel_rfl
  f4 := ⟨Tryz.f142.name, by decide, Tryz.func142.trans (congrArg some (by kernel_rfl))⟩
  t0 := Tryz.underlying0
  a0 := Tryz.isAgg0
  z0 := Tryz.sizeOf0
  v0 := Tryz.zeroValue0
  t3 := Tryz.underlying3
  a3 := Tryz.isAgg3
  z3 := Tryz.sizeOf3
  v3 := Tryz.zeroValue3
  t4 := Tryz.underlying4
  a4 := Tryz.isAgg4
  z4 := Tryz.sizeOf4
  v4 := Tryz.zeroValue4
  t9 := Tryz.underlying9
  a9 := Tryz.isAgg9
  z9 := Tryz.sizeOf9
  v9 := Tryz.zeroValue9
  t20 := Tryz.underlying20
  a20 := Tryz.isAgg20
  z20 := Tryz.sizeOf20
  v20 := Tryz.zeroValue20
  t22 := Tryz.underlying42
  a22 := Tryz.isAgg42
  z22 := Tryz.sizeOf42
  v22 := Tryz.zeroValue42 }
end Go.Proofs

/- The seat: the theorem of sets, its mathematics: which lists are normal, and what cut and met make. -/
namespace Go.Proofs.YtfhljcpicdabmaaGreatDoor
open Go Go.RowKit Go.Ev Go.WayM
open Go.SetM hiding Sp
set_option maxRecDepth 100000
set_option maxHeartbeats 1000000
theorem normal_next : ∀ {l : List Sp} {i : Nat} {p q : Sp}, normal l → l[i]? = some p → l[i + 1]? = some q → p.2 < q.1
  | [], _, _, _, _, h, _ => by simp at h
  | s :: l, 0, p, q, hn, h1, h2 => by
    simp at h1 h2
    subst h1
    exact hn.2.1 q (List.mem_of_getElem? (i := 0) (by simpa using h2))
  | s :: l, i + 1, p, q, hn, h1, h2 => by
    simp at h1 h2
    exact normal_next hn.2.2 h1 h2
theorem has_self {l : List Sp} {s : Sp} {x : Int} (hs : s ∈ l) (h1 : s.1 ≤ x) (h2 : x < s.2) : hasD l x = true := by
  unfold hasD
  exact List.any_eq_true.2 ⟨s, hs, by simp [h1, h2]⟩
theorem has_mem {l : List Sp} {x : Int} (h : hasD l x = true) : ∃ s ∈ l, s.1 ≤ x ∧ x < s.2 := by
  unfold hasD at h
  obtain ⟨s, hs, hc⟩ := List.any_eq_true.1 h
  simp at hc
  exact ⟨s, hs, hc.1, hc.2⟩
theorem normB_of {L a : List Sp} (hn : normal L) (hin : spansIn a) (hh : ∀ x, hasD L x = true → hasD a x = true) (hl : L.length ≤ 60) : normB L = true := by
  unfold normB spansB
  rw [Bool.and_eq_true, Bool.and_eq_true, decide_eq_true_eq, List.all_eq_true]
  refine ⟨⟨hl, fun p hp => ?_⟩, ?_⟩
  · have hlt := normal_lt hn p hp
    obtain ⟨s, hs, a1, a2⟩ := has_mem (hh p.1 (has_self hp (Int.le_refl _) hlt))
    obtain ⟨t, ht, b1, b2⟩ := has_mem (hh (p.2 - 1) (has_self hp (by omega) (by omega)))
    have := hin s hs
    have := hin t ht
    unfold spanB
    rw [decide_eq_true_eq]
    omega
  · unfold gapB
    rw [List.all_eq_true]
    intro i hi
    have hil := List.mem_range.1 hi
    rcases i with _ | i
    · simp
    · have h1 := nth_get (l := L) (i := i) (by omega)
      have h2 := nth_get (l := L) (i := i + 1) hil
      have := normal_next hn h1 h2
      rw [show i + 1 - 1 = i from rfl, decide_eq_true this, Bool.or_true]
/-- What the theorem speaks of: two lists, their normal ones, and the three that are made of these. -/
structure Alg (a b X Y J M C : List Sp) : Prop where
  sa : spansB a = true
  sb : spansB b = true
  nX : normB X = true
  nY : normB Y = true
  nJ : normB J = true
  nM : normB M = true
  nC : normB C = true
  lX : X.length ≤ 60
  lY : Y.length ≤ 60
  lJ : J.length ≤ 60
  lM : M.length ≤ 60
  lC : C.length ≤ 60
  hX : ∀ x, hasD X x = hasD a x
  hY : ∀ x, hasD Y x = hasD b x
  hJ : ∀ x, hasD J x = (hasD a x || hasD b x)
  hM : ∀ x, hasD M x = (hasD a x && hasD b x)
  hC : ∀ x, hasD C x = (hasD a x && !hasD b x)
  again : ∀ L E, RetIs 1 C M L E → L = X ∧ E = 0
  rest : ∀ L E, RetIs 2 C Y L E → L = [] ∧ E = 0
theorem mixG1 (p q : Bool) : mixG 1 p q = (p || q) := rfl
theorem mixG2 (p q : Bool) : mixG 2 p q = (p && q) := rfl
theorem mixG3 (p q : Bool) : mixG 3 p q = (p && !q) := rfl
theorem norm_is {a X : List Sp} (sa : spansB a = true) (h : MixIs 1 a [] X) : (∀ x, hasD X x = hasD a x) ∧ normB X = true ∧ X.length ≤ 60 ∧ normal X := by
  have hx : ∀ x, hasD X x = hasD a x := fun x => by
    rw [h.2.1, mixG1]
    exact Bool.or_false _
  have hl : X.length ≤ 60 := by
    have := h.2.2
    have := (spansB_in sa).2
    simp at *
    omega
  exact ⟨hx, normB_of h.1 (spansB_in sa).1 (fun x hh => by rw [← hx]; exact hh) hl, hl, h.1⟩
theorem spansIn_app {a b : List Sp} (h1 : spansIn a) (h2 : spansIn b) : spansIn (a ++ b) := fun p hp => by
  rcases List.mem_append.1 hp with h | h
  · exact h1 p h
  · exact h2 p h
theorem hasD_app (a b : List Sp) (x : Int) : hasD (a ++ b) x = (hasD a x || hasD b x) := by
  unfold hasD
  rw [List.any_append]
theorem mix_norm {m : Int} {X Y L : List Sp} (nX : normB X = true) (nY : normB Y = true) (h : MixIs m X Y L) (hl : L.length ≤ 60) : normB L = true :=
  normB_of h.1 (spansIn_app (normB_in nX).1 (normB_in nY).1) (fun x hh => by
    rw [h.2.1] at hh
    rw [hasD_app]
    revert hh
    unfold mixG
    cases hasD X x <;> cases hasD Y x <;> simp) hl
/-- The three, if none of them is too long. -/
theorem alg_is {a b X Y J M C : List Sp} (sa : spansB a = true) (sb : spansB b = true) (h1 : MixIs 1 a [] X) (h2 : MixIs 1 b [] Y) (h3 : MixIs 1 X Y J) (h4 : MixIs 2 X Y M) (h5 : MixIs 3 X Y C) (l3 : J.length ≤ 60) (l4 : M.length ≤ 60) (l5 : C.length ≤ 60) : Alg a b X Y J M C := by
  obtain ⟨hX, nX, lX, oX⟩ := norm_is sa h1
  obtain ⟨hY, nY, lY, oY⟩ := norm_is sb h2
  have hJ : ∀ x, hasD J x = (hasD a x || hasD b x) := fun x => by rw [h3.2.1, mixG1, hX, hY]
  have hM : ∀ x, hasD M x = (hasD a x && hasD b x) := fun x => by rw [h4.2.1, mixG2, hX, hY]
  have hC : ∀ x, hasD C x = (hasD a x && !hasD b x) := fun x => by rw [h5.2.1, mixG3, hX, hY]
  have nM := mix_norm nX nY h4 l4
  have nC := mix_norm nX nY h5 l5
  refine ⟨sa, sb, nX, nY, mix_norm nX nY h3 l3, nM, nC, lX, lY, l3, l4, l5, hX, hY, hJ, hM, hC, fun L E h => ?_, fun L E h => ?_⟩
  · rcases h with ⟨h0, _⟩ | ⟨_, L', hL, hc⟩
    · rw [nC, nM] at h0; cases h0
    · have e : L' = X := norm_eq L' X hL.1 oX fun x => by
        rw [hL.2.1, mixG1, hC, hM, hX]
        cases hasD a x <;> cases hasD b x <;> rfl
      subst e
      rcases hc with ⟨h60, _⟩ | ⟨_, rfl, rfl⟩
      · omega
      · exact ⟨rfl, rfl⟩
  · rcases h with ⟨h0, _⟩ | ⟨_, L', hL, hc⟩
    · rw [nC, nY] at h0; cases h0
    · have e : L' = [] := norm_eq L' [] hL.1 trivial fun x => by
        rw [hL.2.1, mixG2, hC, hY]
        show _ = false
        cases hasD a x <;> cases hasD b x <;> rfl
      subst e
      rcases hc with ⟨h60, _⟩ | ⟨_, rfl, rfl⟩
      · simp at h60
      · exact ⟨rfl, rfl⟩
/-- If one of the three is too long, both lists are, together. -/
theorem long_is {m : Int} {X Y L : List Sp} {E : Int} (nX : normB X = true) (nY : normB Y = true) (h : RetIs m X Y L E) : (E = 0 ∧ MixIs m X Y L ∧ L.length ≤ 60) ∨ (E = 3 ∧ 60 < X.length + Y.length) := by
  rcases h with ⟨h0, _⟩ | ⟨_, L', hL, ⟨h60, _, rfl⟩ | ⟨hl, rfl, rfl⟩⟩
  · rw [nX, nY] at h0; cases h0
  · have := hL.2.2
    exact .inr ⟨rfl, by omega⟩
  · exact .inl ⟨rfl, hL, hl⟩
end Go.Proofs.YtfhljcpicdabmaaGreatDoor

/- The seat: small library functions at lists of spans: Equal of a list and itself, Grow of nothing, Concat of two. -/
namespace Go.Proofs.YtfhljcpicdabmaaGreatDoor
open Go Go.RowKit Go.Ev Go.WayM
open Go.SetM hiding Sp
set_option maxRecDepth 100000
set_option maxHeartbeats 1000000
theorem eqSpans_any (s1 s2 : Value) (xs : List Sp) (w : World) (h1 : SpAt w s1 xs) (h2 : SpAt w s2 xs) (hl : xs.length ≤ 9223372036854775807) : Calls Tryz.prog 71 #[s1, s2] w (DrewOnly (.bool true) w) := by
  obtain ⟨A1, c1, rfl, r1⟩ := h1
  obtain ⟨A2, c2, rfl, r2⟩ := h2
  obtain ⟨n, hn⟩ : ∃ n, Hid (xs.length = n) := ⟨_, Lib.hid rfl⟩
  rw [hn.out] at r1 r2 hl ⊢
  go_enter Tryz.func71, Tryz.ntmps71
  go_wp2
  go_loopw [13] (fun u5 wr => SameAt w n u5 wr) (fun u5 _ => n - (intOf u5).toNat)
  case atStart => exact ⟨0, by omega, rfl, 0, rfl⟩
  case round =>
    obtain ⟨k, hk, rfl, m, rfl⟩ := hrel
    by_cases hlt : k < n
    · obtain ⟨g1, o1, rfl, _, d1⟩ := r1 (by omega)
      obtain ⟨g2, o2, rfl, _, d2⟩ := r2 (by omega)
      have hx : xs[k]? = some (xs[k]'(by have := hn.out; omega)) := List.getElem?_eq_getElem _
      obtain ⟨x, hxx⟩ : ∃ x, xs[k]? = some x := ⟨_, hx⟩
      obtain ⟨e0, e1⟩ := d1 k x hxx
      obtain ⟨e2, e3⟩ := d2 k x hxx
      clear hx hxx d1 d2
      go_wp2
      go_quiet (fail)
      go_wp2
      go_roundw
      case rel => exact ⟨k + 1, by omega, by go_num, _, rfl⟩
      case measure => simp [intOf]; omega
    · go_wp2
      go_ret
      exact ⟨rfl, _, rfl⟩
theorem grow_any (N : Nat) (w : World) (hN : N ≤ 1000) : Calls Tryz.prog 142 #[.slice none 0 0, .int .i64 N] w fun e w' => ∃ v, e = .returned v ∧ w'.ownsRow w.heap.size 48 2 v 0 [] ∧ Below w.heap.size w w' := by
  obtain ⟨i0, hi0, hz0, hz1, hz2⟩ := info_parts info48
  by_cases h0 : N = 0
  · subst h0
    have h := Any8.slices_Grow_room Tryz.growS none 0 0 0 w (Nat.le_refl _) (by omega) (by omega) (by omega)
    change Calls Tryz.prog 142 _ _ _ at h
    refine h.mono ?_
    rintro e w' ⟨rfl, rfl⟩
    exact ⟨_, rfl, World.ownsRow_nil _ _ _ _, Below.refl _ _⟩
  · have h := Any8.slices_Grow_grow Tryz.growS i0 _ hi0 hz0 (by omega) none 0 0 N [] w (Nat.le_refl _) (by omega) (by rw [hz2]; omega) (by omega) (by simp) (fun _ => rfl) (fun a h => by cases h)
    change Calls Tryz.prog 142 _ _ _ at h
    refine h.mono ?_
    rintro e w' ⟨rfl, rfl⟩
    have hg := grownCap_ge w (0 + N) 0 48
    refine ⟨_, rfl, ?_, ?_⟩
    · refine World.ownsRow_made (base := w.heap.size) (e := 48) (size := 2) w.drew _ (grownCap w (0 + N) 0 48) (Nat.le_refl _) (grownCap_le_maxLen w _ _ _ (by unfold maxLen; omega)) ?_
      rw [Array.size_append, Array.size_append, size_zeroCells, size_zeroCells, List.size_toArray]
      show 0 + (0 + N - 0) * 2 + (grownCap w (0 + N) 0 48 - (0 + N)) * 2 = _
      omega
    · exact (show Below w.heap.size w w.drew from (Below.refl _ _).drew).alloc (Nat.le_refl _) _
/-- Two lists, one behind the other, in new memory. -/
def CatIs (a b : List Sp) (w : World) (e : Ending) (w' : World) : Prop := ∃ v, e = .returned v ∧ w'.ownsRow w.heap.size 48 2 v (a.length + b.length) (spCells a ++ spCells b) ∧ Below w.heap.size w w'
theorem concat_any (s1 s2 : Value) (g : Nat) (a b : List Sp) (W0 : World) (h1 : SpAt W0 s1 a) (h2 : SpAt W0 s2 b) (la : a.length ≤ 60) (lb : b.length ≤ 60) (c0 : W0.cell? ⟨g, 0, none⟩ = some s1) (c1 : W0.cell? ⟨g, 1, none⟩ = some s2) (hg : g < W0.heap.size) :
    Calls Tryz.prog 69 #[.slice (some ⟨g, 0, none⟩) 2 2] W0 (CatIs a b W0) := by
  have H1 := Lib.hid h1
  have H2 := Lib.hid h2
  obtain ⟨A1, d1, rfl, _⟩ := h1
  obtain ⟨A2, d2, rfl, _⟩ := h2
  obtain ⟨n, hn⟩ : ∃ n, Hid (a.length = n) := ⟨_, Lib.hid rfl⟩
  obtain ⟨m, hm⟩ : ∃ n, Hid (b.length = n) := ⟨_, Lib.hid rfl⟩
  unfold CatIs
  rw [hn.out] at la H1 c0 ⊢
  rw [hm.out] at lb H2 c1 ⊢
  have z1 : ¬ ((n : Int) < 0) := by omega
  have z2 : ¬ ((n : Int) + (m : Int) < 0) := by omega
  have y1 : IntKind.i64.wrap ((0 : Int) + (n : Int)) = (n : Int) := by rw [Int.zero_add]; exact IntWalk.i64_in _ (by omega)
  have y2 : IntKind.i64.wrap ((n : Int) + (m : Int)) = (n : Int) + (m : Int) := IntWalk.i64_in _ (by omega)
  go_enter Tryz.func69, Tryz.ntmps69
  go_wp2
  go_loop [3, 11] (fun u3 u11 => (u11 = .int .i64 0 ∧ u3 = .int .i64 0) ∨ (u11 = .int .i64 1 ∧ u3 = .int .i64 n) ∨ (u11 = .int .i64 2 ∧ u3 = .int .i64 ((n : Int) + m))) (fun _ u11 => 2 - (intOf u11).toNat)
  case atStart => exact .inl ⟨rfl, rfl⟩
  case round =>
    rcases hrel with ⟨rfl, rfl⟩ | ⟨rfl, rfl⟩ | ⟨rfl, rfl⟩
    · go_wp2
      go_round
      case rel => exact .inr (.inl ⟨rfl, rfl⟩)
      case measure => simp [intOf]
    · go_wp2
      go_round
      case rel => exact .inr (.inr ⟨rfl, rfl⟩)
      case measure => simp [intOf]
    · have hgr : Calls Tryz.prog 142 #[.slice none 0 0, .int .i64 ((n : Int) + (m : Int))] W0 _ := grow_any (n + m) W0 (by omega)
      go_wp2_with fail
      refine hgr.mono ?_
      rintro e w1 ⟨v, rfl, o1, b1⟩
      clear hgr
      go_wp2
      go_loopw [6, 27] (fun u6 u27 wr => Below W0.heap.size W0 wr ∧ ((u27 = .int .i64 0 ∧ wr.ownsRow W0.heap.size 48 2 u6 0 []) ∨ (u27 = .int .i64 1 ∧ wr.ownsRow W0.heap.size 48 2 u6 n (spCells a)) ∨ (u27 = .int .i64 2 ∧ wr.ownsRow W0.heap.size 48 2 u6 (n + m) (spCells a ++ spCells b)))) (fun _ u27 _ => 2 - (intOf u27).toNat)
      case atStart => exact ⟨b1, .inl ⟨rfl, o1⟩⟩
      case round =>
        obtain ⟨hb, hc⟩ := hrel
        have e0 := (hb.cell (p := ⟨g, 0, none⟩) hg).trans c0
        have e1 := (hb.cell (p := ⟨g, 1, none⟩) hg).trans c1
        have S1 := H1.out.below hb (Nat.le_refl _)
        have S2 := H2.out.below hb (Nat.le_refl _)
        clear o1 b1 c0 c1
        rcases hc with ⟨rfl, o⟩ | ⟨rfl, o⟩ | ⟨rfl, o⟩
        · go_wp2_with (at_builtin; refine wpList_append_sp rfl (.tmp 31) (.tmp 32) rfl rfl o rfl S1 (by omega) (by omega) hb.size ?_)
          intro v' w3 o3 g3 _
          have b3 : Below W0.heap.size W0 w3 := hb.grown g3 hb.size (fun k hk => (o.lt k hk).1)
          have o3 : w3.ownsRow W0.heap.size 48 2 v' n (spCells a) := by simpa using o3
          clear o g3 S1 S2 e0 e1
          go_wp2
          go_roundw
          case rel => exact ⟨b3, .inr (.inl ⟨rfl, o3⟩)⟩
          case measure => simp [intOf]
        · go_wp2_with (at_builtin; refine wpList_append_sp rfl (.tmp 31) (.tmp 32) rfl rfl o rfl S2 (by omega) (by omega) hb.size ?_)
          intro v' w3 o3 g3 _
          have b3 : Below W0.heap.size W0 w3 := hb.grown g3 hb.size (fun k hk => (o.lt k hk).1)
          clear o g3 S1 S2 e0 e1
          go_wp2
          go_roundw
          case rel => exact ⟨b3, .inr (.inr ⟨rfl, o3⟩)⟩
          case measure => simp [intOf]
        · go_wp2
          go_ret
          exact ⟨_, rfl, o, hb⟩
end Go.Proofs.YtfhljcpicdabmaaGreatDoor

/- The seat: DateAlgebra, walked for every input. -/
namespace Go.Proofs.YtfhljcpicdabmaaGreatDoor
open Go Go.RowKit Go.Ev Go.WayM
open Go.SetM hiding Sp
set_option maxRecDepth 100000
set_option maxHeartbeats 2000000
theorem law_algebra (s1 s2 : Value) (a b : List Sp) (d : Int) (w : World) (h1 : SpAt w s1 a) (h2 : SpAt w s2 b) (la : a.length ≤ 8796093021952) (lb : b.length ≤ 8796093021952) (hT : Hid (TabsIn tabs w)) (h8 : 4 ≤ w.heap.size) : Calls Tryz.prog 13 #[s1, s2, .int .i64 d] w (TrueBelow w) := by
  have H1 := Lib.hid h1
  have H2 := Lib.hid h2
  have ya : a.length ≤ 9223372036854775807 := by omega
  have yb : b.length ≤ 9223372036854775807 := by omega
  obtain ⟨P1, p1, rfl, _⟩ := h1
  obtain ⟨P2, p2, rfl, _⟩ := h2
  clear la lb
  go_enter Tryz.func13, Tryz.ntmps13
  go_wp2_with fail
  refine (normalP_any _ a w H1.out ya).mono ?_
  rintro e w1 ⟨t1, X, E1, rfl, o1, b1, n1⟩
  go_wp2_with fail
  refine (normalP_any _ b w1 (H2.out.below b1 (Nat.le_refl _)) yb).mono ?_
  rintro e w2 ⟨t2, Y, E2, rfl, o2, b2, n2⟩
  have k2 : Below w.heap.size w w2 := b1.trans (b2.mono b1.size)
  have o1 := own_belowX o1 b2
  have o2 := row_mono o2 b1.size
  clear b1 b2
  have fin : ∀ wz, Below w.heap.size w wz → Calls Tryz.prog 25 #[] wz (TrueBelow wz) := fun wz kz => (known_any wz (hT.out.below kz (fun t ht => by have := tabs_four t ht; omega)))
  rcases n1 with ⟨sa, rfl, rfl⟩ | ⟨sa, m1, rfl⟩ <;> rcases n2 with ⟨sb, rfl, rfl⟩ | ⟨sb, m2, rfl⟩
  case inr.inr =>
    obtain ⟨hX, nX, lX, oX⟩ := norm_is sa m1
    obtain ⟨hY, nY, lY, oY⟩ := norm_is sb m2
    have cA := spansR_any _ a w2 (H1.out.below k2 (Nat.le_refl _)) ya
    rw [sa] at cA
    go_wp2_with fail
    refine cA.mono ?_
    rintro e w3 ⟨rfl, b3⟩
    clear cA
    have k3 := k2.trans (b3.mono k2.size)
    have cB := spansR_any _ b w3 (H2.out.below k3 (Nat.le_refl _)) yb
    rw [sb] at cB
    go_wp2_with fail
    refine cB.mono ?_
    rintro e w4 ⟨rfl, b4⟩
    clear cB
    have k4 := k3.trans (b4.mono k3.size)
    have o1 := own_belowX (own_belowX o1 b3) b4
    have o2 := own_belowX (own_belowX o2 b3) b4
    clear b3 b4 k2 k3
    have cX := spansN_any _ X w4 (sp_row rfl o1) (by omega)
    rw [nX] at cX
    go_wp2_with fail
    refine cX.mono ?_
    rintro e w5 ⟨rfl, b5⟩
    clear cX
    have k5 := k4.trans (b5.mono k4.size)
    have o1 := own_belowX o1 b5
    have o2 := own_belowX o2 b5
    have cY := spansN_any _ Y w5 (sp_row rfl o2) (by omega)
    rw [nY] at cY
    go_wp2_with fail
    refine cY.mono ?_
    rintro e w6 ⟨rfl, b6⟩
    clear cY
    have k6 := k5.trans (b6.mono k5.size)
    have o1 := own_belowX o1 b6
    have o2 := own_belowX o2 b6
    clear b5 b6 k4 k5
    obtain ⟨nx, hnx⟩ : ∃ n, Hid (X.length = n) := ⟨_, Lib.hid rfl⟩
    obtain ⟨ny, hny⟩ : ∃ n, Hid (Y.length = n) := ⟨_, Lib.hid rfl⟩
    have HX := Lib.hid hX
    have HY := Lib.hid hY
    have NX := Lib.hid nX
    have NY := Lib.hid nY
    have SA := Lib.hid sa
    have SB := Lib.hid sb
    rw [hnx.out] at o1 lX
    rw [hny.out] at o2 lY
    obtain ⟨A1, c1, rfl⟩ := slice_form o1
    obtain ⟨A2, c2, rfl⟩ := slice_form o2
    clear hX hY nX nY sa sb
    have xl : X.length ≤ 9223372036854775807 := by rw [hnx.out]; omega
    have yl : Y.length ≤ 9223372036854775807 := by rw [hny.out]; omega
    go_wp2_with fail
    refine (joinP_any _ _ X Y w6 (sp_row hnx.out o1) (sp_row hny.out o2) xl yl).mono ?_
    rintro e w7 ⟨t3, J, E3, rfl, o3, b7, n3⟩
    have k7 := k6.trans (b7.mono k6.size)
    have o1 := own_belowX o1 b7
    have o2 := own_belowX o2 b7
    go_wp2_with fail
    refine (meetP_any _ _ X Y w7 (sp_row hnx.out o1) (sp_row hny.out o2) xl yl).mono ?_
    rintro e w8 ⟨t4, M, E4, rfl, o4, b8, n4⟩
    have k8 := k7.trans (b8.mono k7.size)
    have o1 := own_belowX o1 b8
    have o2 := own_belowX o2 b8
    have o3 := own_belowX o3 b8
    go_wp2_with fail
    refine (cutP_any _ _ X Y w8 (sp_row hnx.out o1) (sp_row hny.out o2) xl yl).mono ?_
    rintro e w9 ⟨t5, C, E5, rfl, o5, b9, n5⟩
    have k9 := k8.trans (b9.mono k8.size)
    have o1 := own_belowX o1 b9
    have o2 := own_belowX o2 b9
    have o3 := own_belowX o3 b9
    have o4 := own_belowX o4 b9
    clear b7 b8 b9 k6 k7 k8
    have yw : IntKind.i64.wrap ((nx : Int) + (ny : Int)) = (nx : Int) + (ny : Int) := IntWalk.i64_in _ (by omega)
    have n3 := long_is NX.out NY.out n3
    have n4 := long_is NX.out NY.out n4
    have n5 := long_is NX.out NY.out n5
    rw [hnx.out, hny.out] at n3 n4 n5
    rcases n3 with ⟨rfl, m3, l3⟩ | ⟨rfl, l3⟩ <;> rcases n4 with ⟨rfl, m4, l4⟩ | ⟨rfl, l4⟩ <;> rcases n5 with ⟨rfl, m5, l5⟩ | ⟨rfl, l5⟩
    case inl.inl.inl =>
      have al := Lib.hid (alg_is SA.out SB.out m1 m2 m3 m4 m5 l3 l4 l5)
      have lA := (spansB_in SA.out).2
      have lB := (spansB_in SB.out).2
      clear m1 m2 m3 m4 m5 oX oY
      have cJ := spansN_any _ J w9 (sp_row rfl o3) (by omega)
      rw [al.out.nJ] at cJ
      go_wp2_with fail
      refine cJ.mono ?_
      rintro e x1 ⟨rfl, b1⟩
      clear cJ
      have o4 := own_belowX o4 b1
      have o5 := own_belowX o5 b1
      have cM := spansN_any _ M x1 (sp_row rfl o4) (by omega)
      rw [al.out.nM] at cM
      go_wp2_with fail
      refine cM.mono ?_
      rintro e x2 ⟨rfl, b2⟩
      clear cM
      have o5 := own_belowX o5 b2
      have cC := spansN_any _ C x2 (sp_row rfl o5) (by omega)
      rw [al.out.nC] at cC
      go_wp2_with fail
      refine cC.mono ?_
      rintro e x3 ⟨rfl, b3⟩
      clear cC
      have k93 : Below w9.heap.size w9 x3 := b1.trans ((b2.trans (b3.mono b2.size)).mono b1.size)
      have k23 : Below x1.heap.size x1 x3 := b2.trans (b3.mono b2.size)
      have o1 := own_belowX o1 k93
      have o2 := own_belowX o2 k93
      have o3 := own_belowX o3 k93
      have o4 := own_belowX o4 k23
      have o5 := own_belowX o5 b3
      have kx := k9.trans (k93.mono k9.size)
      clear b1 b2 b3 k93 k23 k9
      have ky : Below w.heap.size w ((x3.alloc (.cells #[.int .i64 d] 3)).alloc (.cells #[.slice P1 a.length p1, .slice P2 b.length p2] 42)) := (kx.alloc kx.size _).alloc (by simp; have := kx.size; omega) _
      have kz : Below x3.heap.size x3 ((x3.alloc (.cells #[.int .i64 d] 3)).alloc (.cells #[.slice P1 a.length p1, .slice P2 b.length p2] 42)) := ((Below.refl _ _).alloc (Nat.le_refl _) _).alloc (by simp) _
      have od : ((x3.alloc (.cells #[.int .i64 d] 3)).alloc (.cells #[.slice P1 a.length p1, .slice P2 b.length p2] 42)).ownsRow x3.heap.size 3 1 (.slice (some ⟨x3.heap.size, 0, none⟩) 1 1) 1 [.int .i64 d] :=
        World.ownsRow.alloc ⟨rfl, .inr ⟨x3.heap.size, 1, _, rfl, Nat.le_refl _, heap_alloc_new x3 _, Nat.le_refl _, by unfold maxLen; omega, rfl, rfl⟩⟩ _
      have cc := concat_any (.slice P1 a.length p1) (.slice P2 b.length p2) (x3.heap.size + 1) a b _ (H1.out.below ky (Nat.le_refl _)) (H2.out.below ky (Nat.le_refl _)) lA lB (by simp) (by simp) (by simp)
      obtain ⟨wz, hwz⟩ : ∃ wz, Hid (((x3.alloc (.cells #[.int .i64 d] 3)).alloc (.cells #[.slice P1 a.length p1, .slice P2 b.length p2] 42)) = wz) := ⟨_, Lib.hid rfl⟩
      have zz : x3.heap.size + 2 = wz.heap.size := by rw [← hwz.out]; simp
      rw [hwz.out] at ky kz od cc
      go_wp2_with fail
      rw [hwz.out]
      refine cc.mono ?_
      rintro e x5 ⟨v6, rfl, o6, b5⟩
      have od := own_belowX od b5
      rw [show spCells a ++ spCells b = spCells (a ++ b) by unfold spCells; rw [List.flatMap_append]] at o6
      obtain ⟨nab, hab⟩ : ∃ n, Hid ((a ++ b).length = n) := ⟨_, Lib.hid rfl⟩
      rw [← List.length_append, hab.out] at o6
      have hn120 : nab ≤ 120 := by rw [← hab.out, List.length_append]; omega
      obtain ⟨A6, c6, rfl⟩ := slice_form o6
      have B6 := Lib.hid o6.lt
      have k35 : Below x3.heap.size x3 x5 := kz.trans (b5.mono kz.size)
      have z5 := b5.size
      obtain ⟨i0, hi0, hz0, hz1, hz2⟩ := info_parts info3i
      clear cc b5 kz ky
      have O1 := Lib.hid o1
      have O2 := Lib.hid o2
      have O3 := Lib.hid o3
      have O4 := Lib.hid o4
      have O5 := Lib.hid o5
      clear o1 o2 o3 o4 o5
      go_wp2
      go_loopw [15, 132] (fun u15 u132 wr => ∃ (k : Nat) (ds : List Int), k ≤ nab ∧ u132 = .int .i64 k ∧ ds.length = 1 + 4 * k ∧ wr.ownsRow x3.heap.size 3 1 u15 (1 + 4 * k) (ds.map (Value.int .i64)) ∧ (u15.ownBlock = some x3.heap.size ∨ ∀ g, u15.ownBlock = some g → x5.heap.size ≤ g) ∧ wr.ownsRow wz.heap.size 48 2 (.slice A6 nab c6) nab (spCells (a ++ b)) ∧ Below x3.heap.size x3 wr ∧ x5.heap.size ≤ wr.heap.size) (fun _ u132 _ => nab - (intOf u132).toNat)
      case atStart => exact ⟨0, [d], by omega, rfl, rfl, od, .inl rfl, o6, k35, Nat.le_refl _⟩
      case round =>
        obtain ⟨k, ds, hk, rfl, hds, hown, hat, hv6, hbw, hz5⟩ := hrel
        by_cases hlt : k < nab
        · obtain ⟨p, hp⟩ : ∃ p, (a ++ b)[k]? = some p := ⟨_, List.getElem?_eq_getElem (by have := hab.out; omega)⟩
          obtain ⟨g6, o6', rfl, hg6, d0, d1⟩ := (sp_row hab.out hv6).get hp
          have HP := Lib.hid hp
          clear hp od o6 k35
          go_wp2_with (at_builtin; refine wpList_append_own_at _ rfl (.tmp 136) (.tmp 147) 66 rfl x3.heap.size 3 i0 (.int .i64 0) 1 8 Tryz.underlying66 hi0 hz0 hz1 hz2 rfl (by decide) _ _ _ rfl ((hown.alloc _).alloc _) ⟨_, 0, none⟩ 4 4 [.int .i64 (wrap64 (p.1 - 1)), .int .i64 p.1, .int .i64 (wrap64 (p.2 - 1)), .int .i64 p.2] rfl rfl ?k1 ?k2 ?k3 ?k4 ?k5 ?_)
          case k1 => intro j u hj; have h4 : j < 4 := by simpa using (List.getElem?_eq_some_iff.1 hj).1
                     rcases (show j = 0 ∨ j = 1 ∨ j = 2 ∨ j = 3 by omega) with rfl | rfl | rfl | rfl <;> (simp at hj; subst hj; simp [Addr.add])
          case k2 => intro u hu; simp at hu; rcases hu with rfl | rfl | rfl | rfl <;> rfl
          case k3 => unfold maxLen; omega
          case k4 => omega
          case k5 => have := hbw.size; (try simp); omega
          intro v' w3 hown3 hg3 _ hat3
          have hv6 := ((hv6.alloc _).alloc _).kept hg3 (.inr ?kne)
          case kne =>
            intro hh
            have := B6.out g6 rfl
            rw [← hh] at hat
            rcases hat with h | h
            · have h : g6 = x3.heap.size := Option.some.inj h
              omega
            · have := h g6 rfl; omega
          have hbw3 : Below x3.heap.size x3 w3 := ((hbw.alloc hbw.size _).alloc (by simp; have := hbw.size; omega) _).grown hg3 (by simp; have := hbw.size; omega) (fun k hk => (hown.lt k hk).1)
          have hs3 := hg3.size
          have hat4 : v'.ownBlock = some x3.heap.size ∨ ∀ g, v'.ownBlock = some g → x5.heap.size ≤ g := by
            rcases hat3 with h | h
            · rw [h]; exact hat
            · refine .inr fun g hg => ?_
              rw [h] at hg
              cases hg
              omega
          simp at hs3
          clear hown hbw hg3 hat hat3
          go_wp2
          go_roundw
          case rel =>
            refine ⟨k + 1, ds ++ [wrap64 (p.1 - 1), p.1, wrap64 (p.2 - 1), p.2], by omega, by go_num, by rw [List.length_append]; simp; omega, ?_, hat4, hv6, hbw3, by omega⟩
            rw [List.map_append, show 1 + 4 * (k + 1) = 1 + 4 * k + 4 by omega]
            exact hown3
          case measure => simp [intOf]; omega
        · obtain ⟨nd, hnd⟩ : ∃ n, Hid (1 + 4 * k = n) := ⟨_, Lib.hid rfl⟩
          have hd500 : nd ≤ 500 := by rw [← hnd.out]; omega
          rw [hnd.out] at hds hown
          obtain ⟨A7, c7, rfl⟩ := slice_form hown
          have kwr : Below w.heap.size w wr := kx.trans (hbw.mono kx.size)
          have q1 := own_belowX O1.out hbw
          have q2 := own_belowX O2.out hbw
          have q3 := own_belowX O3.out hbw
          have q4 := own_belowX O4.out hbw
          have q5 := own_belowX O5.out hbw
          have S1 := H1.out.below kwr (Nat.le_refl _)
          have S2 := H2.out.below kwr (Nat.le_refl _)
          clear od o6 k35 hv6 hat
          go_wp2
          go_loop [152] (fun u152 => ∃ i : Nat, i ≤ nd ∧ u152 = .int .i64 i) (fun u152 => nd - (intOf u152).toNat)
          case atStart => exact ⟨0, by omega, rfl⟩
          case round =>
            obtain ⟨i, hi, rfl⟩ := hrel
            by_cases hlt2 : i < nd
            · obtain ⟨g, rfl, hc7⟩ := slice_block hown (by omega)
              obtain ⟨x, hx⟩ : ∃ x, ds[i]? = some x := ⟨_, List.getElem?_eq_getElem (by omega)⟩
              have hcx : wr.cell? ⟨g, i, none⟩ = some (.int .i64 x) := (hown.cellAt i (by omega)).trans (by rw [List.getElem?_map, hx]; rfl)
              have ca := has_any _ a x wr S1 ya
              have cb := has_any _ b x wr S2 yb
              have cX := has_any _ X x wr (sp_row hnx.out q1) xl
              have cY := has_any _ Y x wr (sp_row hny.out q2) yl
              have cJ := has_any _ J x wr (sp_row rfl q3) (by omega)
              have cM := has_any _ M x wr (sp_row rfl q4) (by omega)
              have cC := has_any _ C x wr (sp_row rfl q5) (by omega)
              rw [HX.out] at cX
              rw [HY.out] at cY
              rw [al.out.hJ] at cJ
              rw [al.out.hM] at cM
              rw [al.out.hC] at cC
              clear hx hown q1 q2 q3 q4 q5 S1 S2
              generalize hasD a x = pa at ca cX cJ cM cC
              generalize hasD b x = pb at cb cY cJ cM cC
              cases pa <;> cases pb
              all_goals
                try simp only [Bool.true_or, Bool.false_or, Bool.true_and, Bool.false_and, Bool.not_true, Bool.not_false] at cJ cM cC
                go_wp2_with fail
                refine ca.mono ?_
                rintro e w' ⟨rfl, rfl⟩
                go_wp2_with fail
                refine cb.mono ?_
                rintro e w' ⟨rfl, rfl⟩
                go_wp2_with fail
                refine cX.mono ?_
                rintro e w' ⟨rfl, rfl⟩
                go_wp2_with fail
                refine cY.mono ?_
                rintro e w' ⟨rfl, rfl⟩
                go_wp2_with fail
                refine cJ.mono ?_
                rintro e w' ⟨rfl, rfl⟩
                go_wp2_with fail
                refine cM.mono ?_
                rintro e w' ⟨rfl, rfl⟩
                go_wp2_with fail
                refine cC.mono ?_
                rintro e w' ⟨rfl, rfl⟩
                go_wp2
                go_round
                case rel => exact ⟨i + 1, by omega, by go_num⟩
                case measure => simp [intOf]; omega
            · clear S1 S2 hown
              go_wp2_with fail
              refine (joinP_any _ _ C M wr (sp_row rfl q5) (sp_row rfl q4) (by omega) (by omega)).mono ?_
              rintro e y1 ⟨t7, L7, E7, rfl, o7, b7, n7⟩
              have q1 := own_belowX q1 b7
              have q2 := own_belowX q2 b7
              have q5 := own_belowX q5 b7
              obtain ⟨e7, rfl⟩ := al.out.again _ _ n7
              rw [e7] at o7
              clear e7 n7
              go_wp2_with fail
              refine (meetP_any _ _ C Y y1 (sp_row rfl q5) (sp_row hny.out q2) (by omega) yl).mono ?_
              rintro e y2 ⟨t8, L8, E8, rfl, o8, b8, n8⟩
              obtain ⟨rfl, rfl⟩ := al.out.rest _ _ n8
              have o8 : y2.ownsRow y1.heap.size 48 2 t8 0 [] := o8
              obtain ⟨A8, c8, rfl⟩ := slice_form o8
              have q1 := own_belowX q1 b8
              have o7 := own_belowX o7 b8
              have ky2 := kwr.trans ((b7.trans (b8.mono b7.size)).mono kwr.size)
              clear o8 b7 b8 n8 q2 q3 q4 q5
              go_wp2_with fail
              refine (eqSpans_any _ _ X y2 (sp_row rfl o7) (sp_row hnx.out q1) xl).mono ?_
              rintro e y3 ⟨rfl, m, rfl⟩
              have ky3 : Below w.heap.size w (y2.drewN m) := drewN_below ky2 m
              go_wp2_with fail
              refine (fin _ ky3).mono ?_
              rintro e y4 ⟨rfl, b9⟩
              go_wp2_with fail
              go_ret
              exact ⟨rfl, ky3.trans (b9.mono ky3.size)⟩
    all_goals
      have big : decide ((60 : Int) < (nx : Int) + (ny : Int)) = true := decide_eq_true (by omega)
      clear o3 o4 o5
      go_wp2_with fail
      refine (fin _ k9).mono ?_
      rintro e w3 ⟨rfl, b3⟩
      go_wp2_with fail
      go_ret
      exact ⟨rfl, k9.trans (b3.mono k9.size)⟩
  all_goals
    clear sa sb
    go_wp2_with fail
    refine (fin w2 k2).mono ?_
    rintro e w3 ⟨rfl, b3⟩
    go_wp2_with fail
    go_ret
    exact ⟨rfl, k2.trans (b3.mono k2.size)⟩
end Go.Proofs.YtfhljcpicdabmaaGreatDoor
