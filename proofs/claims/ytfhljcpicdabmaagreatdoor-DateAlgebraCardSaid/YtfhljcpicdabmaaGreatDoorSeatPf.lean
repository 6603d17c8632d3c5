/- The seat: the specification's search for a place. -/
import Derived.Test.YtfhljcpicdabmaaGreatDoorSeatPe
namespace Go.Proofs.YtfhljcpicdabmaaGreatDoor
open Go Go.RowKit Go.Ev Go.WayM
set_option maxRecDepth 100000
set_option maxHeartbeats 1000000
/-- What the specification's search returns. -/
def PlacedIs (R : Option (List Sp)) (w : World) (e : Ending) (w' : World) : Prop := ∃ s b, e = .returned (.tuple #[s, .bool b]) ∧ Below w.heap.size w w' ∧ ((R = none ∧ b = false ∧ s = .slice none 0 0) ∨ ∃ r, R = some r ∧ b = true ∧ SpAt w' s r)
theorem find_none {α β : Type} {f : α → Option β} {l : List α} {i : Nat} {x : α} (h : (l.take i).findSome? f = none) (hx : l[i]? = some x) (hf : f x = none) : (l.take (i + 1)).findSome? f = none := by
  rw [take_next hx, List.findSome?_append, h, List.findSome?_cons, hf]; rfl
theorem find_some {α β : Type} {f : α → Option β} {l : List α} {i : Nat} {x : α} {y : β} (h : (l.take i).findSome? f = none) (hx : l[i]? = some x) (hf : f x = some y) : l.findSome? f = some y := by
  have hlt : i < l.length := (List.getElem?_eq_some_iff.1 hx).1
  have e : l = l.take i ++ x :: l.drop (i + 1) := by
    rw [← (List.getElem?_eq_some_iff.1 hx).2, ← List.drop_eq_getElem_cons hlt, List.take_append_drop]
  rw [e, List.findSome?_append, h, List.findSome?_cons, hf]; rfl
theorem run_append_sp {w : World} {base ty : Nat} {v : Value} {n : Nat} {xs : List Value} (hown : w.ownsRow base 48 2 v n xs) {A : Option Addr} {m c : Nat} {l : List Sp} (hsp : SpAt w (.slice A m c) l) (hn : n ≤ 100) (hm : m ≤ 100) (hb : base ≤ w.heap.size) :
    ∃ v' w', (Builtin.append_ #[42, 42] ty #[v, .slice A m c]).run Tryz.prog w = .ok v' w' ∧ w'.ownsRow base 48 2 v' (n + m) (xs ++ spCells l) ∧ w.grownBy w' v.ownBlock ∧ (v'.ownBlock = v.ownBlock ∨ v'.ownBlock = some w.heap.size) := by
  obtain ⟨i0, hi0, hz0, hz1, hz2⟩ := info_parts info48
  have hl := hsp.len
  obtain ⟨A0, c0, he, hc⟩ := hsp
  cases he
  have h1 : ∀ u ∈ spCells l, u.oneCell' = true := fun u hu => by
    unfold spCells at hu
    obtain ⟨p, _, hp⟩ := List.mem_flatMap.1 hu
    simp at hp
    rcases hp with rfl | rfl <;> rfl
  rcases A with _ | ad
  · have h0 : l = [] := by
      rcases Nat.eq_zero_or_pos l.length with h | h
      · exact List.eq_nil_of_length_eq_zero h
      · obtain ⟨g, o, he, _⟩ := hc h; cases he
    subst h0
    refine ⟨v, w, ?_, by simpa [spCells] using hown, World.grownBy.refl w _, .inl rfl⟩
    rcases hown.2 with ⟨rfl, rfl⟩ | ⟨g, cap, cur, rfl, _, _, hnc, _⟩
    · simp [Builtin.append_, run_underlying Tryz.underlying42, sizeOf, typeInfo, hi0, Builtin.lenOf, Builtin.firstCells]
    · simp [Builtin.append_, run_underlying Tryz.underlying42, sizeOf, typeInfo, hi0, Builtin.lenOf, Builtin.firstCells, hnc, storeCells]
  · obtain ⟨v', w', hr, h2, h3, _, h5⟩ := run_append_own_at (P := Tryz.prog) w base 42 ty 48 i0 (.agg #[.int .i64 0, .int .i64 0]) 2 16 Tryz.underlying42 hi0 hz0 hz1 hz2 rfl (by decide) v n xs hown ad l.length _ (spCells l) (spCells_len l)
      (fun j u hj => by
        have hjl : j < (spCells l).length := (List.getElem?_eq_some_iff.1 hj).1
        rw [spCells_len] at hjl
        obtain ⟨g, o, he, hg, hx⟩ := hc (by omega)
        cases he
        obtain ⟨q, hq⟩ : ∃ q, l[j / 2]? = some q := ⟨_, List.getElem?_eq_getElem (by omega)⟩
        have hcc := hx (j / 2) q hq
        have hsc := spCells_at l (j / 2) q hq
        have ea : (⟨g, o, none⟩ : Addr).add j = ⟨g, o + j, none⟩ := by
          unfold Addr.add
          by_cases h0 : j = 0 <;> simp [h0]
        rw [ea]
        by_cases hp : j % 2 = 0
        · have e2 : j / 2 * 2 = j := by omega
          rw [e2] at hcc hsc
          rw [hsc.1] at hj
          cases hj
          exact hcc.1
        · have e2 : j / 2 * 2 + 1 = j := by omega
          have e3 : o + j / 2 * 2 + 1 = o + j := by omega
          rw [e2] at hsc
          rw [e3] at hcc
          rw [hsc.2] at hj
          cases hj
          exact hcc.2) h1 (by unfold maxLen; omega) (by omega) hb
    exact ⟨v', w', hr, h2, h3, h5⟩
theorem wp_append_sp {o : Oper} {a : Act} {w : World} {K : Act → World → Prop} {Q : Exit → Act → World → Prop} (s x : Operand)
    (ho : o.op = .call { callee := .builtin .append, args := #[s, x], argTypes := #[42, 42] }) {base : Nat} {v : Value} {n : Nat} {xs : List Value} (hs : a.eval s = v) (hown : w.ownsRow base 48 2 v n xs)
    {A : Option Addr} {m c : Nat} {l : List Sp} (hx : a.eval x = .slice A m c) (hsp : SpAt w (.slice A m c) l) (hn : n ≤ 100) (hm : m ≤ 100) (hb : base ≤ w.heap.size)
    (h : ∀ v' w', w'.ownsRow base 48 2 v' (n + m) (xs ++ spCells l) → w.grownBy w' v.ownBlock → (v'.ownBlock = v.ownBlock ∨ v'.ownBlock = some w.heap.size) → K (a.put o.dst v') w') : o.wp Tryz.prog a w K Q := by
  obtain ⟨v', w', hr, h2, h3, h4⟩ := run_append_sp (ty := o.type) hown hsp hn hm hb
  unfold Oper.wp execOp
  simp only [ho, resolve, invoke, builtin, Sem.run_bind, Sem.run_pure, Result.andThen_ok, List.map_toArray, List.map_cons, List.map_nil, hs, hx, hr]
  exact h v' w' h2 h3 h4
theorem sp_one {w : World} {b : Nat} {p : Sp} (h : Box w b p) : SpAt w (.slice (some ⟨b, 0, none⟩) 1 1) [p] := by
  refine ⟨_, 1, rfl, fun _ => ⟨b, 0, rfl, h.2.2, fun i q hq => ?_⟩⟩
  cases i with
  | zero =>
    simp only [List.getElem?_cons_zero, Option.some.injEq] at hq
    subst hq
    exact ⟨h.1, h.2.1⟩
  | succ i => simp at hq
theorem sp_more {w : World} {B m : Nat} {v : Value} {l : List Sp} {p : Sp} (hm : l.length = m) (h : w.ownsRow B 48 2 v (0 + m + 1) ([] ++ spCells l ++ spCells [p])) : SpAt w v (l ++ [p]) := by
  have e : ([] ++ spCells l ++ spCells [p] : List Value) = spCells (l ++ [p]) := by rw [spCells_snoc]; rfl
  have e2 : 0 + m + 1 = (l ++ [p]).length := by rw [List.length_append, hm]; simp
  rw [e, e2] at h
  exact spAt_own h
theorem Box.grown {w w' : World} {b : Nat} {p : Sp} {row : Option Nat} (h : Box w b p) (hg : w.grownBy w' row) (hne : some b ≠ row) : Box w' b p :=
  ⟨hg.cell h.1 hne, hg.cell h.2.1 hne, by have := hg.size; have := h.2.2; omega⟩
abbrev OneAt (W1 : World) (r i : Nat) (p : Sp) (w : World) : Prop := w.cell? ⟨r, i * 2, none⟩ = some (.int .i64 p.1) ∧ w.cell? ⟨r, i * 2 + 1, none⟩ = some (.int .i64 p.2) ∧ Below W1.heap.size W1 w
theorem oneAt_of {W1 w : World} {r i : Nat} {p : Sp} (hr : r < W1.heap.size) (h0 : W1.cell? ⟨r, i * 2, none⟩ = some (.int .i64 p.1)) (h1 : W1.cell? ⟨r, i * 2 + 1, none⟩ = some (.int .i64 p.2)) (hb : Below W1.heap.size W1 w) : OneAt W1 r i p w :=
  ⟨(hb.cell (p := ⟨r, i * 2, none⟩) hr).trans h0, (hb.cell (p := ⟨r, i * 2 + 1, none⟩) hr).trans h1, hb⟩
theorem placed_off (s sl : Value) (net : Net) (pl : List Sp) (W0 : World) (h : NetAt W0 s net) (hl : SpAt W0 sl pl) (hN : Hid (netB net = true)) (hlen : pl.length ≤ net.length) (hg : Hid (∀ p ∈ pl, p.1 < p.2)) (hf : fitsAll net pl = false) :
    Calls Tryz.prog 120 #[s, sl] W0 (PlacedIs none W0) := by
  have cF := fitsR_any s sl net pl W0 h hl hN hlen hg
  rw [hf] at cF
  go_enter Tryz.func120, Tryz.ntmps120
  go_wp2_with fail
  refine cF.mono ?_
  rintro e w1 ⟨rfl, b1⟩
  go_wp2
  go_ret2
  exact ⟨_, _, rfl, b1, .inl ⟨rfl, rfl, rfl⟩⟩
theorem placed_end (s sl : Value) (net : Net) (pl : List Sp) (W0 : World) (h : NetAt W0 s net) (hl : SpAt W0 sl pl) (hN : Hid (netB net = true)) (hlen : pl.length = net.length) (hg : Hid (∀ p ∈ pl, p.1 < p.2)) (hf : fitsAll net pl = true) :
    Calls Tryz.prog 120 #[s, sl] W0 (PlacedIs (some pl) W0) := by
  have cF := fitsR_any s sl net pl W0 h hl hN (by omega) hg
  rw [hf] at cF
  obtain ⟨A, c, rfl, _⟩ := id h
  obtain ⟨B, cl, rfl, _⟩ := id hl
  rw [hlen] at cF hl ⊢
  obtain ⟨n, hn⟩ : ∃ n, Hid (net.length = n) := ⟨_, Lib.hid rfl⟩
  rw [hn.out] at cF hl ⊢
  clear hlen
  go_enter Tryz.func120, Tryz.ntmps120
  go_wp2_with fail
  refine cF.mono ?_
  rintro e w1 ⟨rfl, b1⟩
  go_wp2
  go_ret2
  exact ⟨_, _, rfl, b1, .inr ⟨pl, rfl, rfl, hl.below b1 (Nat.le_refl _)⟩⟩
theorem placed_step (s sl : Value) (net : Net) (S pl : List Sp) (d : Nat) (W0 : World) (hS : Hid (small (2 * net.length) = S)) (h : NetAt W0 s net) (hl : SpAt W0 sl pl) (hN : Hid (netB net = true)) (hlen : pl.length + (d + 1) = net.length) (hg : Hid (∀ p ∈ pl, p.1 < p.2)) (hf : fitsAll net pl = true)
    (ih : Hid (∀ (sl : Value) (p : Sp) (w : World), p ∈ S → NetAt w s net → SpAt w sl (pl ++ [p]) → Calls Tryz.prog 120 #[s, sl] w (PlacedIs (srch net S d (pl ++ [p])) w))) :
    Calls Tryz.prog 120 #[s, sl] W0 (PlacedIs (S.findSome? fun p => srch net S d (pl ++ [p])) W0) := by
  have cF := fitsR_any s sl net pl W0 h hl hN (by omega) hg
  rw [hf] at cF
  obtain ⟨A, c, rfl, _⟩ := id h
  obtain ⟨B, cl, rfl, _⟩ := id hl
  obtain ⟨n, hn⟩ : ∃ n, Hid (net.length = n) := ⟨_, Lib.hid rfl⟩
  obtain ⟨m, hm⟩ : ∃ m, Hid (pl.length = m) := ⟨_, Lib.hid rfl⟩
  have h4 := netB_four hN.out
  rw [hn.out] at cF h h4 hlen hS ih ⊢
  rw [hm.out] at cF hl hlen ⊢
  have hmn : ((m : Int) == n) = false := by simp; omega
  have hm4 : m ≤ 4 := by omega
  have HL := Lib.hid hlen
  clear hlen
  go_enter Tryz.func120, Tryz.ntmps120
  go_wp2_with fail
  refine cF.mono ?_
  rintro e w1 ⟨rfl, b1⟩
  have h1 := h.below b1 (Nat.le_refl _)
  have hl1 := hl.below b1 (Nat.le_refl _)
  clear h hl
  have HN0 := Lib.hid h1
  have HL0 := Lib.hid hl1
  clear h1 hl1
  go_wp2_with fail
  refine (small162 n _ (by have := HL.out; omega) h4).mono ?_
  rintro e w2 ⟨r, kk, rfl, hr, hsp, b2⟩
  have hsl := small_28 n (by have := HL.out; omega) h4
  rw [hS.out] at hsp hsl ⊢
  obtain ⟨ms, hms⟩ : ∃ ms, Hid (S.length = ms) := ⟨_, Lib.hid rfl⟩
  rw [hms.out] at hsl ⊢
  obtain ⟨sl1, sl2⟩ := hsl
  have hrs : r < w2.heap.size := by
    rcases Nat.lt_or_ge r w2.heap.size with h' | h'
    · exact h'
    · obtain ⟨p, hp⟩ : ∃ p, S[0]? = some p := ⟨_, List.getElem?_eq_getElem (by have := hms.out; omega)⟩
      have := (hsp 0 p hp).1
      unfold World.cell? at this
      simp [Array.getElem?_eq_none h'] at this
  have b12 : Below w1.heap.size w1 w2 := b2
  go_wp2
  go_loopw [7] (fun u7 wr => ∃ i : Nat, i ≤ ms ∧ u7 = .int .i64 i ∧ Hid ((S.take i).findSome? (fun p => srch net S d (pl ++ [p])) = none) ∧ SpansAt wr r S ∧ r < wr.heap.size ∧ Below w1.heap.size w1 wr) (fun u7 _ => ms - (intOf u7).toNat)
  case atStart => exact ⟨0, by omega, rfl, Lib.hid rfl, hsp, hrs, b12⟩
  case round =>
    obtain ⟨i, hi, rfl, hno, hsp1, hrs1, hbw⟩ := hrel
    clear hsp hrs b12
    by_cases hlt : i < ms
    · obtain ⟨p, hp⟩ : ∃ p, S[i]? = some p := ⟨_, List.getElem?_eq_getElem (by have := hms.out; omega)⟩
      obtain ⟨c0, c1⟩ := hsp1 i p hp
      have HP := Lib.hid hp
      clear hp
      have bi1 : (0 : Int) ≤ i := by omega
      have bi2 : (i : Int) < ms := by omega
      go_wp2
      have hS0 : OneAt wr r i p wr.drew := ⟨c0, c1, Below.drew (Below.refl _ _)⟩
      refine wp_region_noPanic ?_
      refine wp_region_held (S := OneAt wr r i p) (by kernel_rfl) ?_
      refine wpAnyH_take_at 0 (some 31) (.slice A n c) rfl rfl (by kernel_rfl) (by kernel_rfl) (by kernel_rfl) (fun _ _ _ h => h) (.inl ⟨by rfl, fun wz hSw => ?_⟩) hS0 ?_
      · (try dsimp only at hSw); go_simp
      try simp only [Act.put, List.setIfInBounds_toArray, List.set_cons_zero, List.set_cons_succ]
      refine wpAnyH_take_at 2 (some 33) (.slice B m cl) rfl rfl (by kernel_rfl) (by kernel_rfl) (by kernel_rfl) (fun _ _ _ h => h) (.inl ⟨by rfl, fun wz hSw => ?_⟩) hS0 ?_
      · (try dsimp only at hSw); go_simp
      try simp only [Act.put, List.setIfInBounds_toArray, List.set_cons_zero, List.set_cons_succ]
      refine wpAnyH_take_at 4 (some 35) (.slice (some ⟨r, 0, none⟩) ms kk) rfl rfl (by kernel_rfl) (by kernel_rfl) (by kernel_rfl) (fun _ _ _ h => h) (.inl ⟨by rfl, fun wz hSw => ?_⟩) hS0 ?_
      · (try dsimp only at hSw); go_simp
      try simp only [Act.put, List.setIfInBounds_toArray, List.set_cons_zero, List.set_cons_succ]
      refine wpAnyH_take_at 5 (some 36) (.int .i64 i) rfl rfl (by kernel_rfl) (by kernel_rfl) (by kernel_rfl) (fun _ _ _ h => h) (.inl ⟨by rfl, fun wz hSw => ?_⟩) hS0 ?_
      · (try dsimp only at hSw); go_simp
      try simp only [Act.put, List.setIfInBounds_toArray, List.set_cons_zero, List.set_cons_succ]
      refine wpAnyH_take_at 6 (some 37) (.pointer (some ⟨r, i * 2, none⟩)) rfl rfl (by kernel_rfl) (by kernel_rfl) (by kernel_rfl) (fun _ _ _ h => h) (.inl ⟨by rfl, fun wz hSw => ?_⟩) hS0 ?_
      · (try dsimp only at hSw); go_simp
      try simp only [Act.put, List.setIfInBounds_toArray, List.set_cons_zero, List.set_cons_succ]
      refine wpAnyH_take_at 7 (some 38) (.agg #[.int .i64 p.1, .int .i64 p.2]) rfl rfl (by kernel_rfl) (by kernel_rfl) (by kernel_rfl) (fun _ _ _ h => h) (.inl ⟨by rfl, fun wz hSw => ?_⟩) hS0 ?_
      · (try dsimp only at hSw); go_simp
      try simp only [Act.put, List.setIfInBounds_toArray, List.set_cons_zero, List.set_cons_succ]
      refine wpAnyH_all (rs := [1, 8]) (by kernel_rfl) (by simp) fun k hk => ?_
      simp only [List.mem_cons, List.not_mem_nil, or_false] at hk
      rcases hk with rfl | rfl
      · refine wpOp_yes' rfl rfl ?_
        go_simp
        have hE : ((wr.alloc (.cells #[] 48)).drew).ownsRow wr.heap.size 48 2 (.slice (some ⟨wr.heap.size, 0, none⟩) 0 0) 0 [] := World.ownsRow_made wr #[] 0 (Nat.le_refl _) (by unfold maxLen; omega) rfl
        have bq : Below wr.heap.size wr ((wr.alloc (.cells #[] 48)).drew) := Below.drew (below_new wr _)
        refine ⟨oneAt_of hrs1 c0 c1 bq, ?_⟩
        try simp only [Act.put, List.setIfInBounds_toArray, List.set_cons_zero, List.set_cons_succ]
        refine wpAnyH_all (rs := [3, 8]) (by kernel_rfl) (by simp) fun k hk => ?_
        simp only [List.mem_cons, List.not_mem_nil, or_false] at hk
        rcases hk with rfl | rfl
        · refine wpOp_yes' rfl rfl ?_
          refine wp_append_sp (.tmp 32) (.tmp 33) rfl rfl hE rfl (HL0.out.below (hbw.trans (bq.mono hbw.size)) (Nat.le_refl _)) (by decide) (by omega) bq.size ?_
          intro v1 w3 ownX g3 at3
          have b3 : Below wr.heap.size wr w3 := bq.grown g3 bq.size (fun k hk => (hE.lt k hk).1)
          refine ⟨oneAt_of hrs1 c0 c1 b3, ?_⟩
          try simp only [Act.put, List.setIfInBounds_toArray]
          refine wpAnyH_one (j := 8) (by kernel_rfl) ?_
          refine wpOp_yes' rfl rfl ?_
          go_simp
          have bX : Below wr.heap.size wr (w3.alloc (.cells #[.int .i64 p.1, .int .i64 p.2] 48)) := b3.alloc b3.size _
          have ownX := ownX.alloc (.cells #[.int .i64 p.1, .int .i64 p.2] 48)
          have boxX := Box.new w3 p 48
          refine ⟨oneAt_of hrs1 c0 c1 bX, ?_⟩
          try simp only [Act.put, List.setIfInBounds_toArray, List.set_cons_zero, List.set_cons_succ]
          refine wpAnyH_one (j := 9) (by kernel_rfl) ?_
          refine wpOp_yes' rfl rfl ?_
          refine wp_append_sp (.tmp 34) (.tmp 39) rfl rfl ownX rfl (sp_one boxX) (by omega) (by decide) bX.size ?_
          intro v2 w9 own9 g9 _
          have b9 : Below wr.heap.size wr w9 := bX.grown g9 bX.size (fun k hk => (ownX.lt k hk).1)
          have sp9 : SpAt w9 v2 (pl ++ [p]) := sp_more hm.out own9
          refine ⟨oneAt_of hrs1 c0 c1 b9, ?_⟩
          try simp only [Act.put, List.setIfInBounds_toArray]
          refine wpAnyH_one (j := 10) (by kernel_rfl) ?_
          refine wpOp_yes' rfl rfl ?_
          go_simp
          go_at_call 120
          refine (ih.out v2 p w9 (List.mem_of_getElem? HP.out) (HN0.out.below (hbw.trans (b9.mono hbw.size)) (Nat.le_refl _)) sp9).mono ?_
          rintro e w10 ⟨s', b, rfl, b10, hres⟩
          have bz := b9.trans (b10.mono b9.size)
          have hSz : OneAt wr r i p w10 := oneAt_of hrs1 c0 c1 bz
          refine ⟨hSz, ?_⟩
          try simp only [Act.put, List.setIfInBounds_toArray, List.set_cons_zero, List.set_cons_succ]
          rcases hres with ⟨hR, rfl, rfl⟩ | ⟨rr, hR, rfl, hs⟩
          · refine wpAnyH_take_at 11 (some 30) (.tuple #[(.slice none 0 0), .bool false]) rfl rfl (by kernel_rfl) (by kernel_rfl) (by kernel_rfl) (fun _ _ _ h => h) (.inl ⟨by rfl, fun wz hSw => ?_⟩) hSz ?_
            · (try dsimp only at hSw); go_simp
            try simp only [Act.put, List.setIfInBounds_toArray, List.set_cons_zero, List.set_cons_succ]
            refine wpAnyH_take_at 12 (some 42) (.slice none 0 0) rfl rfl (by kernel_rfl) (by kernel_rfl) (by kernel_rfl) (fun _ _ _ h => h) (.inl ⟨by rfl, fun wz hSw => ?_⟩) hSz ?_
            · (try dsimp only at hSw); go_simp
            try simp only [Act.put, List.setIfInBounds_toArray, List.set_cons_zero, List.set_cons_succ]
            refine wpAnyH_take_at 13 (some 43) (.bool false) rfl rfl (by kernel_rfl) (by kernel_rfl) (by kernel_rfl) (fun _ _ _ h => h) (.inl ⟨by rfl, fun wz hSw => ?_⟩) hSz ?_
            · (try dsimp only at hSw); go_simp
            try simp only [Act.put, List.setIfInBounds_toArray, List.set_cons_zero, List.set_cons_succ]
            refine wpAnyH_take_at 14 (some 8) (.slice none 0 0) rfl rfl (by kernel_rfl) (by kernel_rfl) (by kernel_rfl) (fun _ _ _ h => h) (.inl ⟨by rfl, fun wz hSw => ?_⟩) hSz ?_
            · (try dsimp only at hSw); go_simp
            try simp only [Act.put, List.setIfInBounds_toArray, List.set_cons_zero, List.set_cons_succ]
            refine wpAnyH_take_at 15 (some 9) (.bool false) rfl rfl (by kernel_rfl) (by kernel_rfl) (by kernel_rfl) (fun _ _ _ h => h) (.inl ⟨by rfl, fun wz hSw => ?_⟩) hSz ?_
            · (try dsimp only at hSw); go_simp
            try simp only [Act.put, List.setIfInBounds_toArray, List.set_cons_zero, List.set_cons_succ]
            refine wpAnyH_done (by kernel_rfl) ?_ _
            simp only [NoPanic]
            go_wp2
            go_roundw
            case rel => exact ⟨i + 1, by omega, by go_num, Lib.hid (find_none hno.out HP.out hR), hsp1.below bz hrs1, by have := bz.size; omega, hbw.trans (bz.mono hbw.size)⟩
            case measure => simp [intOf]; omega
          · refine wpAnyH_take_at 11 (some 30) (.tuple #[s', .bool true]) rfl rfl (by kernel_rfl) (by kernel_rfl) (by kernel_rfl) (fun _ _ _ h => h) (.inl ⟨by rfl, fun wz hSw => ?_⟩) hSz ?_
            · (try dsimp only at hSw); go_simp
            try simp only [Act.put, List.setIfInBounds_toArray, List.set_cons_zero, List.set_cons_succ]
            refine wpAnyH_take_at 12 (some 42) (s') rfl rfl (by kernel_rfl) (by kernel_rfl) (by kernel_rfl) (fun _ _ _ h => h) (.inl ⟨by rfl, fun wz hSw => ?_⟩) hSz ?_
            · (try dsimp only at hSw); go_simp
            try simp only [Act.put, List.setIfInBounds_toArray, List.set_cons_zero, List.set_cons_succ]
            refine wpAnyH_take_at 13 (some 43) (.bool true) rfl rfl (by kernel_rfl) (by kernel_rfl) (by kernel_rfl) (fun _ _ _ h => h) (.inl ⟨by rfl, fun wz hSw => ?_⟩) hSz ?_
            · (try dsimp only at hSw); go_simp
            try simp only [Act.put, List.setIfInBounds_toArray, List.set_cons_zero, List.set_cons_succ]
            refine wpAnyH_take_at 14 (some 8) (s') rfl rfl (by kernel_rfl) (by kernel_rfl) (by kernel_rfl) (fun _ _ _ h => h) (.inl ⟨by rfl, fun wz hSw => ?_⟩) hSz ?_
            · (try dsimp only at hSw); go_simp
            try simp only [Act.put, List.setIfInBounds_toArray, List.set_cons_zero, List.set_cons_succ]
            refine wpAnyH_take_at 15 (some 9) (.bool true) rfl rfl (by kernel_rfl) (by kernel_rfl) (by kernel_rfl) (fun _ _ _ h => h) (.inl ⟨by rfl, fun wz hSw => ?_⟩) hSz ?_
            · (try dsimp only at hSw); go_simp
            try simp only [Act.put, List.setIfInBounds_toArray, List.set_cons_zero, List.set_cons_succ]
            refine wpAnyH_done (by kernel_rfl) ?_ _
            simp only [NoPanic]
            go_wp2
            go_ret2
            exact ⟨_, _, rfl, (b1.trans (hbw.mono b1.size)).trans (bz.mono (by have := b1.size; have := hbw.size; omega)), .inr ⟨rr, find_some hno.out HP.out hR, rfl, hs⟩⟩
        · refine wpOp_yes' rfl rfl ?_
          go_simp
          have hE : (((wr.alloc (.cells #[] 48)).alloc (.cells #[.int .i64 p.1, .int .i64 p.2] 48)).drew).ownsRow wr.heap.size 48 2 (.slice (some ⟨wr.heap.size, 0, none⟩) 0 0) 0 [] := hE.alloc (.cells #[.int .i64 p.1, .int .i64 p.2] 48)
          have hzz : ((wr.alloc (.cells #[] 48))).heap.size = wr.heap.size + 1 := by simp
          have boxE := Box.new (wr.alloc (.cells #[] 48)) p 48
          rw [hzz] at boxE
          clear hzz
          have boxE : Box (((wr.alloc (.cells #[] 48)).alloc (.cells #[.int .i64 p.1, .int .i64 p.2] 48)).drew) (wr.heap.size + 1) p := boxE
          have bq : Below wr.heap.size wr (((wr.alloc (.cells #[] 48)).alloc (.cells #[.int .i64 p.1, .int .i64 p.2] 48)).drew) := bq.alloc bq.size _
          refine ⟨oneAt_of hrs1 c0 c1 bq, ?_⟩
          try simp only [Act.put, List.setIfInBounds_toArray, List.set_cons_zero, List.set_cons_succ]
          refine wpAnyH_one (j := 3) (by kernel_rfl) ?_
          refine wpOp_yes' rfl rfl ?_
          refine wp_append_sp (.tmp 32) (.tmp 33) rfl rfl hE rfl (HL0.out.below (hbw.trans (bq.mono hbw.size)) (Nat.le_refl _)) (by decide) (by omega) bq.size ?_
          intro v1 w3 ownX g3 at3
          have b3 : Below wr.heap.size wr w3 := bq.grown g3 bq.size (fun k hk => (hE.lt k hk).1)
          have bX := b3
          have boxX := boxE.grown (row := some wr.heap.size) g3 (by simp)
          refine ⟨oneAt_of hrs1 c0 c1 bX, ?_⟩
          try simp only [Act.put, List.setIfInBounds_toArray]
          refine wpAnyH_one (j := 9) (by kernel_rfl) ?_
          refine wpOp_yes' rfl rfl ?_
          refine wp_append_sp (.tmp 34) (.tmp 39) rfl rfl ownX rfl (sp_one boxX) (by omega) (by decide) bX.size ?_
          intro v2 w9 own9 g9 _
          have b9 : Below wr.heap.size wr w9 := bX.grown g9 bX.size (fun k hk => (ownX.lt k hk).1)
          have sp9 : SpAt w9 v2 (pl ++ [p]) := sp_more hm.out own9
          refine ⟨oneAt_of hrs1 c0 c1 b9, ?_⟩
          try simp only [Act.put]
          refine wpAnyH_one (j := 10) (by kernel_rfl) ?_
          refine wpOp_yes' rfl rfl ?_
          go_simp
          go_at_call 120
          refine (ih.out v2 p w9 (List.mem_of_getElem? HP.out) (HN0.out.below (hbw.trans (b9.mono hbw.size)) (Nat.le_refl _)) sp9).mono ?_
          rintro e w10 ⟨s', b, rfl, b10, hres⟩
          have bz := b9.trans (b10.mono b9.size)
          have hSz : OneAt wr r i p w10 := oneAt_of hrs1 c0 c1 bz
          refine ⟨hSz, ?_⟩
          try simp only [Act.put, List.setIfInBounds_toArray, List.set_cons_zero, List.set_cons_succ]
          rcases hres with ⟨hR, rfl, rfl⟩ | ⟨rr, hR, rfl, hs⟩
          · refine wpAnyH_take_at 11 (some 30) (.tuple #[(.slice none 0 0), .bool false]) rfl rfl (by kernel_rfl) (by kernel_rfl) (by kernel_rfl) (fun _ _ _ h => h) (.inl ⟨by rfl, fun wz hSw => ?_⟩) hSz ?_
            · (try dsimp only at hSw); go_simp
            try simp only [Act.put, List.setIfInBounds_toArray, List.set_cons_zero, List.set_cons_succ]
            refine wpAnyH_take_at 12 (some 42) (.slice none 0 0) rfl rfl (by kernel_rfl) (by kernel_rfl) (by kernel_rfl) (fun _ _ _ h => h) (.inl ⟨by rfl, fun wz hSw => ?_⟩) hSz ?_
            · (try dsimp only at hSw); go_simp
            try simp only [Act.put, List.setIfInBounds_toArray, List.set_cons_zero, List.set_cons_succ]
            refine wpAnyH_take_at 13 (some 43) (.bool false) rfl rfl (by kernel_rfl) (by kernel_rfl) (by kernel_rfl) (fun _ _ _ h => h) (.inl ⟨by rfl, fun wz hSw => ?_⟩) hSz ?_
            · (try dsimp only at hSw); go_simp
            try simp only [Act.put, List.setIfInBounds_toArray, List.set_cons_zero, List.set_cons_succ]
            refine wpAnyH_take_at 14 (some 8) (.slice none 0 0) rfl rfl (by kernel_rfl) (by kernel_rfl) (by kernel_rfl) (fun _ _ _ h => h) (.inl ⟨by rfl, fun wz hSw => ?_⟩) hSz ?_
            · (try dsimp only at hSw); go_simp
            try simp only [Act.put, List.setIfInBounds_toArray, List.set_cons_zero, List.set_cons_succ]
            refine wpAnyH_take_at 15 (some 9) (.bool false) rfl rfl (by kernel_rfl) (by kernel_rfl) (by kernel_rfl) (fun _ _ _ h => h) (.inl ⟨by rfl, fun wz hSw => ?_⟩) hSz ?_
            · (try dsimp only at hSw); go_simp
            try simp only [Act.put, List.setIfInBounds_toArray, List.set_cons_zero, List.set_cons_succ]
            refine wpAnyH_done (by kernel_rfl) ?_ _
            simp only [NoPanic]
            go_wp2
            go_roundw
            case rel => exact ⟨i + 1, by omega, by go_num, Lib.hid (find_none hno.out HP.out hR), hsp1.below bz hrs1, by have := bz.size; omega, hbw.trans (bz.mono hbw.size)⟩
            case measure => simp [intOf]; omega
          · refine wpAnyH_take_at 11 (some 30) (.tuple #[s', .bool true]) rfl rfl (by kernel_rfl) (by kernel_rfl) (by kernel_rfl) (fun _ _ _ h => h) (.inl ⟨by rfl, fun wz hSw => ?_⟩) hSz ?_
            · (try dsimp only at hSw); go_simp
            try simp only [Act.put, List.setIfInBounds_toArray, List.set_cons_zero, List.set_cons_succ]
            refine wpAnyH_take_at 12 (some 42) (s') rfl rfl (by kernel_rfl) (by kernel_rfl) (by kernel_rfl) (fun _ _ _ h => h) (.inl ⟨by rfl, fun wz hSw => ?_⟩) hSz ?_
            · (try dsimp only at hSw); go_simp
            try simp only [Act.put, List.setIfInBounds_toArray, List.set_cons_zero, List.set_cons_succ]
            refine wpAnyH_take_at 13 (some 43) (.bool true) rfl rfl (by kernel_rfl) (by kernel_rfl) (by kernel_rfl) (fun _ _ _ h => h) (.inl ⟨by rfl, fun wz hSw => ?_⟩) hSz ?_
            · (try dsimp only at hSw); go_simp
            try simp only [Act.put, List.setIfInBounds_toArray, List.set_cons_zero, List.set_cons_succ]
            refine wpAnyH_take_at 14 (some 8) (s') rfl rfl (by kernel_rfl) (by kernel_rfl) (by kernel_rfl) (fun _ _ _ h => h) (.inl ⟨by rfl, fun wz hSw => ?_⟩) hSz ?_
            · (try dsimp only at hSw); go_simp
            try simp only [Act.put, List.setIfInBounds_toArray, List.set_cons_zero, List.set_cons_succ]
            refine wpAnyH_take_at 15 (some 9) (.bool true) rfl rfl (by kernel_rfl) (by kernel_rfl) (by kernel_rfl) (fun _ _ _ h => h) (.inl ⟨by rfl, fun wz hSw => ?_⟩) hSz ?_
            · (try dsimp only at hSw); go_simp
            try simp only [Act.put, List.setIfInBounds_toArray, List.set_cons_zero, List.set_cons_succ]
            refine wpAnyH_done (by kernel_rfl) ?_ _
            simp only [NoPanic]
            go_wp2
            go_ret2
            exact ⟨_, _, rfl, (b1.trans (hbw.mono b1.size)).trans (bz.mono (by have := b1.size; have := hbw.size; omega)), .inr ⟨rr, find_some hno.out HP.out hR, rfl, hs⟩⟩
      · refine wpOp_yes' rfl rfl ?_
        go_simp
        have boxE := Box.new wr p 48
        have bq : Below wr.heap.size wr ((wr.alloc (.cells #[.int .i64 p.1, .int .i64 p.2] 48)).drew) := Below.drew (below_new wr _)
        refine ⟨oneAt_of hrs1 c0 c1 bq, ?_⟩
        try simp only [Act.put, List.setIfInBounds_toArray, List.set_cons_zero, List.set_cons_succ]
        refine wpAnyH_one (j := 1) (by kernel_rfl) ?_
        refine wpOp_yes' rfl rfl ?_
        go_simp
        have hzz : (wr.alloc (.cells #[.int .i64 p.1, .int .i64 p.2] 48)).heap.size = wr.heap.size + 1 := by simp
        have hE := World.ownsRow_made (e := 48) (size := 2) (wr.alloc (.cells #[.int .i64 p.1, .int .i64 p.2] 48)) #[] 0 (base := wr.heap.size) (by simp) (by unfold maxLen; omega) rfl
        rw [hzz] at hE
        clear hzz
        have hE : (((wr.alloc (.cells #[.int .i64 p.1, .int .i64 p.2] 48)).alloc (.cells #[] 48)).drew).ownsRow wr.heap.size 48 2 (.slice (some ⟨wr.heap.size + 1, 0, none⟩) 0 0) 0 [] := hE
        have boxE : Box (((wr.alloc (.cells #[.int .i64 p.1, .int .i64 p.2] 48)).alloc (.cells #[] 48)).drew) wr.heap.size p := boxE.below (Below.drew (below_new (wr.alloc (.cells #[.int .i64 p.1, .int .i64 p.2] 48)) (.cells #[] 48))) boxE.2.2
        have bq : Below wr.heap.size wr (((wr.alloc (.cells #[.int .i64 p.1, .int .i64 p.2] 48)).alloc (.cells #[] 48)).drew) := bq.alloc bq.size _
        refine ⟨oneAt_of hrs1 c0 c1 bq, ?_⟩
        try simp only [Act.put, List.setIfInBounds_toArray, List.set_cons_zero, List.set_cons_succ]
        refine wpAnyH_one (j := 3) (by kernel_rfl) ?_
        refine wpOp_yes' rfl rfl ?_
        refine wp_append_sp (.tmp 32) (.tmp 33) rfl rfl hE rfl (HL0.out.below (hbw.trans (bq.mono hbw.size)) (Nat.le_refl _)) (by decide) (by omega) bq.size ?_
        intro v1 w3 ownX g3 at3
        have b3 : Below wr.heap.size wr w3 := bq.grown g3 bq.size (fun k hk => (hE.lt k hk).1)
        have bX := b3
        have boxX := boxE.grown (row := some (wr.heap.size + 1)) g3 (by simp)
        refine ⟨oneAt_of hrs1 c0 c1 bX, ?_⟩
        try simp only [Act.put, List.setIfInBounds_toArray]
        refine wpAnyH_one (j := 9) (by kernel_rfl) ?_
        refine wpOp_yes' rfl rfl ?_
        refine wp_append_sp (.tmp 34) (.tmp 39) rfl rfl ownX rfl (sp_one boxX) (by omega) (by decide) bX.size ?_
        intro v2 w9 own9 g9 _
        have b9 : Below wr.heap.size wr w9 := bX.grown g9 bX.size (fun k hk => (ownX.lt k hk).1)
        have sp9 : SpAt w9 v2 (pl ++ [p]) := sp_more hm.out own9
        refine ⟨oneAt_of hrs1 c0 c1 b9, ?_⟩
        try simp only [Act.put]
        refine wpAnyH_one (j := 10) (by kernel_rfl) ?_
        refine wpOp_yes' rfl rfl ?_
        go_simp
        go_at_call 120
        refine (ih.out v2 p w9 (List.mem_of_getElem? HP.out) (HN0.out.below (hbw.trans (b9.mono hbw.size)) (Nat.le_refl _)) sp9).mono ?_
        rintro e w10 ⟨s', b, rfl, b10, hres⟩
        have bz := b9.trans (b10.mono b9.size)
        have hSz : OneAt wr r i p w10 := oneAt_of hrs1 c0 c1 bz
        refine ⟨hSz, ?_⟩
        try simp only [Act.put, List.setIfInBounds_toArray, List.set_cons_zero, List.set_cons_succ]
        rcases hres with ⟨hR, rfl, rfl⟩ | ⟨rr, hR, rfl, hs⟩
        · refine wpAnyH_take_at 11 (some 30) (.tuple #[(.slice none 0 0), .bool false]) rfl rfl (by kernel_rfl) (by kernel_rfl) (by kernel_rfl) (fun _ _ _ h => h) (.inl ⟨by rfl, fun wz hSw => ?_⟩) hSz ?_
          · (try dsimp only at hSw); go_simp
          try simp only [Act.put, List.setIfInBounds_toArray, List.set_cons_zero, List.set_cons_succ]
          refine wpAnyH_take_at 12 (some 42) (.slice none 0 0) rfl rfl (by kernel_rfl) (by kernel_rfl) (by kernel_rfl) (fun _ _ _ h => h) (.inl ⟨by rfl, fun wz hSw => ?_⟩) hSz ?_
          · (try dsimp only at hSw); go_simp
          try simp only [Act.put, List.setIfInBounds_toArray, List.set_cons_zero, List.set_cons_succ]
          refine wpAnyH_take_at 13 (some 43) (.bool false) rfl rfl (by kernel_rfl) (by kernel_rfl) (by kernel_rfl) (fun _ _ _ h => h) (.inl ⟨by rfl, fun wz hSw => ?_⟩) hSz ?_
          · (try dsimp only at hSw); go_simp
          try simp only [Act.put, List.setIfInBounds_toArray, List.set_cons_zero, List.set_cons_succ]
          refine wpAnyH_take_at 14 (some 8) (.slice none 0 0) rfl rfl (by kernel_rfl) (by kernel_rfl) (by kernel_rfl) (fun _ _ _ h => h) (.inl ⟨by rfl, fun wz hSw => ?_⟩) hSz ?_
          · (try dsimp only at hSw); go_simp
          try simp only [Act.put, List.setIfInBounds_toArray, List.set_cons_zero, List.set_cons_succ]
          refine wpAnyH_take_at 15 (some 9) (.bool false) rfl rfl (by kernel_rfl) (by kernel_rfl) (by kernel_rfl) (fun _ _ _ h => h) (.inl ⟨by rfl, fun wz hSw => ?_⟩) hSz ?_
          · (try dsimp only at hSw); go_simp
          try simp only [Act.put, List.setIfInBounds_toArray, List.set_cons_zero, List.set_cons_succ]
          refine wpAnyH_done (by kernel_rfl) ?_ _
          simp only [NoPanic]
          go_wp2
          go_roundw
          case rel => exact ⟨i + 1, by omega, by go_num, Lib.hid (find_none hno.out HP.out hR), hsp1.below bz hrs1, by have := bz.size; omega, hbw.trans (bz.mono hbw.size)⟩
          case measure => simp [intOf]; omega
        · refine wpAnyH_take_at 11 (some 30) (.tuple #[s', .bool true]) rfl rfl (by kernel_rfl) (by kernel_rfl) (by kernel_rfl) (fun _ _ _ h => h) (.inl ⟨by rfl, fun wz hSw => ?_⟩) hSz ?_
          · (try dsimp only at hSw); go_simp
          try simp only [Act.put, List.setIfInBounds_toArray, List.set_cons_zero, List.set_cons_succ]
          refine wpAnyH_take_at 12 (some 42) (s') rfl rfl (by kernel_rfl) (by kernel_rfl) (by kernel_rfl) (fun _ _ _ h => h) (.inl ⟨by rfl, fun wz hSw => ?_⟩) hSz ?_
          · (try dsimp only at hSw); go_simp
          try simp only [Act.put, List.setIfInBounds_toArray, List.set_cons_zero, List.set_cons_succ]
          refine wpAnyH_take_at 13 (some 43) (.bool true) rfl rfl (by kernel_rfl) (by kernel_rfl) (by kernel_rfl) (fun _ _ _ h => h) (.inl ⟨by rfl, fun wz hSw => ?_⟩) hSz ?_
          · (try dsimp only at hSw); go_simp
          try simp only [Act.put, List.setIfInBounds_toArray, List.set_cons_zero, List.set_cons_succ]
          refine wpAnyH_take_at 14 (some 8) (s') rfl rfl (by kernel_rfl) (by kernel_rfl) (by kernel_rfl) (fun _ _ _ h => h) (.inl ⟨by rfl, fun wz hSw => ?_⟩) hSz ?_
          · (try dsimp only at hSw); go_simp
          try simp only [Act.put, List.setIfInBounds_toArray, List.set_cons_zero, List.set_cons_succ]
          refine wpAnyH_take_at 15 (some 9) (.bool true) rfl rfl (by kernel_rfl) (by kernel_rfl) (by kernel_rfl) (fun _ _ _ h => h) (.inl ⟨by rfl, fun wz hSw => ?_⟩) hSz ?_
          · (try dsimp only at hSw); go_simp
          try simp only [Act.put, List.setIfInBounds_toArray, List.set_cons_zero, List.set_cons_succ]
          refine wpAnyH_done (by kernel_rfl) ?_ _
          simp only [NoPanic]
          go_wp2
          go_ret2
          exact ⟨_, _, rfl, (b1.trans (hbw.mono b1.size)).trans (bz.mono (by have := b1.size; have := hbw.size; omega)), .inr ⟨rr, find_some hno.out HP.out hR, rfl, hs⟩⟩
    · have hiz : i = ms := by omega
      have HZ := Lib.hid hiz
      clear hiz
      go_wp2
      go_ret2
      have := hno.out
      rw [HZ.out, ← hms.out, List.take_length] at this
      exact ⟨_, _, rfl, b1.trans (hbw.mono b1.size), .inl ⟨this, rfl, rfl⟩⟩
end Go.Proofs.YtfhljcpicdabmaaGreatDoor
