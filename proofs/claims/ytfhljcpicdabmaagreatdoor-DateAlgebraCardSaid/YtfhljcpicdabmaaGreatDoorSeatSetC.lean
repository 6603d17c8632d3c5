/- The seat: sets of spans, both sides. -/
import Derived.Test.YtfhljcpicdabmaaGreatDoorSeatSetB
import Derived.Test.YtfhljcpicdabmaaGreatDoorSeatPl
import Derived.SizedLaws
/- The seat: Normal, the project's side. -/
namespace Go.Proofs.YtfhljcpicdabmaaGreatDoor
open Go Go.RowKit Go.Ev Go.WayM
open Go.SetM hiding Sp
set_option maxRecDepth 100000
set_option maxHeartbeats 1000000
theorem edges_spots {L : List SetM.Edge} {l : List Sp} {k : Bool} (hp : L.Perm (edges l k)) (x : Int) : x ∈ spots L ↔ x ∈ vals l := by
  rw [spots_mem, ← edges_vals l k x]
  exact ⟨fun ⟨e, he, hx⟩ => ⟨e, hp.subset he, hx⟩, fun ⟨e, he, hx⟩ => ⟨e, hp.symm.subset he, hx⟩⟩
theorem sweepI_is {L : List SetM.Edge} {a : List Sp} (hs : ∀ s ∈ a, s.1 < s.2) (hp : L.Perm (edges a false)) (hu : Up L) : MixIs 1 a [] (sweepL countE wI L 0 false 0 []) := by
  have h := sweep_runs countE wI (fun x => mixG 1 (hasD a x) (hasD [] x)) 0 L [] false 0 [] (fun q x r e hm => by
    show wI _ = mixG 1 (hasD a x.1) (hasD [] x.1)
    have := count_state hs hp hu q x r e hm
    unfold wI
    rw [this]
    show hasD a x.1 = (hasD a x.1 || false)
    rw [Bool.or_false])
  have e : sweepL countE wI L 0 false 0 [] = runs (fun x => mixG 1 (hasD a x) (hasD [] x)) (spots L) false 0 [] := h
  rw [e]
  exact runs_is (spots_inc L hu) fun x => by rw [edges_spots hp, List.append_nil]
theorem edges_in {l : List Sp} {k : Bool} (h : spansIn l) : ∀ e ∈ edges l k, -5000000 ≤ e.1 ∧ e.1 ≤ 5000000 := fun e he => vals_in h e.1 ((edges_vals l k e.1).1 ⟨e, he, rfl⟩)
def NormP (a : List Sp) (w : World) (e : Ending) (w' : World) : Prop := ∃ s L E, e = .returned (.tuple #[s, .int .i64 E]) ∧ w'.ownsRow w.heap.size 48 2 s L.length (spCells L) ∧ Below w.heap.size w w' ∧ NormIs a L E
theorem normalP_any (s : Value) (a : List Sp) (W0 : World) (h : SpAt W0 s a) (hl : a.length ≤ 9223372036854775807) : Calls Tryz.prog 34 #[s] W0 (NormP a W0) := by
  have cS := isList_any s a W0 h hl
  cases hb : spansB a with
  | false =>
    rw [hb] at cS
    have HB := Lib.hid hb
    clear hb
    go_enter Tryz.func34, Tryz.ntmps34
    go_wp2_with fail
    refine cS.mono ?_
    rintro e w1 ⟨rfl, b1⟩
    go_wp2
    go_ret2
    exact ⟨_, [], 2, rfl, World.ownsRow_nil _ _ _ _, b1, .inl ⟨HB.out, rfl, rfl⟩⟩
  | true =>
    rw [hb] at cS
    obtain ⟨i1, l1⟩ := spansB_in hb
    have hlt : Hid (∀ s ∈ a, s.1 < s.2) := Lib.hid fun s hs => (i1 s hs).2.1
    have HB := Lib.hid hb
    have HH := Lib.hid h
    have HI := Lib.hid i1
    clear hb h i1
    go_enter Tryz.func34, Tryz.ntmps34
    go_wp2_with fail
    refine cS.mono ?_
    rintro e w1 ⟨rfl, b1⟩
    go_wp2_with fail
    refine (edges_any (.slice none 0 0) s [] a false w1.heap.size w1 (World.ownsRow_nil _ _ _ _) (Nat.le_refl _) (Lib.hid fun w hb => (HH.out.below b1 (Nat.le_refl _)).below hb (by have := b1.size; omega)) l1 (by simp)).mono ?_
    rintro e w2 ⟨v, rfl, hown, b2⟩
    rw [List.nil_append] at hown
    have hsz := b2.size
    have hsz1 := b1.size
    go_wp2_with fail
    refine (sweepI_any v (edges a false) w1.heap.size w2 hown b2.size (by rw [edges_len]; omega) (edges_in HI.out)).mono ?_
    rintro e w3 ⟨v3, L, rfl, hp, hu, hown3, b3⟩
    have hmix := Lib.hid (sweepI_is hlt.out hp hu)
    have hown4 := row_mono hown3 (show W0.heap.size ≤ w2.heap.size by omega)
    clear hp hu hown3 hown
    obtain ⟨R, hR⟩ : ∃ R, Hid (sweepL countE wI L 0 false 0 [] = R) := ⟨_, Lib.hid rfl⟩
    dsimp only at hown4
    rw [hR.out] at hown4 hmix
    go_wp2
    go_ret2
    exact ⟨_, R, 0, rfl, hown4, b1.trans ((b2.trans b3).mono b1.size), .inr ⟨HB.out, hmix.out, rfl⟩⟩
end Go.Proofs.YtfhljcpicdabmaaGreatDoor

/- The seat: Join, Meet, Cut, the project's side. -/
namespace Go.Proofs.YtfhljcpicdabmaaGreatDoor
open Go Go.RowKit Go.Ev Go.WayM
open Go.SetM hiding Sp
set_option maxRecDepth 100000
set_option maxHeartbeats 1000000
theorem normal_of : ∀ (l : List Sp), (∀ s ∈ l, s.1 < s.2) → (∀ i, i + 1 < l.length → (WayM.nth l i).2 < (WayM.nth l (i + 1)).1) → normal l
  | [], _, _ => trivial
  | s :: l, h, k => by
    have ih : normal l := normal_of l (fun t ht => h t (List.mem_cons_of_mem _ ht)) fun i hi => k (i + 1) (by simp; omega)
    refine ⟨h s List.mem_cons_self, ?_, ih⟩
    cases l with
    | nil => intro t ht; cases ht
    | cons u l =>
      have h0 : s.2 < u.1 := k 0 (by simp)
      have hu := h u (List.mem_cons_of_mem _ List.mem_cons_self)
      intro t ht
      rcases List.mem_cons.1 ht with rfl | ht
      · exact h0
      · have := ih.2.1 t ht
        omega
theorem normal_norm {l : List Sp} (h : normB l = true) : normal l := by
  have h0 := (normB_in h).1
  unfold normB at h
  rw [Bool.and_eq_true] at h
  have hg := h.2
  unfold gapB at hg
  rw [List.all_eq_true] at hg
  refine normal_of l (fun s hs => (h0 s hs).2.1) fun i hi => ?_
  have := hg (i + 1) (List.mem_range.2 hi)
  simp at this
  exact this
theorem sweepX_is {m : Int} {wx : Bool × Bool → Bool} (hwx : ∀ n, wx n = mixG m n.1 n.2) {L : List SetM.Edge} {a b : List Sp} (ha : normal a) (hb : normal b) (hp : L.Perm (edges a false ++ edges b true)) (hu : Up L) :
    MixIs m a b (sweepL crossE wx L (false, false) false 0 []) := by
  have e := sweep_runs crossE wx (fun x => mixG m (hasD a x) (hasD b x)) (false, false) L [] false 0 [] (fun q x r e hm => by
    rw [cross_state ha hb hp hu q x r e hm, hwx])
  have e1 : sweepL crossE wx L (false, false) false 0 [] = runs (fun x => mixG m (hasD a x) (hasD b x)) (spots L) false 0 [] := e
  rw [e1]
  refine runs_is (spots_inc L hu) fun x => ?_
  rw [spots_mem, vals_app, List.mem_append, ← edges_vals a false x, ← edges_vals b true x]
  constructor
  · rintro ⟨e, he, hx⟩
    rcases List.mem_append.1 (hp.subset he) with h | h
    · exact .inl ⟨e, h, hx⟩
    · exact .inr ⟨e, h, hx⟩
  · rintro (⟨e, he, hx⟩ | ⟨e, he, hx⟩)
    · exact ⟨e, hp.symm.subset (List.mem_append.2 (.inl he)), hx⟩
    · exact ⟨e, hp.symm.subset (List.mem_append.2 (.inr he)), hx⟩
def MixP (m : Int) (a b : List Sp) (w : World) (e : Ending) (w' : World) : Prop := ∃ s L E, e = .returned (.tuple #[s, .int .i64 E]) ∧ w'.ownsRow w.heap.size 48 2 s L.length (spCells L) ∧ Below w.heap.size w w' ∧ RetIs m a b L E
theorem combine_any (k : Nat) (m : Int) (wx : Bool × Bool → Bool) (hwx : ∀ n, wx n = mixG m n.1 n.2) (eg : ∀ args w, (callFunc k args).run Tryz.prog w = .ok (.enter k args) w) (cW : ∀ (n : Bool × Bool) (W : World), Calls Tryz.prog k #[twoV n] W (Gives (.bool (wx n)) W))
    (s1 s2 : Value) (a b : List Sp) (W0 : World) (h1 : SpAt W0 s1 a) (h2 : SpAt W0 s2 b) (l1 : a.length ≤ 9223372036854775807) (l2 : b.length ≤ 9223372036854775807) :
    Calls Tryz.prog 104 #[s1, s2, .func (.func k) #[] #[]] W0 (MixP m a b W0) := by
  have cA := isNormal_any s1 a W0 h1 l1
  have H1 := Lib.hid h1
  have H2 := Lib.hid h2
  clear h1 h2
  cases ha : normB a with
  | false =>
    rw [ha] at cA
    have HA := Lib.hid ha
    clear ha
    go_enter Tryz.func104, Tryz.ntmps104
    go_wp2_with fail
    refine cA.mono ?_
    rintro e w1 ⟨rfl, b1⟩
    go_wp2
    go_ret2
    exact ⟨_, [], 2, rfl, World.ownsRow_nil _ _ _ _, b1, .inl ⟨by rw [HA.out]; rfl, rfl, rfl⟩⟩
  | true =>
    rw [ha] at cA
    have HA := Lib.hid ha
    clear ha
    have cB := fun w (hb : Below W0.heap.size W0 w) => isNormal_any s2 b w (H2.out.below hb (Nat.le_refl _)) l2
    cases hb : normB b with
    | false =>
      rw [hb] at cB
      have HB := Lib.hid hb
      clear hb
      go_enter Tryz.func104, Tryz.ntmps104
      go_wp2_with fail
      refine cA.mono ?_
      rintro e w1 ⟨rfl, b1⟩
      go_wp2_with fail
      refine (cB _ b1).mono ?_
      rintro e w2 ⟨rfl, b2⟩
      go_wp2
      go_ret2
      exact ⟨_, [], 2, rfl, World.ownsRow_nil _ _ _ _, b1.trans (b2.mono b1.size), .inl ⟨by rw [HA.out, HB.out]; rfl, rfl, rfl⟩⟩
    | true =>
      rw [hb] at cB
      have HB := Lib.hid hb
      clear hb
      obtain ⟨i1, n1⟩ := normB_in HA.out
      obtain ⟨i2, n2⟩ := normB_in HB.out
      have HI1 := Lib.hid i1
      have HI2 := Lib.hid i2
      clear i1 i2
      go_enter Tryz.func104, Tryz.ntmps104
      go_wp2_with fail
      refine cA.mono ?_
      rintro e w1 ⟨rfl, b1⟩
      go_wp2_with fail
      refine (cB _ b1).mono ?_
      rintro e w2 ⟨rfl, b2⟩
      have b12 : Below W0.heap.size W0 w2 := b1.trans (b2.mono b1.size)
      clear b1 b2 cA cB
      have z2 := b12.size
      go_wp2_with fail
      refine (edges_any (.slice none 0 0) s1 [] a false w2.heap.size w2 (World.ownsRow_nil _ _ _ _) (Nat.le_refl _) (Lib.hid fun w hb => (H1.out.below b12 (Nat.le_refl _)).below hb (by omega)) n1 (by simp)).mono ?_
      rintro e w3 ⟨v3, rfl, hown3, b3⟩
      have z3 := b3.size
      rw [List.nil_append] at hown3
      go_wp2_with fail
      refine (edges_any v3 s2 (edges a false) b true w2.heap.size w3 hown3 b3.size (Lib.hid fun w hb => (H2.out.below b12 (Nat.le_refl _)).below (b3.trans hb) (Nat.le_refl _)) n2 (by rw [edges_len]; omega)).mono ?_
      rintro e w4 ⟨v4, rfl, hown4, b4⟩
      have z4 := b4.size
      clear hown3
      go_wp2_with fail
      refine (sweepX_any k wx eg cW v4 (edges a false ++ edges b true) w2.heap.size w4 hown4 (by omega) (by rw [List.length_append, edges_len, edges_len]; omega) (fun e he => (List.mem_append.1 he).elim (edges_in HI1.out e) (edges_in HI2.out e))).mono ?_
      rintro e w5 ⟨v5, L, rfl, hp, hu, hown5, b5⟩
      have hmix := Lib.hid (sweepX_is hwx (normal_norm HA.out) (normal_norm HB.out) hp hu)
      have hown6 := row_mono hown5 (show W0.heap.size ≤ w4.heap.size by omega)
      clear hp hu hown5 hown4
      obtain ⟨R, hR⟩ : ∃ R, Hid (sweepL crossE wx L (false, false) false 0 [] = R) := ⟨_, Lib.hid rfl⟩
      dsimp only at hown6
      rw [hR.out] at hown6 hmix
      have hb5 : Below W0.heap.size W0 w5 := b12.trans ((b3.trans (b4.trans b5)).mono (by omega))
      obtain ⟨A, c, hv⟩ : ∃ A c, v5 = .slice A R.length c := by
        rcases hown6.2 with ⟨rfl, h0⟩ | ⟨g, cap, cur, rfl, _⟩
        · rw [h0]; exact ⟨_, _, rfl⟩
        · exact ⟨_, _, rfl⟩
      obtain ⟨n, hn⟩ : ∃ n, Hid (R.length = n) := ⟨_, Lib.hid rfl⟩
      have hown7 := Lib.hid hown6
      clear hown6
      rw [hn.out] at hv
      subst hv
      by_cases h60 : 60 < n
      · have d : decide (60 < n) = true := by simp [h60]
        go_wp2
        go_ret2
        exact ⟨_, [], 3, rfl, World.ownsRow_nil _ _ _ _, hb5, .inr ⟨by rw [HA.out, HB.out]; rfl, R, hmix.out, .inl ⟨by rw [hn.out]; omega, rfl, rfl⟩⟩⟩
      · have d : decide (60 < n) = false := by simp; omega
        go_wp2
        go_ret2
        exact ⟨_, R, 0, rfl, hown7.out, hb5, .inr ⟨by rw [HA.out, HB.out]; rfl, R, hmix.out, .inr ⟨by rw [hn.out]; omega, rfl, rfl⟩⟩⟩
theorem joinP_any (s1 s2 : Value) (a b : List Sp) (W0 : World) (h1 : SpAt W0 s1 a) (h2 : SpAt W0 s2 b) (l1 : a.length ≤ 9223372036854775807) (l2 : b.length ≤ 9223372036854775807) : Calls Tryz.prog 37 #[s1, s2] W0 (MixP 1 a b W0) := by
  have cc := combine_any 105 1 (fun n => n.1 || n.2) (fun _ => rfl) (enters_of Tryz.func105 (by kernel_rfl) rfl) join_any s1 s2 a b W0 h1 h2 l1 l2
  clear h1 h2
  go_enter Tryz.func37, Tryz.ntmps37
  go_wp2_with fail
  refine cc.mono ?_
  rintro e w1 ⟨s, L, E, rfl, hown, b1, hR⟩
  have h := Lib.hid (And.intro hown (And.intro b1 hR))
  clear hown b1 hR
  go_wp2
  go_ret2
  exact ⟨s, L, E, rfl, h.out.1, h.out.2.1, h.out.2.2⟩
theorem meetP_any (s1 s2 : Value) (a b : List Sp) (W0 : World) (h1 : SpAt W0 s1 a) (h2 : SpAt W0 s2 b) (l1 : a.length ≤ 9223372036854775807) (l2 : b.length ≤ 9223372036854775807) : Calls Tryz.prog 38 #[s1, s2] W0 (MixP 2 a b W0) := by
  have cc := combine_any 106 2 (fun n => n.1 && n.2) (fun _ => rfl) (enters_of Tryz.func106 (by kernel_rfl) rfl) meet_any s1 s2 a b W0 h1 h2 l1 l2
  clear h1 h2
  go_enter Tryz.func38, Tryz.ntmps38
  go_wp2_with fail
  refine cc.mono ?_
  rintro e w1 ⟨s, L, E, rfl, hown, b1, hR⟩
  have h := Lib.hid (And.intro hown (And.intro b1 hR))
  clear hown b1 hR
  go_wp2
  go_ret2
  exact ⟨s, L, E, rfl, h.out.1, h.out.2.1, h.out.2.2⟩
theorem cutP_any (s1 s2 : Value) (a b : List Sp) (W0 : World) (h1 : SpAt W0 s1 a) (h2 : SpAt W0 s2 b) (l1 : a.length ≤ 9223372036854775807) (l2 : b.length ≤ 9223372036854775807) : Calls Tryz.prog 39 #[s1, s2] W0 (MixP 3 a b W0) := by
  have cc := combine_any 107 3 (fun n => n.1 && !n.2) (fun _ => rfl) (enters_of Tryz.func107 (by kernel_rfl) rfl) cut_any s1 s2 a b W0 h1 h2 l1 l2
  clear h1 h2
  go_enter Tryz.func39, Tryz.ntmps39
  go_wp2_with fail
  refine cc.mono ?_
  rintro e w1 ⟨s, L, E, rfl, hown, b1, hR⟩
  have h := Lib.hid (And.intro hown (And.intro b1 hR))
  clear hown b1 hR
  go_wp2
  go_ret2
  exact ⟨s, L, E, rfl, h.out.1, h.out.2.1, h.out.2.2⟩
end Go.Proofs.YtfhljcpicdabmaaGreatDoor

/- The seat: a copy of a list of spans, whatever its length; small contracts for the law of sets. -/
namespace Go.Proofs.YtfhljcpicdabmaaGreatDoor
open Go Go.RowKit Go.Ev Go.WayM
open Go.SetM hiding Sp
set_option maxRecDepth 100000
set_option maxHeartbeats 1000000
theorem run_append_spB {w : World} {base ty : Nat} {v : Value} {n : Nat} {xs : List Value} (hown : w.ownsRow base 48 2 v n xs) {A : Option Addr} {m c : Nat} {l : List Sp} (hsp : SpAt w (.slice A m c) l) (hn : n ≤ 0) (hm : m ≤ 8796093021952) (hb : base ≤ w.heap.size) :
    ∃ v' w', (Builtin.append_ #[42, 42] ty #[v, .slice A m c]).run Tryz.prog w = .ok v' w' ∧ w'.ownsRow base 48 2 v' (n + m) (xs ++ spCells l) ∧ w.grownBy w' v.ownBlock ∧ (v'.ownBlock = v.ownBlock ∨ v'.ownBlock = some w.heap.size) := by
  obtain ⟨i0, hi0, hz0, hz1, hz2⟩ := info_parts info48
  have hl := hsp.len
  obtain ⟨A0, c0, he, hc⟩ := hsp
  cases he
  have h1 : ∀ u ∈ spCells l, u.oneCell' = true := fun u hu => by
    unfold spCells at hu
    obtain ⟨p, _, hp⟩ := List.mem_flatMap.1 hu
    simp at hp
    rcases hp with rfl | rfl <;> rfl
  rcases A with _ | ad
  · have h0 : l = [] := by
      rcases Nat.eq_zero_or_pos l.length with h | h
      · exact List.eq_nil_of_length_eq_zero h
      · obtain ⟨g, o, he, _⟩ := hc h; cases he
    subst h0
    refine ⟨v, w, ?_, by simpa [spCells] using hown, World.grownBy.refl w _, .inl rfl⟩
    rcases hown.2 with ⟨rfl, rfl⟩ | ⟨g, cap, cur, rfl, _, _, hnc, _⟩
    · simp [Builtin.append_, run_underlying Tryz.underlying42, sizeOf, typeInfo, hi0, Builtin.lenOf, Builtin.firstCells]
    · simp [Builtin.append_, run_underlying Tryz.underlying42, sizeOf, typeInfo, hi0, Builtin.lenOf, Builtin.firstCells, hnc, storeCells]
  · obtain ⟨v', w', hr, h2, h3, _, h5⟩ := run_append_own_at (P := Tryz.prog) w base 42 ty 48 i0 (.agg #[.int .i64 0, .int .i64 0]) 2 16 Tryz.underlying42 hi0 hz0 hz1 hz2 rfl (by decide) v n xs hown ad l.length _ (spCells l) (spCells_len l)
      (fun j u hj => by
        have hjl : j < (spCells l).length := (List.getElem?_eq_some_iff.1 hj).1
        rw [spCells_len] at hjl
        obtain ⟨g, o, he, hg, hx⟩ := hc (by omega)
        cases he
        obtain ⟨q, hq⟩ : ∃ q, l[j / 2]? = some q := ⟨_, List.getElem?_eq_getElem (by omega)⟩
        have hcc := hx (j / 2) q hq
        have hsc := spCells_at l (j / 2) q hq
        have ea : (⟨g, o, none⟩ : Addr).add j = ⟨g, o + j, none⟩ := by
          unfold Addr.add
          by_cases h0 : j = 0 <;> simp [h0]
        rw [ea]
        by_cases hp : j % 2 = 0
        · have e2 : j / 2 * 2 = j := by omega
          rw [e2] at hcc hsc
          rw [hsc.1] at hj
          cases hj
          exact hcc.1
        · have e2 : j / 2 * 2 + 1 = j := by omega
          have e3 : o + j / 2 * 2 + 1 = o + j := by omega
          rw [e2] at hsc
          rw [e3] at hcc
          rw [hsc.2] at hj
          cases hj
          exact hcc.2) h1 (by unfold maxLen; omega) (by omega) hb
    exact ⟨v', w', hr, h2, h3, h5⟩
theorem wp_append_spB {o : Oper} {a : Act} {w : World} {K : Act → World → Prop} {Q : Exit → Act → World → Prop} (s x : Operand)
    (ho : o.op = .call { callee := .builtin .append, args := #[s, x], argTypes := #[42, 42] }) {base : Nat} {v : Value} {n : Nat} {xs : List Value} (hs : a.eval s = v) (hown : w.ownsRow base 48 2 v n xs)
    {A : Option Addr} {m c : Nat} {l : List Sp} (hx : a.eval x = .slice A m c) (hsp : SpAt w (.slice A m c) l) (hn : n ≤ 0) (hm : m ≤ 8796093021952) (hb : base ≤ w.heap.size)
    (h : ∀ v' w', w'.ownsRow base 48 2 v' (n + m) (xs ++ spCells l) → w.grownBy w' v.ownBlock → (v'.ownBlock = v.ownBlock ∨ v'.ownBlock = some w.heap.size) → K (a.put o.dst v') w') : o.wp Tryz.prog a w K Q := by
  obtain ⟨v', w', hr, h2, h3, h4⟩ := run_append_spB (ty := o.type) hown hsp hn hm hb
  unfold Oper.wp execOp
  simp only [ho, resolve, invoke, builtin, Sem.run_bind, Sem.run_pure, Result.andThen_ok, List.map_toArray, List.map_cons, List.map_nil, hs, hx, hr]
  exact h v' w' h2 h3 h4
theorem wpList_append_spB {ops : Array Oper} {rest : List Oper} {o : Oper} {a : Act} {w : World} {Q : Exit → Act → World → Prop} (hgd : o.guard = none) (s x : Operand)
    (ho : o.op = .call { callee := .builtin .append, args := #[s, x], argTypes := #[42, 42] }) {base : Nat} {v : Value} {n : Nat} {xs : List Value} (hs : a.eval s = v) (hown : w.ownsRow base 48 2 v n xs)
    {A : Option Addr} {m c : Nat} {l : List Sp} (hx : a.eval x = .slice A m c) (hsp : SpAt w (.slice A m c) l) (hn : n ≤ 0) (hm : m ≤ 8796093021952) (hb : base ≤ w.heap.size)
    (h : ∀ v' w', w'.ownsRow base 48 2 v' (n + m) (xs ++ spCells l) → w.grownBy w' v.ownBlock → (v'.ownBlock = v.ownBlock ∨ v'.ownBlock = some w.heap.size) → wpList Tryz.prog ops Q rest (a.put o.dst v') w') : wpList Tryz.prog ops Q (o :: rest) a w :=
  wpList_plain hgd fun _ hK => wp_append_spB s x ho hs hown hx hsp hn hm hb fun v' w' h1 h2 h3 => hK _ _ (h v' w' h1 h2 h3)
theorem row_kept {w w' : World} {base : Nat} {e : TypeId} {size : Nat} {v : Value} {n : Nat} {xs : List Value} {r : Option Nat} (h : w.ownsRow base e size v n xs) (hg : w.grownBy w' r) (hr : ∀ k, r = some k → k < base) : w'.ownsRow base e size v n xs := by
  obtain ⟨h1, h2⟩ := h
  refine ⟨h1, ?_⟩
  rcases h2 with h2 | ⟨g, cap, cur, hv, hgb, hh, rest⟩
  · exact .inl h2
  · exact .inr ⟨g, cap, cur, hv, hgb, (hg.block g (Array.getElem?_eq_some_iff.1 hh).1 fun hk => by have := hr g hk.symm; omega).trans hh, rest⟩
theorem grown_setX {w w' : World} {g j : Nat} {u : Value} (h : w.grownBy w' (some g)) : w.grownBy (w'.setCell ⟨g, j, none⟩ u) (some g) :=
  ⟨h.os, h.tape, h.output, by simpa using h.size, fun k hk hne => (Below.heap_setCell _ _ _ _ (fun e => hne (congrArg some e))).trans (h.block k hk hne)⟩
def TrueB (w : World) (e : Ending) (w' : World) : Prop := e = .returned (.bool true) ∧ Below w.heap.size w w'
theorem sameSpansB (s1 s2 : Value) (xs : List Sp) (w : World) (h1 : SpAt w s1 xs) (h2 : SpAt w s2 xs) (hl : xs.length ≤ 9223372036854775807) : Calls Tryz.prog 36 #[s1, s2] w (TrueB w) :=
  (sameSpans_any s1 s2 xs w h1 h2 hl).mono fun _ _ ⟨he, m, hm⟩ => ⟨he, by rw [hm]; exact drewN_below (Below.refl _ _) m⟩
theorem normalO_any (s : Value) (a : List Sp) (W0 : World) (h : SpAt W0 s a) (hl : a.length ≤ 9223372036854775807) : Calls Tryz.prog 35 #[s] W0 (NormP a W0) := by
  have cS := spansR_any s a W0 h hl
  cases hb : spansB a with
  | false =>
    rw [hb] at cS
    have HB := Lib.hid hb
    clear hb
    go_enter Tryz.func35, Tryz.ntmps35
    go_wp2_with fail
    refine cS.mono ?_
    rintro e w1 ⟨rfl, b1⟩
    go_wp2
    go_ret2
    exact ⟨_, [], 2, rfl, World.ownsRow_nil _ _ _ _, b1, .inl ⟨HB.out, rfl, rfl⟩⟩
  | true =>
    rw [hb] at cS
    obtain ⟨i1, l1⟩ := spansB_in hb
    have HB := Lib.hid hb
    have HH := Lib.hid h
    clear hb h
    go_enter Tryz.func35, Tryz.ntmps35
    go_wp2_with fail
    refine cS.mono ?_
    rintro e w1 ⟨rfl, b1⟩
    go_wp2_with fail
    refine (mixed_any s _ a [] 1 w1 (HH.out.below b1 (Nat.le_refl _)) (sp_nil w1) l1 (by simp) (Lib.hid i1) (Lib.hid fun p hp => by cases hp) (Lib.hid (.inl rfl))).mono ?_
    rintro e w2 ⟨s', E, rfl, hi, hm, hown, b2⟩
    have hmix := Lib.hid (mixL_is (m := 1) hi hm)
    have hsp := row_mono hown b1.size
    clear hown hi hm
    obtain ⟨L, hL⟩ : ∃ L, Hid (mixL (fun x => mixG 1 (hasD a x) (hasD [] x)) E [] = L) := ⟨_, Lib.hid rfl⟩
    rw [hL.out] at hsp hmix
    go_wp2
    go_ret2
    exact ⟨_, L, 0, rfl, hsp, b1.trans (b2.mono b1.size), .inr ⟨HB.out, hmix.out, rfl⟩⟩
section
open Go.Deep Go.ChangeShapes Go.WideShapes
variable {H : Type} {enc : TypeId × Value → H}
theorem bytes48 : Tryz.prog.bytesOf 48 = 16 := by kernel_rfl
/-- A list that an argument holds is no longer than what a machine's reach holds. -/
theorem spans_reach {W : World} {v : Value} {d : DataW H} {p : List MemPlace} {l : List Sp} (h : DataW.Trod enc Tryz.prog W 0 (fun _ => true) true 42 v d p) (hl : SpAt W v l) {ts : List TypeId} {ds : List (DataW H)} {j : Nat}
    (hw : (DataW.weightsEach Tryz.prog ts ds).all (· ≤ reachBytes) = true) (ht : ts[j]? = some 42) (hd : ds[j]? = some d) : l.length ≤ 8796093021952 := by
  obtain ⟨A, c, rfl, _⟩ := hl
  obtain ⟨fuel, hf⟩ := h
  rcases open_slice_pairs Tryz.underlying42 Tryz.underlying48 cells48 rfl rfl cells3 cells3 hf with ⟨hcs0, _⟩ | ⟨a, len', cap', m, n, V0, V1, D0, D1, P0, P1, hcs0, _, hl, hm, hmm, hx0, hx⟩
  · simp [Value.cells] at hcs0
    rw [hcs0.2.1]; simp
  · simp [Value.cells] at hcs0
    obtain ⟨rfl, hlen, rfl⟩ := hcs0
    have hd' : d = .slice ((List.range len').map fun i => .agg [D0 i, D1 i]) ((List.range (m - len')).map fun j => .agg [D0 (len' + j), D1 (len' + j)]) := (Prod.mk.inj hx0).1
    rw [hd'] at hd
    have := sized_slice hw ht hd Tryz.underlying42
    rw [bytes48] at this
    simp only [List.length_map, List.length_range] at this
    unfold reachBytes at this
    omega
end
end Go.Proofs.YtfhljcpicdabmaaGreatDoor

/- The seat: DateSets, walked for every input. -/
namespace Go.Proofs.YtfhljcpicdabmaaGreatDoor
open Go Go.RowKit Go.Ev Go.WayM
open Go.SetM hiding Sp
set_option maxRecDepth 100000
set_option maxHeartbeats 2000000
theorem NormIs.len {a L : List Sp} {E : Int} (h : NormIs a L E) : L.length ≤ a.length := by
  rcases h with ⟨_, rfl, _⟩ | ⟨_, h, _⟩
  · simp
  · simpa using h.2.2
theorem RetIs.len {m : Int} {a b L : List Sp} {E : Int} (h : RetIs m a b L E) : L.length ≤ 60 := by
  rcases h with ⟨_, rfl, _⟩ | ⟨_, L', _, ⟨_, rfl, _⟩ | ⟨h, rfl, _⟩⟩
  · simp
  · simp
  · exact h
theorem slice_form {w : World} {B n : Nat} {e : TypeId} {size : Nat} {v : Value} {xs : List Value} (h : w.ownsRow B e size v n xs) : ∃ A c, v = .slice A n c := by
  rcases h.2 with ⟨rfl, h0⟩ | ⟨g, cap, cur, rfl, _⟩
  · rw [h0]; exact ⟨_, _, rfl⟩
  · exact ⟨_, _, rfl⟩
theorem slice_block {w : World} {B n c : Nat} {A : Option Addr} {e : TypeId} {size : Nat} {xs : List Value} (h : w.ownsRow B e size (.slice A n c) n xs) (hn : 0 < n) : ∃ g, A = some ⟨g, 0, none⟩ ∧ n ≤ c := by
  rcases h.2 with ⟨_, h0⟩ | ⟨g, cap, cur, hv, _, _, hc, _⟩
  · omega
  · cases hv; exact ⟨g, rfl, hc⟩
theorem sp_row {w : World} {B n : Nat} {v : Value} {l : List Sp} (hn : l.length = n) (h : w.ownsRow B 48 2 v n (spCells l)) : SpAt w v l := spAt_own (by rw [hn]; exact h)
theorem law_sets (s1 s2 : Value) (a b : List Sp) (w : World) (h1 : SpAt w s1 a) (h2 : SpAt w s2 b) (la : a.length ≤ 8796093021952) (lb : b.length ≤ 8796093021952) (hT : Hid (TabsIn tabs w)) (h8 : 4 ≤ w.heap.size) : Calls Tryz.prog 6 #[s1, s2] w (TrueBelow w) := by
  have H1 := Lib.hid h1
  have H2 := Lib.hid h2
  obtain ⟨A1, c1, rfl, _⟩ := id h1
  obtain ⟨A2, c2, rfl, _⟩ := id h2
  obtain ⟨na, hna⟩ : ∃ n, Hid (a.length = n) := ⟨_, Lib.hid rfl⟩
  obtain ⟨nb, hnb⟩ : ∃ n, Hid (b.length = n) := ⟨_, Lib.hid rfl⟩
  rw [hna.out] at h1 la H1 ⊢
  rw [hnb.out] at h2 lb H2 ⊢
  have r0 : w.ownsRow w.heap.size 48 2 (.slice none 0 0) 0 [] := World.ownsRow_nil _ _ _ _
  have ya : a.length ≤ 9223372036854775807 := by rw [hna.out]; omega
  have yb : b.length ≤ 9223372036854775807 := by rw [hnb.out]; omega
  clear h2
  go_enter Tryz.func6, Tryz.ntmps6
  go_wp2_with (at_builtin; refine wpList_append_spB rfl (.const (.slice none 0 0)) (.tmp 23) rfl rfl r0 rfl h1 (Nat.le_refl _) la (Nat.le_refl _) ?_)
  intro v5 w1 o5 g5 _
  have b1 : Below w.heap.size w w1 := (Below.refl _ _).grown g5 (Nat.le_refl _) (fun k hk => by simp [Value.ownBlock] at hk)
  have o5 : w1.ownsRow w.heap.size 48 2 v5 na (spCells a) := by simpa using o5
  have B5 := Lib.hid o5.lt
  have h2 := H2.out.below b1 (Nat.le_refl _)
  clear r0 h1 g5
  have r0 : w1.ownsRow w1.heap.size 48 2 (.slice none 0 0) 0 [] := World.ownsRow_nil _ _ _ _
  go_wp2_with (at_builtin; refine wpList_append_spB rfl (.const (.slice none 0 0)) (.tmp 25) rfl rfl r0 rfl h2 (Nat.le_refl _) lb (Nat.le_refl _) ?_)
  intro v6 w2 o6 g6 _
  have b2 : Below w1.heap.size w1 w2 := (Below.refl _ _).grown g6 (Nat.le_refl _) (fun k hk => by simp [Value.ownBlock] at hk)
  have o6 : w2.ownsRow w1.heap.size 48 2 v6 nb (spCells b) := by simpa using o6
  have B6 := Lib.hid o6.lt
  have o5 : w2.ownsRow w.heap.size 48 2 v5 na (spCells a) := own_belowX o5 b2
  have m12 : Hid (w1.heap.size ≤ w2.heap.size) := Lib.hid b2.size
  have k2 : Below w.heap.size w w2 := b1.trans (b2.mono b1.size)
  have z12 := b1.size
  clear r0 h2 g6 b1 b2
  obtain ⟨A5, c5, rfl⟩ := slice_form o5
  obtain ⟨A6, c6, rfl⟩ := slice_form o6
  go_wp2_with fail
  refine (normalP_any _ a w2 (sp_row hna.out o5) ya).mono ?_
  rintro e w3 ⟨s7, L7, E7, rfl, o7, b3, n7⟩
  have k3 := k2.trans (b3.mono k2.size)
  go_wp2_with fail
  refine (normalO_any _ a w3 (H1.out.below k3 (Nat.le_refl _)) ya).mono ?_
  rintro e w4 ⟨s9, L9, E9, rfl, o9, b4, n9⟩
  obtain ⟨rfl, rfl⟩ := n7.one n9
  have l7 := n7.len
  have k4 := k3.trans (b4.mono k3.size)
  have o7 := own_belowX o7 b4
  go_wp2_with fail
  refine (sameSpansB s7 s9 L7 w4 (spAt_own o7) (spAt_own o9) (by omega)).mono ?_
  rintro e w5 ⟨rfl, b5⟩
  have k5 := k4.trans (b5.mono k4.size)
  have b25 : Below w2.heap.size w2 w5 := b3.trans ((b4.trans (b5.mono b4.size)).mono b3.size)
  have o7 := own_belowX o7 b5
  have o9 := own_belowX o9 b5
  have o5 := own_belowX o5 b25
  have o6 := own_belowX o6 b25
  have m9 := b3.size
  clear n9 b3 b4 b5 k3 k4
  go_wp2_with fail
  refine (joinP_any _ _ a b w5 (sp_row hna.out o5) (sp_row hnb.out o6) ya yb).mono ?_
  rintro e w6 ⟨s11, L11, E11, rfl, o11, b6, n11⟩
  have o5 := own_belowX o5 b6
  have o6 := own_belowX o6 b6
  go_wp2_with fail
  refine (meetP_any _ _ a b w6 (sp_row hna.out o5) (sp_row hnb.out o6) ya yb).mono ?_
  rintro e w7 ⟨s12, L12, E12, rfl, o12, b7, n12⟩
  have o5 := own_belowX o5 b7
  have o6 := own_belowX o6 b7
  go_wp2_with fail
  refine (cutP_any _ _ a b w7 (sp_row hna.out o5) (sp_row hnb.out o6) ya yb).mono ?_
  rintro e w8 ⟨s13, L13, E13, rfl, o13, b8, n13⟩
  have o5 := own_belowX o5 b8
  have o6 := own_belowX o6 b8
  have b58 : Below w5.heap.size w5 w8 := b6.trans ((b7.trans (b8.mono b7.size)).mono b6.size)
  have b68 : Below w6.heap.size w6 w8 := b7.trans (b8.mono b7.size)
  have k8 := k5.trans (b58.mono k5.size)
  have o7 := own_belowX o7 b58
  have o9 := own_belowX o9 b58
  have o11 := own_belowX o11 b68
  have o12 := own_belowX o12 b8
  have m5 := b25.size
  have m6 := b6.size
  have m7 := b7.size
  clear b6 b7 b8 b58 b68 k5 k2 b25
  go_wp2_with fail
  refine (sameSpansB _ _ a w8 (sp_row hna.out o5) (H1.out.below k8 (Nat.le_refl _)) ya).mono ?_
  rintro e w9 ⟨rfl, b9⟩
  have o6 := own_belowX o6 b9
  have k9 := k8.trans (b9.mono k8.size)
  go_wp2_with fail
  refine (sameSpansB _ _ b w9 (sp_row hnb.out o6) (H2.out.below k9 (Nat.le_refl _)) yb).mono ?_
  rintro e wl ⟨rfl, b10⟩
  have k10 := k9.trans (b10.mono k9.size)
  have b8l : Below w8.heap.size w8 wl := b9.trans (b10.mono b9.size)
  have o5 := own_belowX o5 b8l
  have o6 := own_belowX o6 b10
  have R7 := Lib.hid (own_belowX o7 b8l)
  have R9 := Lib.hid (own_belowX o9 b8l)
  have R11 := Lib.hid (own_belowX o11 b8l)
  have R12 := Lib.hid (own_belowX o12 b8l)
  have R13 := Lib.hid (own_belowX o13 b8l)
  have N7 := Lib.hid n7
  have N11 := Lib.hid n11
  have N12 := Lib.hid n12
  have N13 := Lib.hid n13
  have K10 := Lib.hid k10
  clear o7 o9 o11 o12 o13 n7 n11 n12 n13 b9 b10 b8l k8 k9 k10
  go_wp2
  go_loopw [15] (fun u15 wr => ∃ (i : Nat) (xs : List Value), i ≤ na ∧ u15 = .int .i64 i ∧ wr.ownsRow w.heap.size 48 2 (.slice A5 na c5) na xs ∧ wl.grownBy wr (Value.slice A5 na c5).ownBlock) (fun u15 _ => na - (intOf u15).toNat)
  case atStart => exact ⟨0, _, by omega, rfl, o5, World.grownBy.refl _ _⟩
  case round =>
    obtain ⟨i, xs, hi, rfl, hr, hgr⟩ := hrel
    by_cases hlt : i < na
    · obtain ⟨g, rfl, hc⟩ := slice_block hr (by omega)
      have hx := hr.1
      obtain ⟨y0, hy0⟩ : ∃ y, xs[i * 2]? = some y := ⟨_, List.getElem?_eq_getElem (by omega)⟩
      obtain ⟨y1, hy1⟩ : ∃ y, xs[i * 2 + 1]? = some y := ⟨_, List.getElem?_eq_getElem (by omega)⟩
      have e0 := (hr.cellAt (i * 2) (by omega)).trans hy0
      have e1 := (hr.cellAt (i * 2 + 1) (by omega)).trans hy1
      have f0 := own_free hr (i * 2)
      have f1 := own_free hr (i * 2 + 1)
      have hs := own_set (own_set hr (by omega : i * 2 < na * 2) (.int .i64 0)) (by omega : i * 2 + 1 < na * 2) (.int .i64 0)
      have hg2 : wl.grownBy ((wr.setCell ⟨g, i * 2, none⟩ (.int .i64 0)).setCell ⟨g, i * 2 + 1, none⟩ (.int .i64 0)) (some g) := grown_setX (grown_setX hgr)
      have bi1 : (0 : Int) ≤ i := by omega
      have bi3 : (i : Int) < na := by omega
      have bi6 : IntKind.i64.wrap ((i : Int) + 1) = (i : Int) + 1 := IntWalk.i64_in _ (by omega)
      clear hy0 hy1 hx hgr o5
      go_wp2
      go_roundw
      case rel => exact ⟨i + 1, _, by omega, by go_num, hs, hg2⟩
      case measure => simp [intOf]; omega
    · have o6 := row_kept o6 hgr fun k hk => (B5.out k hk).2
      have hgl := Lib.hid hgr
      clear hgr hr o5
      rename World => wo
      go_wp2
      go_loopw [16] (fun u16 wr => ∃ (j : Nat) (xs : List Value), j ≤ nb ∧ u16 = .int .i64 j ∧ wr.ownsRow w1.heap.size 48 2 (.slice A6 nb c6) nb xs ∧ wo.grownBy wr (Value.slice A6 nb c6).ownBlock) (fun u16 _ => nb - (intOf u16).toNat)
      case atStart => exact ⟨0, _, by omega, rfl, o6, World.grownBy.refl _ _⟩
      case round =>
        obtain ⟨j, xs, hj, rfl, hr, hgr⟩ := hrel
        by_cases hlt : j < nb
        · obtain ⟨g, rfl, hc⟩ := slice_block hr (by omega)
          have hx := hr.1
          obtain ⟨y0, hy0⟩ : ∃ y, xs[j * 2]? = some y := ⟨_, List.getElem?_eq_getElem (by omega)⟩
          obtain ⟨y1, hy1⟩ : ∃ y, xs[j * 2 + 1]? = some y := ⟨_, List.getElem?_eq_getElem (by omega)⟩
          have e0 := (hr.cellAt (j * 2) (by omega)).trans hy0
          have e1 := (hr.cellAt (j * 2 + 1) (by omega)).trans hy1
          have f0 := own_free hr (j * 2)
          have f1 := own_free hr (j * 2 + 1)
          have hs := own_set (own_set hr (by omega : j * 2 < nb * 2) (.int .i64 0)) (by omega : j * 2 + 1 < nb * 2) (.int .i64 0)
          have hg2 : wo.grownBy ((wr.setCell ⟨g, j * 2, none⟩ (.int .i64 0)).setCell ⟨g, j * 2 + 1, none⟩ (.int .i64 0)) (some g) := grown_setX (grown_setX hgr)
          have bi1 : (0 : Int) ≤ j := by omega
          have bi3 : (j : Int) < nb := by omega
          have bi6 : IntKind.i64.wrap ((j : Int) + 1) = (j : Int) + 1 := IntWalk.i64_in _ (by omega)
          clear hy0 hy1 hx hgr o6
          go_wp2
          go_roundw
          case rel => exact ⟨j + 1, _, by omega, by go_num, hs, hg2⟩
          case measure => simp [intOf]; omega
        · have kz : Below w.heap.size w wr := (K10.out.grown hgl.out K10.out.size (fun k hk => (B5.out k hk).1)).grown hgr (by have := K10.out.size; have := hgl.out.size; omega) (fun k hk => by have := (B6.out k hk).1; omega)
          have two : ∀ (B n : Nat) (v : Value) (l : List Value), w2.heap.size ≤ B → wl.ownsRow B 48 2 v n l → wr.ownsRow B 48 2 v n l := fun B n v l hB h => row_kept (row_kept h hgl.out fun k hk => by have := (B5.out k hk).2; have := m12.out; omega) hgr fun k hk => by have := (B6.out k hk).2; omega
          have q7 := two _ _ _ _ (by omega) R7.out
          have q9 := two _ _ _ _ (by omega) R9.out
          have q11 := two _ _ _ _ (by omega) R11.out
          have q12 := two _ _ _ _ (by omega) R12.out
          have q13 := two _ _ _ _ (by omega) R13.out
          clear two hr hgr o6
          go_wp2_with fail
          refine (joinR_any _ _ a b wr (H1.out.below kz (Nat.le_refl _)) (H2.out.below kz (Nat.le_refl _)) ya yb).mono ?_
          rintro e x1 ⟨t17, L17, E17, rfl, y17, d1, n17⟩
          obtain ⟨rfl, rfl⟩ := N11.out.one n17
          have kx1 := kz.trans (d1.mono kz.size)
          go_wp2_with fail
          refine (meetR_any _ _ a b x1 (H1.out.below kx1 (Nat.le_refl _)) (H2.out.below kx1 (Nat.le_refl _)) ya yb).mono ?_
          rintro e x2 ⟨t19, L19, E19, rfl, y19, d2, n19⟩
          obtain ⟨rfl, rfl⟩ := N12.out.one n19
          have kx2 := kx1.trans (d2.mono kx1.size)
          go_wp2_with fail
          refine (cutR_any _ _ a b x2 (H1.out.below kx2 (Nat.le_refl _)) (H2.out.below kx2 (Nat.le_refl _)) ya yb).mono ?_
          rintro e x3 ⟨t21, L21, E21, rfl, y21, d3, n21⟩
          obtain ⟨rfl, rfl⟩ := N13.out.one n21
          have kx3 := kx2.trans (d3.mono kx2.size)
          have dz : Below wr.heap.size wr x3 := d1.trans ((d2.trans (d3.mono d2.size)).mono d1.size)
          have y17 := y17.below (d2.trans (d3.mono d2.size)) (Nat.le_refl _)
          have y19 := y19.below d3 (Nat.le_refl _)
          have p7 := spAt_own (own_belowX q7 dz)
          have p9 := spAt_own (own_belowX q9 dz)
          have p11 := spAt_own (own_belowX q11 dz)
          have p12 := spAt_own (own_belowX q12 dz)
          have p13 := spAt_own (own_belowX q13 dz)
          clear q7 q9 q11 q12 q13 d1 d2 d3 dz kx1 kx2 n17 n19 n21
          have l7 := N7.out.len
          have l11 := N11.out.len
          have l12 := N12.out.len
          have l13 := N13.out.len
          go_wp2_with fail
          refine (sameSpansB _ _ _ x3 p7 p9 (by omega)).mono ?_
          rintro e x4 ⟨rfl, d4⟩
          have kx4 := kx3.trans (d4.mono kx3.size)
          go_wp2_with fail
          refine (sameSpansB _ _ _ x4 (p11.below d4 (Nat.le_refl _)) (y17.below d4 (Nat.le_refl _)) (by omega)).mono ?_
          rintro e x5 ⟨rfl, d5⟩
          have kx5 := kx4.trans (d5.mono kx4.size)
          have d35 := d4.trans (d5.mono d4.size)
          go_wp2_with fail
          refine (sameSpansB _ _ _ x5 (p12.below d35 (Nat.le_refl _)) (y19.below d35 (Nat.le_refl _)) (by omega)).mono ?_
          rintro e x6 ⟨rfl, d6⟩
          have kx6 := kx5.trans (d6.mono kx5.size)
          have d36 := d35.trans (d6.mono d35.size)
          go_wp2_with fail
          refine (sameSpansB _ _ _ x6 (p13.below d36 (Nat.le_refl _)) (y21.below d36 (Nat.le_refl _)) (by omega)).mono ?_
          rintro e x7 ⟨rfl, d7⟩
          have kx7 := kx6.trans (d7.mono kx6.size)
          go_wp2_with fail
          refine (known_any _ (hT.out.below kx7 (fun t ht => by have := tabs_four t ht; omega))).mono ?_
          rintro e x8 ⟨rfl, d8⟩
          go_wp2_with fail
          go_ret
          exact ⟨rfl, kx7.trans (d8.mono kx7.size)⟩
end Go.Proofs.YtfhljcpicdabmaaGreatDoor
