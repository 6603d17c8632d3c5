/- Stage 4's seat: a bag some later, both sides. -/
import Derived.Test.YtimlgclejaoboaaGreatDoorBgU
namespace Go.Proofs.YtimlgclejaoboaaGreatDoor
open Go Go.RowKit Go.RecM
set_option maxRecDepth 100000
set_option maxHeartbeats 1000000

/-- The nearest number from -201 to 201. -/
def far (n : Int) : Int := max (-201) (min n 201)
theorem far_in (n : Int) : -201 ≤ far n ∧ far n ≤ 201 := by unfold far; omega
theorem far_too (n : Int) : min (max n (-201)) 201 = far n := by unfold far; omega
theorem clamp_any (n : Int) (w : World) : Calls Tryz.prog 111 #[.int .i64 n, .int .i64 201] w fun e w' => e = .returned (.int .i64 (far n)) ∧ w' = w := by
  go_enter Tryz.func111, Tryz.ntmps111
  go_wp2
  go_ret
  exact ⟨rfl, rfl⟩
theorem own_belowI {w w' : World} {B n : Nat} {s : Value} {xs : List Value} (h : w.ownsRow B 33 4 s n xs) (hb : Below w.heap.size w w') : w'.ownsRow B 33 4 s n xs := by
  have hg : w.grownBy w' none := ⟨hb.os, hb.tape, hb.output, hb.size, fun i hi _ => hb.block i hi⟩
  refine h.kept hg ?_
  by_cases e : s.ownBlock = none
  · exact .inl e
  · exact .inr e
def shI (m : Int) (x : It) : It := ((x.1.1 + m, x.1.2.1, x.1.2.2), x.2)
def laterL (m : Int) (l : List It) : List It := (l.map (shI m)).filter fun x => recFB x.1
theorem recFB_at {x : R3} (h : recFB x = true) : 0 ≤ x.1 ∧ x.1 ≤ 200 := by
  unfold recFB inB at h
  simp only [Bool.and_eq_true, decide_eq_true_eq] at h
  exact h.1
theorem recFB_sh {m : Int} {x : It} (h : recFB x.1 = true) : recFB (shI m x).1 = inB (x.1.1 + m) 0 200 := by
  unfold recFB at h ⊢
  rw [Bool.and_eq_true] at h
  show (inB (x.1.1 + m) 0 200 && _) = _
  unfold shI
  dsimp only
  rw [h.2, Bool.and_true]

theorem later_any (s : Value) (l : List It) (n : Int) (W0 : World) (h : BagAt W0 s l) (hl : l.length ≤ 300) (hr : ∀ x ∈ l, recFB x.1 = true) : Calls Tryz.prog 74 #[s, .int .i64 n] W0 fun e w' => ∃ v, e = .returned v ∧ w'.ownsRow W0.heap.size 33 4 v (laterL (far n) l).length ((laterL (far n) l).flatMap encIt) ∧ Below W0.heap.size W0 w' := by
  obtain ⟨i0, hi0, hz0, hz1, hz2⟩ := info_parts info33
  obtain ⟨A, c, rfl, -⟩ := id h
  obtain ⟨n0, hn⟩ : ∃ n, Hid (l.length = n) := ⟨_, Lib.hid rfl⟩
  rw [hn.out] at h hl ⊢
  have HL := Lib.hid h
  have HR := Lib.hid hr
  clear h hr
  obtain ⟨m, hm⟩ : ∃ m, Hid (far n = m) := ⟨_, Lib.hid rfl⟩
  have hm1 : -201 ≤ m := by rw [← hm.out]; exact (far_in n).1
  have hm2 : m ≤ 201 := by rw [← hm.out]; exact (far_in n).2
  have cC := clamp_any n
  rw [hm.out] at cC
  rw [hm.out]
  obtain ⟨f, hf⟩ : ∃ f, Hid (f = fun x : It => recFB x.1) := ⟨_, Lib.hid rfl⟩
  unfold laterL
  rw [← hf.out]
  go_enter Tryz.func74, Tryz.ntmps74
  go_wp2_with fail
  refine (cC _).mono ?_
  rintro e w1 ⟨rfl, hw1⟩
  rw [hw1]
  clear hw1
  go_wp2
  go_loopw [5, 12] (fun uo ui wr => ∃ k : Nat, k ≤ n0 ∧ ui = .int .i64 k ∧ wr.ownsRow W0.heap.size 33 4 uo (((l.map (shI m)).take k).filter f).length ((((l.map (shI m)).take k).filter f).flatMap encIt) ∧ Below W0.heap.size W0 wr) (fun _ ui _ => n0 - (intOf ui).toNat)
  case atStart => exact ⟨0, by omega, rfl, World.ownsRow_nil _ _ _ _, Below.refl _ _⟩
  case round =>
    obtain ⟨k, hk, rfl, hown, hbw⟩ := hrel
    by_cases hlt : k < n0
    · obtain ⟨x, hx⟩ : ∃ x, l[k]? = some x := ⟨_, List.getElem?_eq_getElem (by have := hn.out; omega)⟩
      obtain ⟨g, o, rfl, hg, d0, d1, d2, d3⟩ := (HL.out.below hbw (Nat.le_refl _)).get hx
      have hsx : (l.map (shI m))[k]? = some (shI m x) := by rw [List.getElem?_map, hx]; rfl
      have hrx := HR.out x (List.mem_of_getElem? hx)
      have hstep := Lib.hid (filter_succ (f := f) hsx)
      have hle : (((l.map (shI m)).take k).filter f).length ≤ k := filter_len f
      obtain ⟨hx1, hx2⟩ := recFB_at hrx
      have hfx : Hid (f (shI m x) = inB (x.1.1 + m) 0 200) := Lib.hid (by rw [hf.out]; exact recFB_sh hrx)
      have hre : Hid (f (shI m x) = recFB (x.1.1 + m, x.1.2.1, x.1.2.2)) := Lib.hid (by rw [hf.out]; rfl)
      clear hx hsx hrx
      obtain ⟨⟨x0, x1, x2⟩, x3⟩ := x
      dsimp only at d0 d1 d2 d3 hx1 hx2
      have bk1 : (0 : Int) ≤ k := by omega
      have bk2 : (k : Int) < n0 := by omega
      have hwx : IntKind.i64.wrap (x0 + m) = x0 + m := IntWalk.i64_in _ (by omega)
      obtain ⟨p, hp⟩ : ∃ p, Hid (f (shI m ((x0, x1, x2), x3)) = p) := ⟨_, Lib.hid rfl⟩
      have cW : ∀ w, Calls Tryz.prog 104 #[.int .i64 (x0 + m), .int .i64 0, .int .i64 200] w fun e w' => e = .returned (.bool p) ∧ w' = w := fun w => by rw [← hp.out, hfx.out]; exact within_any _ _ _ w
      go_wp2_with fail
      refine (cW _).mono ?_
      rintro e w1 ⟨rfl, rfl⟩
      have hownw := hown.alloc (.cells #[.int .i64 (x0 + m), .int .i64 x1, .int .i64 x2, .int .i64 x3] 33)
      have hbww := hbw.alloc hbw.size (.cells #[.int .i64 (x0 + m), .int .i64 x1, .int .i64 x2, .int .i64 x3] 33)
      cases p with
      | true =>
        go_wp2_with (at_builtin; refine wpList_append_own _ rfl (.tmp 27) (.tmp 29) 23 rfl W0.heap.size 33 i0 (.agg #[.int .i64 0, .int .i64 0, .int .i64 0, .int .i64 0]) 4 32 Tryz.underlying23 hi0 hz0 hz1 hz2 rfl (by decide) _ _ _ rfl (hownw.alloc _) ⟨_, 0, none⟩ 1 1 [.int .i64 (x0 + m), .int .i64 x1, .int .i64 x2, .int .i64 x3] rfl rfl ?c1 ?c2 ?c3 ?c4 ?c5 ?_)
        case c1 =>
          intro j v hj
          match j, hj with
          | 0, hj => simp at hj; subst hj; go_simp
          | 1, hj => simp at hj; subst hj; go_simp
          | 2, hj => simp at hj; subst hj; go_simp
          | 3, hj => simp at hj; subst hj; go_simp
          | j + 4, hj => simp at hj
        case c2 => exact encIt_one ((x0 + m, x1, x2), x3)
        case c3 => unfold maxLen; omega
        case c4 => omega
        case c5 => simp; have h1 := hbw.size; have h2 := hbww.size; (try simp at h2); omega
        intro v' w3 hown3 hg3 _
        have hbw3 : Below W0.heap.size W0 w3 := (hbww.alloc hbww.size _).grown hg3 (by simp; have h1 := hbw.size; have h2 := hbww.size; (try simp at h2); omega) (fun k hk => (hown.lt k hk).1)
        clear hown hownw hbw hbww hg3
        go_wp2
        go_roundw
        case rel =>
          refine ⟨k + 1, by omega, by go_num, ?_, hbw3⟩
          rw [hstep.out, hp.out, if_pos rfl, List.length_append, List.flatMap_append]
          exact hown3
        case measure => simp [intOf]; omega
      | false =>
        go_wp2
        go_roundw
        case rel =>
          refine ⟨k + 1, by omega, by go_num, ?_, hbww⟩
          rw [hstep.out, hp.out, if_neg (by decide), List.append_nil]
          exact hownw
        case measure => simp [intOf]; omega
    · have hkn : k = n0 := by omega
      have HN := Lib.hid hkn
      clear hkn
      go_wp2
      go_ret
      rw [HN.out, List.take_of_length_le (by rw [List.length_map]; have := hn.out; omega)] at hown
      exact ⟨u5, rfl, hown, hbw⟩

theorem laterS_any (s : Value) (l : List It) (n : Int) (W0 : World) (h : BagAt W0 s l) (hl : l.length ≤ 300) (hr : ∀ x ∈ l, recFB x.1 = true) : Calls Tryz.prog 75 #[s, .int .i64 n] W0 fun e w' => ∃ v, e = .returned v ∧ w'.ownsRow W0.heap.size 33 4 v (laterL (far n) l).length ((laterL (far n) l).flatMap encIt) ∧ Below W0.heap.size W0 w' := by
  obtain ⟨i0, hi0, hz0, hz1, hz2⟩ := info_parts info33
  obtain ⟨A, c, rfl, -⟩ := id h
  obtain ⟨n0, hn⟩ : ∃ n, Hid (l.length = n) := ⟨_, Lib.hid rfl⟩
  rw [hn.out] at h hl ⊢
  have HL := Lib.hid h
  have HR := Lib.hid hr
  clear h hr
  obtain ⟨m, hm⟩ : ∃ m, Hid (far n = m) := ⟨_, Lib.hid rfl⟩
  have hm1 : -201 ≤ m := by rw [← hm.out]; exact (far_in n).1
  have hm2 : m ≤ 201 := by rw [← hm.out]; exact (far_in n).2
  have hfm : min (max n (-201)) 201 = m := by rw [← hm.out]; exact far_too n
  rw [hm.out]
  obtain ⟨f, hf⟩ : ∃ f, Hid (f = fun x : It => recFB x.1) := ⟨_, Lib.hid rfl⟩
  unfold laterL
  rw [← hf.out]
  go_enter Tryz.func75, Tryz.ntmps75
  go_wp2
  go_loopw [5, 10] (fun uo ui wr => ∃ k : Nat, k ≤ n0 ∧ ui = .int .i64 k ∧ wr.ownsRow W0.heap.size 33 4 uo (((l.map (shI m)).take k).filter f).length ((((l.map (shI m)).take k).filter f).flatMap encIt) ∧ Below W0.heap.size W0 wr) (fun _ ui _ => n0 - (intOf ui).toNat)
  case atStart => exact ⟨0, by omega, rfl, World.ownsRow_nil _ _ _ _, Below.refl _ _⟩
  case round =>
    obtain ⟨k, hk, rfl, hown, hbw⟩ := hrel
    by_cases hlt : k < n0
    · obtain ⟨x, hx⟩ : ∃ x, l[k]? = some x := ⟨_, List.getElem?_eq_getElem (by have := hn.out; omega)⟩
      obtain ⟨g, o, rfl, hg, d0, d1, d2, d3⟩ := (HL.out.below hbw (Nat.le_refl _)).get hx
      have hsx : (l.map (shI m))[k]? = some (shI m x) := by rw [List.getElem?_map, hx]; rfl
      have hrx := HR.out x (List.mem_of_getElem? hx)
      have hstep := Lib.hid (filter_succ (f := f) hsx)
      have hle : (((l.map (shI m)).take k).filter f).length ≤ k := filter_len f
      obtain ⟨hx1, hx2⟩ := recFB_at hrx
      have hfx : Hid (f (shI m x) = inB (x.1.1 + m) 0 200) := Lib.hid (by rw [hf.out]; exact recFB_sh hrx)
      have hre : Hid (f (shI m x) = recFB (x.1.1 + m, x.1.2.1, x.1.2.2)) := Lib.hid (by rw [hf.out]; rfl)
      clear hx hsx hrx
      obtain ⟨⟨x0, x1, x2⟩, x3⟩ := x
      dsimp only at d0 d1 d2 d3 hx1 hx2
      have bk1 : (0 : Int) ≤ k := by omega
      have bk2 : (k : Int) < n0 := by omega
      have hwx : IntKind.i64.wrap (x0 + m) = x0 + m := IntWalk.i64_in _ (by omega)
      obtain ⟨p, hp⟩ : ∃ p, Hid (f (shI m ((x0, x1, x2), x3)) = p) := ⟨_, Lib.hid rfl⟩
      have cR : ∀ w, Calls Tryz.prog 63 #[.agg #[.int .i64 (x0 + m), .int .i64 x1, .int .i64 x2]] w fun e w' => e = .returned (.bool p) ∧ Below w.heap.size w w' := fun w => by rw [← hp.out, hre.out]; exact rec_any (x0 + m, x1, x2) w
      go_wp2_with fail
      refine (cR _).mono ?_
      rintro e w1 ⟨rfl, b1⟩
      have b1w : Below wr.heap.size wr w1 := (Below.alloc (Below.refl _ _) (Nat.le_refl _) _).trans (b1.mono (by go_simp))
      have hw1 : wr.heap.size < w1.heap.size := by have := b1.size; simp at this; omega
      have i0' : w1.cell? ⟨wr.heap.size, 0, none⟩ = some (.int .i64 (x0 + m)) := by rw [b1.cell (p := ⟨wr.heap.size, 0, none⟩) (by go_simp)]; go_simp
      have i1' : w1.cell? ⟨wr.heap.size, 1, none⟩ = some (.int .i64 x1) := by rw [b1.cell (p := ⟨wr.heap.size, 1, none⟩) (by go_simp)]; go_simp
      have i2' : w1.cell? ⟨wr.heap.size, 2, none⟩ = some (.int .i64 x2) := by rw [b1.cell (p := ⟨wr.heap.size, 2, none⟩) (by go_simp)]; go_simp
      have i3' : w1.cell? ⟨wr.heap.size, 3, none⟩ = some (.int .i64 x3) := by rw [b1.cell (p := ⟨wr.heap.size, 3, none⟩) (by go_simp)]; go_simp
      have hownw := own_belowI hown b1w
      have hbww := hbw.trans (b1w.mono hbw.size)
      clear b1 b1w
      cases p with
      | true =>
        go_wp2_with (at_builtin; refine wpList_append_own _ rfl (.tmp 26) (.tmp 28) 23 rfl W0.heap.size 33 i0 (.agg #[.int .i64 0, .int .i64 0, .int .i64 0, .int .i64 0]) 4 32 Tryz.underlying23 hi0 hz0 hz1 hz2 rfl (by decide) _ _ _ rfl (hownw.alloc _) ⟨_, 0, none⟩ 1 1 [.int .i64 (x0 + m), .int .i64 x1, .int .i64 x2, .int .i64 x3] rfl rfl ?c1 ?c2 ?c3 ?c4 ?c5 ?_)
        case c1 =>
          intro j v hj
          match j, hj with
          | 0, hj => simp at hj; subst hj; go_simp
          | 1, hj => simp at hj; subst hj; go_simp
          | 2, hj => simp at hj; subst hj; go_simp
          | 3, hj => simp at hj; subst hj; go_simp
          | j + 4, hj => simp at hj
        case c2 => exact encIt_one ((x0 + m, x1, x2), x3)
        case c3 => unfold maxLen; omega
        case c4 => omega
        case c5 => simp; have h1 := hbw.size; have h2 := hbww.size; (try simp at h2); omega
        intro v' w3 hown3 hg3 _
        have hbw3 : Below W0.heap.size W0 w3 := (hbww.alloc hbww.size _).grown hg3 (by simp; have h1 := hbw.size; have h2 := hbww.size; (try simp at h2); omega) (fun k hk => (hown.lt k hk).1)
        clear hown hownw hbw hbww hg3
        go_wp2
        go_roundw
        case rel =>
          refine ⟨k + 1, by omega, by go_num, ?_, hbw3⟩
          rw [hstep.out, hp.out, if_pos rfl, List.length_append, List.flatMap_append]
          exact hown3
        case measure => simp [intOf]; omega
      | false =>
        go_wp2
        go_roundw
        case rel =>
          refine ⟨k + 1, by omega, by go_num, ?_, hbww⟩
          rw [hstep.out, hp.out, if_neg (by decide), List.append_nil]
          exact hownw
        case measure => simp [intOf]; omega
    · have hkn : k = n0 := by omega
      have HN := Lib.hid hkn
      clear hkn
      go_wp2
      go_ret
      rw [HN.out, List.take_of_length_le (by rw [List.length_map]; have := hn.out; omega)] at hown
      exact ⟨u5, rfl, hown, hbw⟩
end Go.Proofs.YtimlgclejaoboaaGreatDoor
