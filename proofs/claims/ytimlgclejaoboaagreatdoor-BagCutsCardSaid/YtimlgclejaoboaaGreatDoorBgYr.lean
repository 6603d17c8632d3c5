/- Stage 4's seat: the parts of a bag, the project's side. -/
import Derived.Test.YtimlgclejaoboaaGreatDoorBgYq
namespace Go.Proofs.YtimlgclejaoboaaGreatDoor
open Go Go.RowKit Go.RecM
set_option maxRecDepth 100000
set_option maxHeartbeats 1000000

theorem info23 : (Tryz.prog.info? 23).map (fun i => (i.zero, i.size, i.bytes)) = some (some (.slice none 0 0), 1, 24) := by kernel_rfl
theorem own_base {B B' n z : Nat} {ty : TypeId} {w : World} {s : Value} {xs : List Value} (h : w.ownsRow B ty z s n xs) (hB : B' ≤ B) : w.ownsRow B' ty z s n xs := by
  refine ⟨h.1, ?_⟩
  rcases h.2 with h2 | ⟨g, cap, cur, h1, h2, h3⟩
  · exact .inl h2
  · exact .inr ⟨g, cap, cur, h1, Nat.le_trans hB h2, h3⟩
theorem one_new (w : World) (x : Value) (t : TypeId) : ∀ j v, [x][j]? = some v → (w.alloc (.cells #[x] t)).cell? ((⟨w.heap.size, 0, none⟩ : Addr).add j) = some v := by
  intro j v hj
  match j, hj with
  | 0, hj => simp at hj; subst hj; go_simp
  | j + 1, hj => simp at hj

theorem cutP_any (s : Value) (l : List It) (u : Value) (ts : List Int) (W0 : World) (h : BagAt W0 s l) (hl : l.length ≤ 300) (ht : IntsAt W0 u ts) (htl : ts.length ≤ 40) :
    Calls Tryz.prog 72 #[s, u] W0 fun e w' => ∃ v, e = .returned v ∧ Outs W0.heap.size w' v (partsAll ts l) ∧ Below W0.heap.size W0 w' := by
  obtain ⟨i0, hi0, hz0, hz1, hz2⟩ := info_parts info23
  obtain ⟨A, c, rfl, -⟩ := id h
  obtain ⟨A', c', rfl, -⟩ := id ht
  obtain ⟨n, hn⟩ : ∃ n, Hid (l.length = n) := ⟨_, Lib.hid rfl⟩
  obtain ⟨m, hm⟩ : ∃ n, Hid (ts.length = n) := ⟨_, Lib.hid rfl⟩
  have cP : ∀ (lo hi : Int) w, Below W0.heap.size W0 w → Calls Tryz.prog 110 #[.slice A n c, .int .i64 lo, .int .i64 hi] w fun e w' => ∃ v, e = .returned v ∧ w'.ownsRow w.heap.size 33 4 v (betL lo hi l).length ((betL lo hi l).flatMap encIt) ∧ Below w.heap.size w w' := fun lo hi w hb => by
    rw [← hn.out]
    exact part_any _ l lo hi w (h.below hb (Nat.le_refl _)) hl
  have HT := Lib.hid ht
  rw [hn.out]
  rw [hm.out] at HT htl ⊢
  clear h ht
  go_enter Tryz.func72, Tryz.ntmps72
  go_wp2
  go_loopw [5, 6, 11] (fun u5 u6 u11 wr => ∃ k : Nat, k ≤ m ∧ u11 = .int .i64 k ∧ u6 = .int .i64 (prevAt ts k) ∧ Outs W0.heap.size wr u5 (partsTo ts l k) ∧ Below W0.heap.size W0 wr) (fun _ _ u11 _ => m - (intOf u11).toNat)
  case atStart => exact ⟨0, by omega, rfl, rfl, Outs.nil _ _, Below.refl _ _⟩
  case round =>
    obtain ⟨k, hk, rfl, rfl, hout, hbw⟩ := hrel
    by_cases hlt : k < m
    · obtain ⟨x, hx⟩ : ∃ x, ts[k]? = some x := ⟨_, List.getElem?_eq_getElem (by have := hm.out; omega)⟩
      obtain ⟨g, o, rfl, hg, d0⟩ := (HT.out.below hbw (Nat.le_refl _)).get hx
      have hgx : Hid (ts.getD k 0 = x) := Lib.hid (by rw [List.getD_eq_getElem?_getD, hx]; rfl)
      clear hx
      obtain ⟨fr, hfr⟩ : ∃ z, Hid (prevAt ts k = z) := ⟨_, Lib.hid rfl⟩
      rw [hfr.out]
      have bk1 : (0 : Int) ≤ k := by omega
      have bk2 : (k : Int) < m := by omega
      go_wp2_with fail
      refine (cP fr x wr hbw).mono ?_
      rintro e w1 ⟨v, rfl, hrow, b1⟩
      have hbw1 : Below W0.heap.size W0 w1 := hbw.trans (b1.mono hbw.size)
      have hrow1 := own_base hrow hbw.size
      obtain ⟨vs, h1, h2, h3⟩ := hout.below b1
      have hlen := partsTo_len ts l k
      obtain ⟨vA, vn, vc, rfl⟩ : ∃ A n c, v = .slice A n c := by
        rcases hrow.2 with ⟨rfl, _⟩ | ⟨g, cap, cur, rfl, _⟩
        · exact ⟨_, _, _, rfl⟩
        · exact ⟨_, _, _, rfl⟩
      go_wp2_with (at_builtin; refine wpList_append_own _ rfl (.tmp 15) (.tmp 20) 41 rfl W0.heap.size 23 i0 (.slice none 0 0) 1 24 Tryz.underlying41 hi0 hz0 hz1 hz2 rfl (by decide) _ _ _ rfl (h2.alloc _) ⟨_, 0, none⟩ 1 1 [.slice vA vn vc] rfl rfl ?c1 ?c2 ?c3 ?c4 ?c5 ?_)
      case c1 => exact one_new _ _ _
      case c2 => intro z hz; simp at hz; subst hz; rfl
      case c3 => unfold maxLen; omega
      case c4 => omega
      case c5 => simp; have := hbw1.size; omega
      intro v' w3 hown3 hg3 _
      have hbw3 : Below W0.heap.size W0 w3 := (hbw1.alloc hbw1.size _).grown hg3 (by simp; have := hbw1.size; omega) (fun k hk => (h2.lt k hk).1)
      have hout3 : Outs W0.heap.size w3 v' (partsTo ts l (k + 1)) := by
        rw [partsTo_succ, hgx.out, hfr.out]
        exact Outs.append h1 (h2.alloc _) (fun i s l hs hl => (h3 i s l hs hl).alloc _) (hrow1.alloc _) hg3 (by rw [hlen]; exact hown3)
      clear hout hbw h2 h3 hrow hrow1 hg3 hown3 b1
      go_wp2
      go_roundw
      case rel => exact ⟨k + 1, by omega, by go_num, by rw [← hgx.out]; rfl, hout3, hbw3⟩
      case measure => simp [intOf]; omega
    · have hkm : k = m := by omega
      subst hkm
      obtain ⟨fr, hfr⟩ : ∃ z, Hid (prevAt ts k = z) := ⟨_, Lib.hid rfl⟩
      rw [hfr.out]
      go_wp2_with fail
      refine (cP fr 9223372036854775807 wr hbw).mono ?_
      rintro e w1 ⟨v, rfl, hrow, b1⟩
      have hbw1 : Below W0.heap.size W0 w1 := hbw.trans (b1.mono hbw.size)
      have hrow1 := own_base hrow hbw.size
      obtain ⟨vs, h1, h2, h3⟩ := hout.below b1
      have hlen := partsTo_len ts l k
      obtain ⟨vA, vn, vc, rfl⟩ : ∃ A n c, v = .slice A n c := by
        rcases hrow.2 with ⟨rfl, _⟩ | ⟨g, cap, cur, rfl, _⟩
        · exact ⟨_, _, _, rfl⟩
        · exact ⟨_, _, _, rfl⟩
      go_wp2_with (at_builtin; refine wpList_append_own _ rfl (.tmp 24) (.tmp 28) 41 rfl W0.heap.size 23 i0 (.slice none 0 0) 1 24 Tryz.underlying41 hi0 hz0 hz1 hz2 rfl (by decide) _ _ _ rfl (h2.alloc _) ⟨_, 0, none⟩ 1 1 [.slice vA vn vc] rfl rfl ?c1 ?c2 ?c3 ?c4 ?c5 ?_)
      case c1 => exact one_new _ _ _
      case c2 => intro z hz; simp at hz; subst hz; rfl
      case c3 => unfold maxLen; omega
      case c4 => omega
      case c5 => simp; have := hbw1.size; omega
      intro v' w3 hown3 hg3 _
      have hbw3 : Below W0.heap.size W0 w3 := (hbw1.alloc hbw1.size _).grown hg3 (by simp; have := hbw1.size; omega) (fun k hk => (h2.lt k hk).1)
      have hout3 : Outs W0.heap.size w3 v' (partsAll ts l) := by
        unfold partsAll
        rw [hm.out, hfr.out]
        exact Outs.append h1 (h2.alloc _) (fun i s l hs hl => (h3 i s l hs hl).alloc _) (hrow1.alloc _) hg3 (by rw [hlen]; exact hown3)
      clear hout hbw h2 h3 hrow hrow1 hg3 hown3 b1
      go_wp2
      go_ret
      exact ⟨v', rfl, hout3, hbw3⟩
end Go.Proofs.YtimlgclejaoboaaGreatDoor
