/- Stage 4's seat: a bag cut at times, the specification's side. -/
import Derived.Test.YtimlgclejaoboaaGreatDoorBgO
namespace Go.Proofs.YtimlgclejaoboaaGreatDoor
open Go Go.RowKit Go.RecM
set_option maxRecDepth 100000
set_option maxHeartbeats 1000000

theorem info33 : (Tryz.prog.info? 33).map (fun i => (i.zero, i.size, i.bytes)) = some (some (.agg #[.int .i64 0, .int .i64 0, .int .i64 0, .int .i64 0]), 4, 32) := by kernel_rfl
theorem info_parts {P : Program} {t : TypeId} {z : Value} {m b : Nat} (h : (P.info? t).map (fun i => (i.zero, i.size, i.bytes)) = some (some z, m, b)) : ∃ i, P.info? t = some i ∧ i.zero = some z ∧ i.size = m ∧ i.bytes = b := by
  cases hi : P.info? t with
  | none => rw [hi] at h; cases h
  | some i => rw [hi] at h; simp at h; exact ⟨i, rfl, h.1, h.2.1, h.2.2⟩
theorem filter_succ {α : Type} {l : List α} {k : Nat} {x : α} {f : α → Bool} (h : l[k]? = some x) : (l.take (k + 1)).filter f = (l.take k).filter f ++ (if f x = true then [x] else []) := by
  rw [List.take_add_one, h, List.filter_append]
  cases hf : f x <;> simp [hf]
theorem filter_len {α : Type} {l : List α} {k : Nat} (f : α → Bool) : ((l.take k).filter f).length ≤ k := by
  have h1 := List.length_filter_le f (l.take k)
  have h2 : (l.take k).length ≤ k := by simp [List.length_take]; omega
  omega

theorem cut_any (s : Value) (l : List It) (lo hi : Int) (W0 : World) (h : BagAt W0 s l) (hl : l.length ≤ 300) : Calls Tryz.prog 52 #[s, .int .i64 lo, .int .i64 hi] W0 fun e w' => ∃ v, e = .returned v ∧ w'.ownsRow W0.heap.size 33 4 v (l.filter fun x => inB x.1.1 lo hi).length ((l.filter fun x => inB x.1.1 lo hi).flatMap encIt) ∧ Below W0.heap.size W0 w' := by
  obtain ⟨i0, hi0, hz0, hz1, hz2⟩ := info_parts info33
  obtain ⟨A, c, rfl, -⟩ := id h
  obtain ⟨n, hn⟩ : ∃ n, Hid (l.length = n) := ⟨_, Lib.hid rfl⟩
  rw [hn.out] at h hl ⊢
  have HL := Lib.hid h
  clear h
  obtain ⟨f, hf⟩ : ∃ f, Hid (f = fun x : It => inB x.1.1 lo hi) := ⟨_, Lib.hid rfl⟩
  rw [← hf.out]
  go_enter Tryz.func52, Tryz.ntmps52
  go_wp2
  go_loopw [7, 12] (fun u7 u12 wr => ∃ k : Nat, k ≤ n ∧ u12 = .int .i64 k ∧ wr.ownsRow W0.heap.size 33 4 u7 ((l.take k).filter f).length (((l.take k).filter f).flatMap encIt) ∧ Below W0.heap.size W0 wr) (fun _ u12 _ => n - (intOf u12).toNat)
  case atStart => exact ⟨0, by omega, rfl, World.ownsRow_nil _ _ _ _, Below.refl _ _⟩
  case round =>
    obtain ⟨k, hk, rfl, hown, hbw⟩ := hrel
    by_cases hlt : k < n
    · obtain ⟨x, hx⟩ : ∃ x, l[k]? = some x := ⟨_, List.getElem?_eq_getElem (by have := hn.out; omega)⟩
      obtain ⟨g, o, rfl, hg, d0, d1, d2, d3⟩ := (HL.out.below hbw (Nat.le_refl _)).get hx
      have hstep := Lib.hid (filter_succ (f := f) hx)
      have hle : ((l.take k).filter f).length ≤ k := filter_len f
      clear hx
      obtain ⟨⟨x0, x1, x2⟩, x3⟩ := x
      have hfx : Hid (f ((x0, x1, x2), x3) = (decide (lo ≤ x0) && decide (x0 ≤ hi))) := Lib.hid (by rw [hf.out]; rfl)
      dsimp only at d0 d1 d2 d3
      have bk1 : (0 : Int) ≤ k := by omega
      have bk2 : (k : Int) < n := by omega
      have hbw2 : ∀ o, Below W0.heap.size W0 (wr.alloc o) := fun o => hbw.alloc hbw.size _
      by_cases ha : lo ≤ x0
      · have hab : decide (lo ≤ x0) = true := decide_eq_true ha
        by_cases hb : x0 ≤ hi
        · have hbb : decide (x0 ≤ hi) = true := decide_eq_true hb
          go_wp2_with (at_builtin; refine wpList_append_own _ rfl (.tmp 28) (.tmp 30) 23 rfl W0.heap.size 33 i0 (.agg #[.int .i64 0, .int .i64 0, .int .i64 0, .int .i64 0]) 4 32 Tryz.underlying23 hi0 hz0 hz1 hz2 rfl (by decide) _ _ _ rfl ((hown.alloc _).alloc _) ⟨_, 0, none⟩ 1 1 [.int .i64 x0, .int .i64 x1, .int .i64 x2, .int .i64 x3] rfl rfl ?c1 ?c2 ?c3 ?c4 ?c5 ?_)
          case c1 =>
            intro j v hj
            match j, hj with
            | 0, hj => simp at hj; subst hj; go_simp
            | 1, hj => simp at hj; subst hj; go_simp
            | 2, hj => simp at hj; subst hj; go_simp
            | 3, hj => simp at hj; subst hj; go_simp
            | j + 4, hj => simp at hj
          case c2 => exact encIt_one ((x0, x1, x2), x3)
          case c3 => unfold maxLen; omega
          case c4 => omega
          case c5 => simp; have := hbw.size; omega
          intro v' w3 hown3 hg3 _
          have hbw3 : Below W0.heap.size W0 w3 := ((hbw2 _).alloc (hbw2 _).size _).grown hg3 (by simp; have := hbw.size; omega) (fun k hk => (hown.lt k hk).1)
          clear hown hbw hg3
          go_wp2
          go_roundw
          case rel =>
            refine ⟨k + 1, by omega, by go_num, ?_, hbw3⟩
            rw [hstep.out, hfx.out, hab, hbb, Bool.and_self, if_pos rfl, List.length_append, List.flatMap_append]
            exact hown3
          case measure => simp [intOf]; omega
        · have hbb : decide (x0 ≤ hi) = false := decide_eq_false hb
          go_wp2
          go_roundw
          case rel =>
            refine ⟨k + 1, by omega, by go_num, ?_, hbw2 _⟩
            rw [hstep.out, hfx.out, hab, hbb, Bool.and_false, if_neg (by decide), List.append_nil]
            exact hown.alloc _
          case measure => simp [intOf]; omega
      · have hab : decide (lo ≤ x0) = false := decide_eq_false ha
        go_wp2
        go_roundw
        case rel =>
          refine ⟨k + 1, by omega, by go_num, ?_, hbw2 _⟩
          rw [hstep.out, hfx.out, hab, Bool.false_and, if_neg (by decide), List.append_nil]
          exact hown.alloc _
        case measure => simp [intOf]; omega
    · have hkn : k = n := by omega
      have HN := Lib.hid hkn
      clear hkn
      go_wp2
      go_ret
      rw [HN.out, List.take_of_length_le (by have := hn.out; omega)] at hown
      exact ⟨u7, rfl, hown, hbw⟩
end Go.Proofs.YtimlgclejaoboaaGreatDoor
