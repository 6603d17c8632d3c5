/- Stage 4's seat: whether every one of some bags is formed, the project's side. -/
import Derived.Test.YtimlgclejaoboaaGreatDoorBgR
namespace Go.Proofs.YtimlgclejaoboaaGreatDoor
open Go Go.RowKit Go.RecM
set_option maxRecDepth 100000
set_option maxHeartbeats 1000000

theorem notBag_any (s : Value) (l : List It) (W0 : World) (p : Nat) (h : BagAt W0 s l) (hl : l.length ≤ 9223372036854775807) (hp : W0.cell? ⟨p, 0, none⟩ = some (.func (.func 106) #[] #[])) :
    Calls Tryz.prog 140 #[s, .pointer (some ⟨p, 0, none⟩)] W0 fun e w' => e = .returned (.bool (!goodB l)) ∧ Below W0.heap.size W0 w' := by
  have c := isBag_any s l W0 h hl
  generalize goodB l = q at c ⊢
  obtain ⟨A, k, rfl, -⟩ := id h
  clear h
  go_enter Tryz.func140, Tryz.ntmps140
  go_wp2_with fail
  refine c.mono ?_
  rintro e w1 ⟨rfl, b1⟩
  go_wp2
  go_ret
  exact ⟨by cases q <;> rfl, b1⟩

/-- A slice of bags. -/
def BagsAt (w : World) (v : Value) (ls : List (List It)) : Prop := ∃ A c, v = .slice A ls.length c ∧ (0 < ls.length → ∃ g o, A = some ⟨g, o, none⟩ ∧ g < w.heap.size ∧ ∀ (i : Nat) (l : List It), ls[i]? = some l → ∃ s, w.cell? ⟨g, o + i, none⟩ = some s ∧ BagAt w s l)
theorem BagsAt.below {w w' : World} {B : Nat} {v : Value} {ls : List (List It)} (h : BagsAt w v ls) (hb : Below B w w') (hB : w.heap.size ≤ B) : BagsAt w' v ls := by
  obtain ⟨A, c, rfl, hc⟩ := h
  refine ⟨A, c, rfl, fun hn => ?_⟩
  obtain ⟨g, o, rfl, hg, hx⟩ := hc hn
  refine ⟨g, o, rfl, by have := hb.size; omega, fun i l hi => ?_⟩
  obtain ⟨s, hs, hl⟩ := hx i l hi
  exact ⟨s, by rw [hb.cell (p := ⟨g, o + i, none⟩) (by show g < B; omega)]; exact hs, hl.below hb hB⟩
theorem BagsAt.get {w : World} {A : Option Addr} {n c : Nat} {ls : List (List It)} {i : Nat} {l : List It} (h : BagsAt w (.slice A n c) ls) (hi : ls[i]? = some l) : ∃ g o s, A = some ⟨g, o, none⟩ ∧ g < w.heap.size ∧ w.cell? ⟨g, o + i, none⟩ = some s ∧ BagAt w s l := by
  obtain ⟨A', c', he, hc⟩ := h
  cases he
  obtain ⟨g, o, rfl, hg, hx⟩ := hc (by have := (List.getElem?_eq_some_iff.1 hi).1; omega)
  obtain ⟨s, hs, hl⟩ := hx i l hi
  exact ⟨g, o, s, rfl, hg, hs, hl⟩
theorem take_all_succ {α : Type} {l : List α} {k : Nat} {x : α} {f : α → Bool} (h : l[k]? = some x) : (l.take (k + 1)).all f = ((l.take k).all f && f x) := by
  rw [List.take_add_one, h, List.all_append]; simp
theorem take_all_bad {α : Type} {l : List α} {k : Nat} {x : α} {f : α → Bool} (h : l[k]? = some x) (hf : f x = false) : l.all f = false := by
  rw [List.all_eq_false]
  exact ⟨x, List.mem_of_getElem? h, by rw [hf]; decide⟩

theorem indexBag_any (s : Value) (ls : List (List It)) (W0 : World) (p : Nat) (h : BagsAt W0 s ls) (hln : ls.length ≤ 9223372036854775807) (hl : ∀ l ∈ ls, l.length ≤ 9223372036854775807) (hpl : p < W0.heap.size) (hp : W0.cell? ⟨p, 0, none⟩ = some (.func (.func 106) #[] #[])) :
    Calls Tryz.prog 157 #[s, .func (.func 140) #[] #[.pointer (some ⟨p, 0, none⟩)]] W0 fun e w' => (∃ r : Int, e = .returned (.int .i64 r) ∧ decide (0 ≤ r) = !ls.all goodB) ∧ Below W0.heap.size W0 w' := by
  obtain ⟨A, c, rfl, -⟩ := id h
  obtain ⟨n, hn⟩ : ∃ n, Hid (ls.length = n) := ⟨_, Lib.hid rfl⟩
  rw [hn.out] at h hln ⊢
  have HL := Lib.hid h
  have HH := Lib.hid hl
  clear h hl
  go_enter Tryz.func157, Tryz.ntmps157
  go_wp2
  go_loopw [8] (fun u8 wr => ∃ k : Nat, k ≤ n ∧ u8 = .int .i64 k ∧ Hid ((ls.take k).all goodB = true) ∧ Below W0.heap.size W0 wr) (fun u8 _ => n - (intOf u8).toNat)
  case atStart => exact ⟨0, by omega, rfl, Lib.hid rfl, Below.refl _ _⟩
  case round =>
    obtain ⟨k, hk, rfl, hst, hbw⟩ := hrel
    by_cases hlt : k < n
    · obtain ⟨l, hx⟩ : ∃ x, ls[k]? = some x := ⟨_, List.getElem?_eq_getElem (by have := hn.out; omega)⟩
      obtain ⟨g, o, s, rfl, hg, d0, hb⟩ := (HL.out.below hbw (Nat.le_refl _)).get hx
      have HX := Lib.hid hx
      clear hx
      have hpw : wr.cell? ⟨p, 0, none⟩ = some (.func (.func 106) #[] #[]) := by rw [hbw.cell (p := ⟨p, 0, none⟩) hpl]; exact hp
      have cB := notBag_any s l wr p hb (HH.out l (List.mem_of_getElem? HX.out)) hpw
      obtain ⟨A, sn, sc, rfl⟩ : ∃ A sn sc, s = .slice A sn sc := by obtain ⟨A, c, rfl, -⟩ := hb; exact ⟨A, _, c, rfl⟩
      obtain ⟨q, hq⟩ : ∃ q, Hid (goodB l = q) := ⟨_, Lib.hid rfl⟩
      rw [hq.out] at cB
      have bk1 : (0 : Int) ≤ k := by omega
      have bk2 : (k : Int) < n := by omega
      clear hb
      go_wp2_with fail
      refine cB.mono ?_
      rintro e w1 ⟨rfl, b1⟩
      have bw1 : Below W0.heap.size W0 w1 := hbw.trans (b1.mono hbw.size)
      cases q with
      | false =>
        go_wp2
        go_ret
        exact ⟨⟨k, rfl, by rw [take_all_bad HX.out hq.out, decide_eq_true bk1]; rfl⟩, bw1⟩
      | true =>
        go_wp2
        go_roundw
        case rel => exact ⟨k + 1, by omega, by go_num, Lib.hid (by rw [take_all_succ HX.out, hst.out, hq.out]; rfl), bw1⟩
        case measure => simp [intOf]; omega
    · go_wp2
      go_ret
      refine ⟨⟨-1, rfl, ?_⟩, hbw⟩
      have h1 := hst.out
      rw [List.take_of_length_le (by have := hn.out; omega)] at h1
      rw [h1]; rfl

theorem containsBag_any (s : Value) (ls : List (List It)) (W0 : World) (p : Nat) (h : BagsAt W0 s ls) (hln : ls.length ≤ 9223372036854775807) (hl : ∀ l ∈ ls, l.length ≤ 9223372036854775807) (hpl : p < W0.heap.size) (hp : W0.cell? ⟨p, 0, none⟩ = some (.func (.func 106) #[] #[])) :
    Calls Tryz.prog 139 #[s, .func (.func 140) #[] #[.pointer (some ⟨p, 0, none⟩)]] W0 fun e w' => e = .returned (.bool (!ls.all goodB)) ∧ Below W0.heap.size W0 w' := by
  have c := indexBag_any s ls W0 p h hln hl hpl hp
  obtain ⟨A, k, rfl, -⟩ := id h
  clear h
  generalize ls.all goodB = q at c ⊢
  go_enter Tryz.func139, Tryz.ntmps139
  go_wp2_with fail
  refine c.mono ?_
  rintro e w1 ⟨⟨r, rfl, hr⟩, b1⟩
  cases q with
  | false =>
    have hrb : decide (0 ≤ r) = true := hr
    go_wp2
    go_ret
    exact ⟨rfl, b1⟩
  | true =>
    have hrb : decide (0 ≤ r) = false := hr
    go_wp2
    go_ret
    exact ⟨rfl, b1⟩

theorem everyBag_any (s : Value) (ls : List (List It)) (W0 : World) (h : BagsAt W0 s ls) (hln : ls.length ≤ 9223372036854775807) (hl : ∀ l ∈ ls, l.length ≤ 9223372036854775807) :
    Calls Tryz.prog 107 #[s, .func (.func 106) #[] #[]] W0 fun e w' => e = .returned (.bool (ls.all goodB)) ∧ Below W0.heap.size W0 w' := by
  have c : ∀ w p, Below W0.heap.size W0 w → p < w.heap.size → w.cell? ⟨p, 0, none⟩ = some (.func (.func 106) #[] #[]) → Calls Tryz.prog 139 #[s, .func (.func 140) #[] #[.pointer (some ⟨p, 0, none⟩)]] w fun e w' => e = .returned (.bool (!ls.all goodB)) ∧ Below w.heap.size w w' :=
    fun w p hb hpl hp => containsBag_any s ls w p (h.below hb (Nat.le_refl _)) hln hl hpl hp
  obtain ⟨A, k, rfl, -⟩ := id h
  clear h
  generalize ls.all goodB = q at c ⊢
  go_enter Tryz.func107, Tryz.ntmps107
  go_wp2_with fail
  have b0 : Below W0.heap.size W0 (W0.alloc (.cells #[.func (.func 106) #[] #[]] 64)) := Below.alloc (Below.refl _ _) (Nat.le_refl _) _
  refine (c _ _ b0 (by go_simp) (by go_simp)).mono ?_
  rintro e w1 ⟨rfl, b1⟩
  go_wp2
  go_ret
  exact ⟨by cases q <;> rfl, b0.trans (b1.mono b0.size)⟩

theorem areBags_any (s : Value) (ls : List (List It)) (W0 : World) (h : BagsAt W0 s ls) (hln : ls.length ≤ 9223372036854775807) (hl : ∀ l ∈ ls, l.length ≤ 9223372036854775807) :
    Calls Tryz.prog 62 #[s] W0 fun e w' => e = .returned (.bool (ls.all goodB)) ∧ Below W0.heap.size W0 w' := by
  have c := everyBag_any s ls W0 h hln hl
  obtain ⟨A, k, rfl, -⟩ := id h
  clear h
  generalize ls.all goodB = q at c ⊢
  go_enter Tryz.func62, Tryz.ntmps62
  go_wp2_with fail
  refine c.mono ?_
  rintro e w1 ⟨rfl, b1⟩
  go_wp2
  go_ret
  exact ⟨rfl, b1⟩
end Go.Proofs.YtimlgclejaoboaaGreatDoor
