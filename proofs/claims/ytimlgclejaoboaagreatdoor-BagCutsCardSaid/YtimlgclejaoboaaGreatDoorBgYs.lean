/- Stage 4's seat: the parts of a bag, both sides. -/
import Derived.Test.YtimlgclejaoboaaGreatDoorBgYr
namespace Go.Proofs.YtimlgclejaoboaaGreatDoor
open Go Go.RowKit Go.RecM
set_option maxRecDepth 100000
set_option maxHeartbeats 1000000

def okParts (l : List It) (ts : List Int) : Bool := goodB l && (decide (ts.length ≤ 40) && upTo ts ts.length)
def resParts (l : List It) (ts : List Int) : List (List It) := if okParts l ts = true then partsAll ts l else []
def errOf (b : Bool) : Int := if b = true then 0 else 2

theorem bagsOne {w : World} {s : Value} {l : List It} (h : BagAt w s l) : BagsAt (w.alloc (.cells #[s] 23)) (.slice (some ⟨w.heap.size, 0, none⟩) 1 1) [l] := by
  refine ⟨_, 1, rfl, fun _ => ⟨w.heap.size, 0, rfl, by simp, fun i l' hl => ?_⟩⟩
  cases i with
  | zero =>
    simp at hl
    subst hl
    exact ⟨s, by go_simp, h.below (Below.alloc (Below.refl _ _) (Nat.le_refl _) _) (Nat.le_refl _)⟩
  | succ i => simp at hl

theorem partsP_any (s : Value) (l : List It) (u : Value) (ts : List Int) (W0 : World) (h : BagAt W0 s l) (hl : l.length ≤ 9223372036854775807) (ht : IntsAt W0 u ts) (htl : ts.length ≤ 9223372036854775807) :
    Calls Tryz.prog 29 #[s, u] W0 fun e w' => ∃ v, e = .returned (.tuple #[v, .int .i64 (errOf (okParts l ts))]) ∧ Outs W0.heap.size w' v (resParts l ts) ∧ Below W0.heap.size W0 w' := by
  have b0 : Below W0.heap.size W0 (W0.alloc (.cells #[s] 23)) := Below.alloc (Below.refl _ _) (Nat.le_refl _) _
  have cA := areBags_any _ [l] _ (bagsOne h) (by simp) (by simpa using hl)
  have cI : ∀ w, Below W0.heap.size W0 w → Calls Tryz.prog 71 #[u] w fun e w' => e = .returned (.bool (upTo ts ts.length)) ∧ Below w.heap.size w w' := fun w hb => increase_any u ts w (ht.below hb (Nat.le_refl _)) htl
  have cC : l.length ≤ 300 → ts.length ≤ 40 → ∀ w, Below W0.heap.size W0 w → Calls Tryz.prog 72 #[s, u] w fun e w' => ∃ v, e = .returned v ∧ Outs w.heap.size w' v (partsAll ts l) ∧ Below w.heap.size w w' := fun h1 h2 w hb => cutP_any s l u ts w (h.below hb (Nat.le_refl _)) h1 (ht.below hb (Nat.le_refl _)) h2
  rw [show ([l] : List (List It)).all goodB = goodB l by simp] at cA
  obtain ⟨A, c, rfl, -⟩ := id h
  obtain ⟨A', c', rfl, -⟩ := id ht
  obtain ⟨n, hn⟩ : ∃ n, Hid (l.length = n) := ⟨_, Lib.hid rfl⟩
  obtain ⟨m, hm⟩ : ∃ n, Hid (ts.length = n) := ⟨_, Lib.hid rfl⟩
  obtain ⟨q, hq⟩ : ∃ q, Hid (goodB l = q) := ⟨_, Lib.hid rfl⟩
  obtain ⟨r, hr⟩ : ∃ r, Hid (upTo ts ts.length = r) := ⟨_, Lib.hid rfl⟩
  have hok : Hid (okParts l ts = (q && (decide (ts.length ≤ 40) && r))) := Lib.hid (by unfold okParts; rw [hq.out, hr.out])
  simp only [hr.out, hq.out] at cA cI
  simp only [hn.out, hm.out] at cA cI cC b0 htl ⊢
  clear h ht hl
  have bad : okParts l ts = false → ∀ w, Outs W0.heap.size w (.slice none 0 0) (resParts l ts) := fun e w => by unfold resParts; rw [e, if_neg (by decide)]; exact Outs.nil _ _
  have Hbad := Lib.hid bad
  clear bad
  cases q with
  | false =>
    have hno : Hid (okParts l ts = false) := Lib.hid (by rw [hok.out]; rfl)
    go_enter Tryz.func29, Tryz.ntmps29
    go_wp2_with fail
    refine cA.mono ?_
    rintro e w1 ⟨rfl, b1⟩
    go_wp2
    go_ret2
    exact ⟨_, by rw [hno.out]; rfl, Hbad.out hno.out _, b0.trans (b1.mono b0.size)⟩
  | true =>
    by_cases h40 : m ≤ 40
    · have h40b : decide ((40 : Int) < m) = false := decide_eq_false (by omega)
      cases r with
      | false =>
        have hno : Hid (okParts l ts = false) := Lib.hid (by rw [hok.out]; simp)
        go_enter Tryz.func29, Tryz.ntmps29
        go_wp2_with fail
        refine cA.mono ?_
        rintro e w1 ⟨rfl, b1⟩
        have b01 := b0.trans (b1.mono b0.size)
        go_wp2_with fail
        refine (cI _ b01).mono ?_
        rintro e w2 ⟨rfl, b2⟩
        go_wp2
        go_ret2
        exact ⟨_, by rw [hno.out]; rfl, Hbad.out hno.out _, b01.trans (b2.mono b01.size)⟩
      | true =>
        have hyes : Hid (okParts l ts = true) := Lib.hid (by rw [hok.out, decide_eq_true (by have := hm.out; omega)]; rfl)
        have cD := cC (by rw [← hn.out]; exact goodB_len hq.out) h40
        go_enter Tryz.func29, Tryz.ntmps29
        go_wp2_with fail
        refine cA.mono ?_
        rintro e w1 ⟨rfl, b1⟩
        have b01 := b0.trans (b1.mono b0.size)
        go_wp2_with fail
        refine (cI _ b01).mono ?_
        rintro e w2 ⟨rfl, b2⟩
        have b02 := b01.trans (b2.mono b01.size)
        go_wp2_with fail
        refine (cD _ b02).mono ?_
        rintro e w3 ⟨v, rfl, ho, b3⟩
        go_wp2
        go_ret2
        refine ⟨_, by rw [hyes.out]; rfl, ?_, b02.trans (b3.mono b02.size)⟩
        unfold resParts
        rw [hyes.out, if_pos rfl]
        obtain ⟨vs, o1, o2, o3⟩ := ho
        exact ⟨vs, o1, own_base o2 b02.size, fun i s l hs hl => own_base (o3 i s l hs hl) b02.size⟩
    · have h40b : decide ((40 : Int) < m) = true := decide_eq_true (by omega)
      have hno : Hid (okParts l ts = false) := Lib.hid (by rw [hok.out, decide_eq_false (by have := hm.out; omega)]; simp)
      go_enter Tryz.func29, Tryz.ntmps29
      go_wp2_with fail
      refine cA.mono ?_
      rintro e w1 ⟨rfl, b1⟩
      go_wp2
      go_ret2
      exact ⟨_, by rw [hno.out]; rfl, Hbad.out hno.out _, b0.trans (b1.mono b0.size)⟩
end Go.Proofs.YtimlgclejaoboaaGreatDoor
