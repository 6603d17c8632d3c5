/- Stage 2's seat: the first word that is none of some, the specification's side. -/
import Derived.Test.YtkdcpnfbpplhdaaDoorTmF
namespace Go.Proofs.YtkdcpnfbpplhdaaDoor
open Go Go.RowKit Go.Ev
open Go.TmM (wordR)
set_option maxRecDepth 100000
set_option maxHeartbeats 1000000
theorem word_any (n : Nat) : n ≤ 4000000 → ∀ w, Calls Tryd.prog 30 #[.int .i64 (n : Int)] w (WordIs n w) := by
  induction n using Nat.strongRecOn with
  | ind n ih =>
    intro hn w
    cases n with
    | zero => exact word_zero w
    | succ m => exact word_step m w (by omega) fun w => ih (m / 26) (by omega) (by omega) w
theorem wordS_list (n : Nat) : (wordS n).toList = (wordR n).reverse := by
  rw [ByteArray.toList_eq]
  show (wordR n).reverse.toArray.toList = _
  simp
/-- Whether the word with a number is a name, and none of some. -/
def goodB (l : List ByteArray) (n : Nat) : Bool := nameB (wordS n) && !hasB l (wordS n)
theorem letters_word (n : Nat) : lettersB (wordS n) = true := by
  unfold lettersB
  rw [wordS_list, List.all_eq_true]
  intro b hb
  have := TmM.wordR_letters n b (List.mem_reverse.1 hb)
  unfold letterB
  simp [this.1, this.2]
theorem wordR_pos (n : Nat) (h : 1 ≤ n) : 1 ≤ (wordR n).length := by
  cases n with
  | zero => omega
  | succ m => rw [TmM.wordR_succ, List.length_cons]; omega
theorem bad_in {l : List ByteArray} {n : Nat} (h1 : 1 ≤ n) (hn : n ≤ 4000000) (hb : goodB l n = false) : wordR n ∈ (l.map fun s => s.toList.reverse) ++ kw.map List.reverse := by
  have hl := TmM.wordR_len n hn
  have hp := wordR_pos n h1
  have hs := wordS_size n
  unfold goodB nameB at hb
  rw [letters_word, decide_eq_true (by omega : 1 ≤ (wordS n).size), decide_eq_true (by omega : (wordS n).size ≤ 8), Bool.true_and, Bool.true_and, Bool.true_and] at hb
  rw [List.mem_append]
  cases hk : kwB (wordS n) with
  | true =>
    right
    unfold kwB at hk
    obtain ⟨k, hk1, hk2⟩ := List.any_eq_true.1 hk
    have : k = (wordR n).reverse := by rw [← wordS_list]; exact eq_of_beq hk2
    exact List.mem_map.2 ⟨k, hk1, by rw [this, List.reverse_reverse]⟩
  | false =>
    left
    rw [hk, Bool.not_false, Bool.true_and, Bool.not_eq_false'] at hb
    unfold hasB at hb
    obtain ⟨s, hs1, hs2⟩ := List.any_eq_true.1 hb
    have : s.toList = (wordR n).reverse := by rw [← wordS_list]; exact eq_of_beq hs2
    exact List.mem_map.2 ⟨s, hs1, by rw [this, List.reverse_reverse]⟩
/-- The number of the first one. -/
def FirstIs (l : List ByteArray) (N : Nat) : Prop := 1 ≤ N ∧ N ≤ l.length + 35 ∧ goodB l N = true ∧ ∀ j, 1 ≤ j → j < N → goodB l j = false
theorem least_of (p : Nat → Bool) : ∀ (k : Nat), (∃ n, n ≤ k ∧ p n = true) → ∃ n, n ≤ k ∧ p n = true ∧ ∀ j, j < n → p j = false
  | 0, ⟨n, hn, hp⟩ => ⟨n, hn, hp, fun j hj => by omega⟩
  | k + 1, ⟨n, hn, hp⟩ => by
    by_cases h : ∃ m, m ≤ k ∧ p m = true
    · obtain ⟨m, h1, h2, h3⟩ := least_of p k h
      exact ⟨m, by omega, h2, h3⟩
    · have : n = k + 1 := by
        rcases Nat.lt_or_ge k n with h' | h'
        · omega
        · exact absurd ⟨n, h', hp⟩ h
      subst this
      exact ⟨k + 1, Nat.le_refl _, hp, fun j hj => by
        cases hj' : p j with
        | false => rfl
        | true => exact absurd ⟨j, by omega, hj'⟩ h⟩
theorem first_ex (l : List ByteArray) (hl : l.length ≤ 3000000) : ∃ N, FirstIs l N := by
  have hex : ∃ n, n ≤ l.length + 34 ∧ goodB l (n + 1) = true := by
    by_cases h : ∃ n, n ≤ l.length + 34 ∧ goodB l (n + 1) = true
    · exact h
    · have := TmM.pigeon (l.length + 35) (fun i => wordR (i + 1)) ((l.map fun s => s.toList.reverse) ++ kw.map List.reverse) (fun i j _ _ e => by
        have := TmM.wordR_inj e
        omega) fun i hi => bad_in (by omega) (by omega) (by
          cases hg : goodB l (i + 1) with
          | false => rfl
          | true => exact absurd ⟨i, by omega, hg⟩ h)
      rw [List.length_append, List.length_map, List.length_map, show kw.length = 34 from rfl] at this
      omega
  obtain ⟨n, h1, h2, h3⟩ := least_of (fun n => goodB l (n + 1)) _ hex
  exact ⟨n + 1, by omega, by omega, h2, fun j hj1 hj2 => by
    have := h3 (j - 1) (by omega)
    rwa [show j - 1 + 1 = j by omega] at this⟩
theorem FirstIs.one {l : List ByteArray} {N M : Nat} (h : FirstIs l N) (h' : FirstIs l M) : N = M := by
  rcases Nat.lt_trichotomy N M with hlt | he | hgt
  · have := h'.2.2.2 N h.1 hlt
    rw [h.2.2.1] at this
    cases this
  · exact he
  · have := h.2.2.2 M h'.1 hgt
    rw [h'.2.2.1] at this
    cases this
theorem refFresh_any (v : Value) (l : List ByteArray) (N : Nat) (W0 : World) (h : StrAt W0 v l) (hl : l.length ≤ 3000000) (hN : FirstIs l N) : Calls Tryd.prog 10 #[v] W0 fun e w' => e = .returned (.string (wordS N)) ∧ Below W0.heap.size W0 w' := by
  have hN2 : N ≤ 3000035 := by have := hN.2.1; omega
  have hN1 := hN.1
  have HN := Lib.hid hN
  have HS := Lib.hid h
  obtain ⟨A, c, rfl, _⟩ := id h
  clear h hN
  go_enter Tryd.func10, Tryd.ntmps10
  go_wp2
  go_loopw [3] (fun u3 wr => ∃ n : Nat, 1 ≤ n ∧ n ≤ N ∧ u3 = .int .i64 n ∧ Below W0.heap.size W0 wr) (fun u3 _ => N + 1 - (intOf u3).toNat)
  case atStart => exact ⟨1, by omega, by omega, rfl, Below.refl _ _⟩
  case round =>
    obtain ⟨n, h1, h2, rfl, hb⟩ := hrel
    have c30 := word_any n (by omega) wr
    go_wp2_with fail
    refine c30.mono ?_
    rintro e w1 ⟨rfl, k1⟩
    have b1 := hb.trans (k1.mono hb.size)
    have hsz : (wordS n).size ≤ 9223372036854775807 := by
      have := wordS_size n
      have := TmM.wordR_len n (by omega)
      omega
    have c8 := refName_any (wordS n) w1 hsz
    by_cases hn : n = N
    · subst hn
      have hg := HN.out.2.2.1
      unfold goodB at hg
      rw [Bool.and_eq_true, Bool.not_eq_true'] at hg
      rw [hg.1] at c8
      go_wp2_with fail
      refine c8.mono ?_
      rintro e w2 ⟨rfl, k2⟩
      have b2 := b1.trans (k2.mono b1.size)
      have ch := has_any _ l (wordS n) w2 (HS.out.below b2 (Nat.le_refl _)) (by omega)
      rw [hg.2] at ch
      clear hg
      go_wp2_with fail
      refine ch.mono ?_
      rintro e w3 ⟨rfl, rfl⟩
      go_wp2
      go_ret
      exact ⟨rfl, b2⟩
    · have hg := HN.out.2.2.2 n h1 (by omega)
      unfold goodB at hg
      cases hnm : nameB (wordS n) with
      | true =>
        rw [hnm] at c8 hg
        rw [Bool.true_and, Bool.not_eq_false'] at hg
        go_wp2_with fail
        refine c8.mono ?_
        rintro e w2 ⟨rfl, k2⟩
        have b2 := b1.trans (k2.mono b1.size)
        have ch := has_any _ l (wordS n) w2 (HS.out.below b2 (Nat.le_refl _)) (by omega)
        rw [hg] at ch
        clear hg hnm
        go_wp2_with fail
        refine ch.mono ?_
        rintro e w3 ⟨rfl, rfl⟩
        go_wp2
        go_roundw
        case rel => exact ⟨n + 1, by omega, by omega, by go_num, b2⟩
        case measure => simp [intOf]; omega
      | false =>
        rw [hnm] at c8
        clear hg hnm
        go_wp2_with fail
        refine c8.mono ?_
        rintro e w2 ⟨rfl, k2⟩
        have b2 := b1.trans (k2.mono b1.size)
        go_wp2
        go_roundw
        case rel => exact ⟨n + 1, by omega, by omega, by go_num, b2⟩
        case measure => simp [intOf]; omega
end Go.Proofs.YtkdcpnfbpplhdaaDoor
