/- Mathematics of the words of letters: the one behind another, the number of one, and the first that is none of some. -/
namespace Go.TmM

/-- The word with a number, its last letter first. -/
def wordR : Nat → List UInt8
  | 0 => []
  | n + 1 => UInt8.ofNat (97 + n % 26) :: wordR (n / 26)
termination_by n => n
decreasing_by omega

/-- The word behind another one, last letters first. -/
def folR : List UInt8 → List UInt8
  | [] => [97]
  | b :: r => if b < 122 then (b + 1) :: r else 97 :: folR r

theorem letter_nat (k : Nat) (h : k < 26) : (UInt8.ofNat (97 + k)).toNat = 97 + k := by
  rw [UInt8.toNat_ofNat']
  exact Nat.mod_eq_of_lt (by omega)

theorem wordR_succ (n : Nat) : wordR (n + 1) = UInt8.ofNat (97 + n % 26) :: wordR (n / 26) := by rw [wordR]

theorem folR_word (n : Nat) : folR (wordR n) = wordR (n + 1) := by
  induction n using Nat.strongRecOn with
  | ind n ih =>
    cases n with
    | zero => rw [wordR_succ, wordR]; rfl
    | succ m =>
      rw [wordR_succ (m + 1), wordR_succ m]
      unfold folR
      have hk := letter_nat (m % 26) (Nat.mod_lt _ (by decide))
      by_cases h : m % 26 < 25
      · have hlt : UInt8.ofNat (97 + m % 26) < 122 := by
          rw [UInt8.lt_iff_toNat_lt, hk]
          show 97 + m % 26 < 122
          omega
        rw [if_pos hlt]
        have e1 : (m + 1) % 26 = m % 26 + 1 := by omega
        have e2 : (m + 1) / 26 = m / 26 := by omega
        rw [e1, e2]
        congr 1
        rw [show 97 + (m % 26 + 1) = (97 + m % 26) + 1 by omega, UInt8.ofNat_add (97 + m % 26) 1]
        rfl
      · have hlt : ¬ UInt8.ofNat (97 + m % 26) < 122 := by
          rw [UInt8.lt_iff_toNat_lt, hk]
          show ¬ 97 + m % 26 < 122
          omega
        rw [if_neg hlt, ih (m / 26) (by omega)]
        have e1 : (m + 1) % 26 = 0 := by omega
        have e2 : (m + 1) / 26 = m / 26 + 1 := by omega
        rw [e1, e2]
        rfl

/-- The number of a word. -/
def idxR : List UInt8 → Nat
  | [] => 0
  | b :: r => (b.toNat - 97) + 1 + 26 * idxR r

theorem idxR_word (n : Nat) : idxR (wordR n) = n := by
  induction n using Nat.strongRecOn with
  | ind n ih =>
    cases n with
    | zero => rw [wordR]; rfl
    | succ m =>
      rw [wordR_succ, idxR, letter_nat _ (Nat.mod_lt _ (by decide)), ih (m / 26) (by omega)]
      omega

theorem wordR_inj {n m : Nat} (h : wordR n = wordR m) : n = m := by
  have := congrArg idxR h
  rwa [idxR_word, idxR_word] at this

theorem wordR_letters (n : Nat) : ∀ b ∈ wordR n, 97 ≤ b.toNat ∧ b.toNat ≤ 122 := by
  induction n using Nat.strongRecOn with
  | ind n ih =>
    cases n with
    | zero => rw [wordR]; intro b hb; cases hb
    | succ m =>
      rw [wordR_succ]
      intro b hb
      rcases List.mem_cons.1 hb with rfl | hb
      · have := letter_nat (m % 26) (Nat.mod_lt _ (by decide))
        omega
      · exact ih (m / 26) (by omega) b hb

theorem wordR_len (n : Nat) (h : n ≤ 4000000) : (wordR n).length ≤ 5 := by
  have step : ∀ (B C k : Nat), (∀ m, m ≤ C → (wordR m).length ≤ k) → B ≤ 26 * C + 26 → ∀ m, m ≤ B → (wordR m).length ≤ k + 1 := fun B C k hC hB m hm => by
    cases m with
    | zero => rw [wordR]; exact Nat.zero_le _
    | succ m =>
      rw [wordR_succ, List.length_cons]
      have := hC (m / 26) (by omega)
      omega
  have h0 : ∀ m, m ≤ 0 → (wordR m).length ≤ 0 := fun m hm => by
    have : m = 0 := by omega
    subst this
    rw [wordR]
    exact Nat.le_refl _
  exact step 4000000 200000 4 (step 200000 8000 3 (step 8000 400 2 (step 400 20 1 (step 20 0 0 h0 (by omega)) (by omega)) (by omega)) (by omega)) (by omega) n h

/-- Different ones that are all in a list are no more than it has. -/
theorem pigeon {α : Type} [DecidableEq α] : ∀ (k : Nat) (f : Nat → α) (L : List α), (∀ i j, i < k → j < k → f i = f j → i = j) → (∀ i, i < k → f i ∈ L) → k ≤ L.length
  | 0, _, _, _, _ => Nat.zero_le _
  | k + 1, f, L, hi, hm => by
    have h1 := hm k (by omega)
    have h2 := pigeon k f (L.erase (f k)) (fun i j hi' hj' e => hi i j (by omega) (by omega) e) fun i hik => by
      refine (List.mem_erase_of_ne fun e => ?_).2 (hm i (by omega))
      have := hi i k (by omega) (by omega) e
      omega
    rw [List.length_erase_of_mem h1] at h2
    have := List.length_pos_of_mem h1
    omega

end Go.TmM
