/- The mathematics of the ways of spans, and of chains. -/
namespace Go.WayM

abbrev Sp := Int × Int

/-- The way of one formed span to another one. -/
def wl (a b c d : Int) : Int :=
  if a = c then (if b = d then 7 else if b < d then 4 else 10)
  else if a < c then (if b < c then 1 else if b = c then 2 else if b < d then 3 else if b = d then 8 else 9)
  else (if d < a then 13 else if d = a then 12 else if b < d then 5 else if b = d then 6 else 11)

def W (a b : Sp) : Int := wl a.1 a.2 b.1 b.2

theorem wl_bd (a b c d : Int) : 1 ≤ wl a b c d ∧ wl a b c d ≤ 13 := by
  unfold wl
  repeat' split
  all_goals omega

theorem W_bd (a b : Sp) : 1 ≤ W a b ∧ W a b ≤ 13 := wl_bd ..

/-- All spans whose ends are from 0 to less than a number, in order. -/
def row (n i : Nat) : List Sp := (List.range (n - (i + 1))).map fun (k : Nat) => ((i : Int), ((i + 1 + k : Nat) : Int))
def small (n : Nat) : List Sp := (List.range n).flatMap (row n)

def inC (w : Int) (b a : Sp) (l : List Sp) (s : Nat) : Nat := l.foldl (fun s c => if W b c = w then s ||| 2 ^ (W a c).toNat else s) s
def inA (S : List Sp) (v w : Int) (b : Sp) (l : List Sp) (s : Nat) : Nat := l.foldl (fun s a => if W a b = v then inC w b a S s else s) s
def inB (S : List Sp) (v w : Int) (l : List Sp) (s : Nat) : Nat := l.foldl (fun s b => inA S v w b S s) s
def chainN (v w : Int) : Nat := inB (small 6) v w (small 6) 0

theorem inC_bit (w : Int) (b a : Sp) (x : Nat) : ∀ (l : List Sp) (s : Nat), (inC w b a l s).testBit x = (s.testBit x || l.any fun c => decide (W b c = w) && decide ((W a c).toNat = x))
  | [], s => by simp [inC]
  | c :: l, s => by
    have ih := inC_bit w b a x l
    unfold inC at ih ⊢
    rw [List.foldl_cons, ih, List.any_cons]
    by_cases h : W b c = w
    · simp [h, Nat.testBit_or, Nat.testBit_two_pow, Bool.or_assoc]
    · simp [h]

theorem inA_bit (S : List Sp) (v w : Int) (b : Sp) (x : Nat) : ∀ (l : List Sp) (s : Nat), (inA S v w b l s).testBit x = (s.testBit x || l.any fun a => decide (W a b = v) && S.any fun c => decide (W b c = w) && decide ((W a c).toNat = x))
  | [], s => by simp [inA]
  | a :: l, s => by
    have ih := inA_bit S v w b x l
    unfold inA at ih ⊢
    rw [List.foldl_cons, ih, List.any_cons]
    by_cases h : W a b = v
    · rw [if_pos h, inC_bit, Bool.or_assoc]
      simp [h]
    · simp [h]

theorem inB_bit (S : List Sp) (v w : Int) (x : Nat) : ∀ (l : List Sp) (s : Nat), (inB S v w l s).testBit x = (s.testBit x || l.any fun b => S.any fun a => decide (W a b = v) && S.any fun c => decide (W b c = w) && decide ((W a c).toNat = x))
  | [], s => by simp [inB]
  | b :: l, s => by
    have ih := inB_bit S v w x l
    unfold inB at ih ⊢
    rw [List.foldl_cons, ih, List.any_cons, inA_bit, Bool.or_assoc]

theorem or_bd {a b : Nat} (ha : a < 16384) (hb : b < 16384) : a ||| b < 16384 := Nat.or_lt_two_pow (n := 14) ha hb

theorem two_bd (a c : Sp) : 2 ^ (W a c).toNat < 16384 := by
  have h := W_bd a c
  calc 2 ^ (W a c).toNat ≤ 2 ^ 13 := Nat.pow_le_pow_right (by omega) (by omega)
    _ < 16384 := by decide

theorem inC_bd (w : Int) (b a : Sp) : ∀ (l : List Sp) (s : Nat), s < 16384 → inC w b a l s < 16384
  | [], s, h => h
  | c :: l, s, h => by
    have ih := inC_bd w b a l
    unfold inC at ih ⊢
    rw [List.foldl_cons]
    apply ih
    split
    · exact or_bd h (two_bd a c)
    · exact h

theorem inA_bd (S : List Sp) (v w : Int) (b : Sp) : ∀ (l : List Sp) (s : Nat), s < 16384 → inA S v w b l s < 16384
  | [], s, h => h
  | a :: l, s, h => by
    have ih := inA_bd S v w b l
    unfold inA at ih ⊢
    rw [List.foldl_cons]
    apply ih
    split
    · exact inC_bd w b a S s h
    · exact h

theorem inB_bd (S : List Sp) (v w : Int) : ∀ (l : List Sp) (s : Nat), s < 16384 → inB S v w l s < 16384
  | [], s, h => h
  | b :: l, s, h => by
    have ih := inB_bd S v w l
    unfold inB at ih ⊢
    rw [List.foldl_cons]
    exact ih _ (inA_bd S v w b S s h)

/-- Whether a way of the first span to the third one follows. -/
def follows (v w x : Int) : Bool := (small 6).any fun i => (small 6).any fun j => decide (W i j = v) && (small 6).any fun k => decide (W j k = w) && decide (W i k = x)

theorem any_swap {α β : Type} (l : List α) (m : List β) (p : α → β → Bool) : (l.any fun a => m.any fun b => p a b) = (m.any fun b => l.any fun a => p a b) := by
  rw [Bool.eq_iff_iff]
  simp only [List.any_eq_true]
  constructor
  · rintro ⟨a, ha, b, hb, h⟩
    exact ⟨b, hb, a, ha, h⟩
  · rintro ⟨b, hb, a, ha, h⟩
    exact ⟨a, ha, b, hb, h⟩

theorem chain_bit (v w : Int) (x : Nat) : (chainN v w).testBit x = follows v w x := by
  unfold chainN follows
  rw [inB_bit, Nat.zero_testBit, Bool.false_or, any_swap]
  congr 1
  funext a
  congr 1
  funext b
  congr 1
  congr 1
  funext c
  congr 1
  have h := W_bd a c
  rw [decide_eq_decide]
  omega

/-- The chain of two ways. -/
def chainTo (v w : Int) (n : Nat) : List Int := ((List.range n).map fun (k : Nat) => ((k + 1 : Nat) : Int)).filter (follows v w)
def chainL (v w : Int) : List Int := chainTo v w 13

theorem chainTo_succ (v w : Int) (n : Nat) : chainTo v w (n + 1) = chainTo v w n ++ if follows v w (n + 1 : Nat) = true then [((n + 1 : Nat) : Int)] else [] := by
  unfold chainTo
  rw [List.range_succ, List.map_append, List.filter_append]
  congr 1
  simp only [List.map_cons, List.map_nil, List.filter_cons, List.filter_nil]

theorem chainTo_len (v w : Int) (n : Nat) : (chainTo v w n).length ≤ n := by
  unfold chainTo
  have := List.length_filter_le (follows v w) ((List.range n).map fun (k : Nat) => ((k + 1 : Nat) : Int))
  simpa using this

end Go.WayM
