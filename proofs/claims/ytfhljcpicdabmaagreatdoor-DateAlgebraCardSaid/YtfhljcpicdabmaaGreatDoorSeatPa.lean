/- The seat: nets: how they lie, and which are formed, on both sides. -/
import Derived.Test.YtfhljcpicdabmaaGreatDoorSeatLg
import Derived.Test.YtfhljcpicdabmaaGreatDoorPlaceM
namespace Go.Proofs.YtfhljcpicdabmaaGreatDoor
open Go Go.RowKit Go.Ev Go.WayM
set_option maxRecDepth 100000
set_option maxHeartbeats 1000000
/-- A row of numbers reads as a list. -/
def IntsAt (w : World) (s : Value) (xs : List Int) : Prop := ∃ A c, s = .slice A xs.length c ∧ (0 < xs.length → ∃ g o, A = some ⟨g, o, none⟩ ∧ g < w.heap.size ∧ ∀ (i : Nat) (x : Int), xs[i]? = some x → w.cell? ⟨g, o + i, none⟩ = some (.int .i64 x))
def NetAt (w : World) (s : Value) (net : Net) : Prop := ∃ A c, s = .slice A net.length c ∧ (0 < net.length → ∃ g o, A = some ⟨g, o, none⟩ ∧ g < w.heap.size ∧ ∀ (i : Nat) (row : List Int), net[i]? = some row → ∃ v, w.cell? ⟨g, o + i, none⟩ = some v ∧ IntsAt w v row)
theorem IntsAt.below {w w' : World} {B : Nat} {s : Value} {xs : List Int} (h : IntsAt w s xs) (hb : Below B w w') (hB : w.heap.size ≤ B) : IntsAt w' s xs := by
  obtain ⟨A, c, rfl, hc⟩ := h
  refine ⟨A, c, rfl, fun hn => ?_⟩
  obtain ⟨g, o, rfl, hg, hx⟩ := hc hn
  exact ⟨g, o, rfl, by have := hb.size; omega, fun i x hi => (hb.cell (p := ⟨g, o + i, none⟩) (by show g < B; omega)).trans (hx i x hi)⟩
theorem NetAt.below {w w' : World} {B : Nat} {s : Value} {net : Net} (h : NetAt w s net) (hb : Below B w w') (hB : w.heap.size ≤ B) : NetAt w' s net := by
  obtain ⟨A, c, rfl, hc⟩ := h
  refine ⟨A, c, rfl, fun hn => ?_⟩
  obtain ⟨g, o, rfl, hg, hx⟩ := hc hn
  refine ⟨g, o, rfl, by have := hb.size; omega, fun i row hi => ?_⟩
  obtain ⟨v, hv, hr⟩ := hx i row hi
  exact ⟨v, (hb.cell (p := ⟨g, o + i, none⟩) (by show g < B; omega)).trans hv, hr.below hb hB⟩
def setB (x : Int) : Bool := decide (0 ≤ x ∧ x < 16384 ∧ x % 2 = 0)
def rowB (n : Nat) (row : List Int) : Bool := decide (row.length = n) && row.all setB
def netB (net : Net) : Bool := decide (net.length ≤ 4) && net.all (rowB net.length)
theorem netB_len {net : Net} (h : ¬ net.length ≤ 4) : netB net = false := by
  unfold netB; rw [decide_eq_false h, Bool.false_and]
theorem netB_row {net : Net} {i : Nat} {row : List Int} (h : net[i]? = some row) (hr : ¬ row.length = net.length) : netB net = false := by
  have hb : rowB net.length row = false := by unfold rowB; rw [decide_eq_false hr, Bool.false_and]
  have : net.all (rowB net.length) = false := List.all_eq_false.2 ⟨row, List.mem_of_getElem? h, by rw [hb]; exact Bool.false_ne_true⟩
  unfold netB; rw [this, Bool.and_false]
theorem netB_set {net : Net} {i j : Nat} {row : List Int} {x : Int} (h : net[i]? = some row) (hx : row[j]? = some x) (hs : setB x = false) : netB net = false := by
  have h1 : row.all setB = false := List.all_eq_false.2 ⟨x, List.mem_of_getElem? hx, by rw [hs]; exact Bool.false_ne_true⟩
  have hb : rowB net.length row = false := by unfold rowB; rw [h1, Bool.and_false]
  have : net.all (rowB net.length) = false := List.all_eq_false.2 ⟨row, List.mem_of_getElem? h, by rw [hb]; exact Bool.false_ne_true⟩
  unfold netB; rw [this, Bool.and_false]
theorem rowB_mk {n : Nat} {row : List Int} (h : row.length = n) (hs : ∀ (j : Nat) (x : Int), row[j]? = some x → setB x = true) : rowB n row = true := by
  unfold rowB
  rw [decide_eq_true h, Bool.true_and, List.all_eq_true]
  intro x hx
  obtain ⟨j, hj⟩ := List.getElem?_of_mem hx
  exact hs j x hj
theorem netB_mk {net : Net} (h : net.length ≤ 4) (hs : ∀ (i : Nat) (row : List Int), net[i]? = some row → rowB net.length row = true) : netB net = true := by
  unfold netB
  rw [decide_eq_true h, Bool.true_and, List.all_eq_true]
  intro x hx
  obtain ⟨j, hj⟩ := List.getElem?_of_mem hx
  exact hs j x hj
/-- The bits from the first one on up to the thirteenth. -/
theorem nat_bits (n : Nat) (hn : n < 2 ^ 64) : (n &&& (2 ^ 64 - 1 - 16382) = 0) ↔ n < 16384 ∧ n % 2 = 0 := by
  have hc : ∀ i, i < 64 → (2 ^ 64 - 1 - 16382).testBit i = !decide (1 ≤ i ∧ i < 14) := by decide
  constructor
  · intro h
    have hb : ∀ i, i < 64 → ¬ (1 ≤ i ∧ i < 14) → n.testBit i = false := fun i hi hno => by
      have := congrArg (fun x => x.testBit i) h
      simp only [Nat.testBit_and, Nat.zero_testBit, hc i hi, decide_eq_false hno, Bool.not_false, Bool.and_true] at this
      exact this
    refine ⟨?_, ?_⟩
    · refine Nat.lt_pow_two_of_testBit (n := 14) n fun i hi => ?_
      by_cases h64 : i < 64
      · exact hb i h64 (by omega)
      · exact Nat.testBit_lt_two_pow (Nat.lt_of_lt_of_le hn (Nat.pow_le_pow_right (by omega) (by omega)))
    · have := hb 0 (by omega) (by omega)
      rw [Nat.testBit_zero] at this
      have := of_decide_eq_false this
      omega
  · rintro ⟨h1, h2⟩
    refine Nat.eq_of_testBit_eq fun i => ?_
    rw [Nat.testBit_and, Nat.zero_testBit]
    by_cases h64 : i < 64
    · rw [hc i h64]
      by_cases hi : 1 ≤ i ∧ i < 14
      · rw [decide_eq_true hi]; simp
      · rw [decide_eq_false hi, Bool.not_false, Bool.and_true]
        by_cases h0 : i = 0
        · subst h0; rw [Nat.testBit_zero]; exact decide_eq_false (by omega)
        · exact Nat.testBit_lt_two_pow (Nat.lt_of_lt_of_le h1 (show 2 ^ 14 ≤ 2 ^ i from Nat.pow_le_pow_right (by omega) (by omega)))
    · rw [Nat.testBit_lt_two_pow (Nat.lt_of_lt_of_le hn (Nat.pow_le_pow_right (by omega) (by omega)))]
      rfl
theorem andNot_val (x : Int) (h1 : -9223372036854775808 ≤ x) (h2 : x ≤ 9223372036854775807) : (bits BinOp.andNot IntKind.i64 x 16382 == 0) = setB x := by
  have hn : (x % 2 ^ 64).toNat < 2 ^ 64 := by omega
  have e : bits BinOp.andNot IntKind.i64 x 16382 = IntKind.wrap .i64 ((((x % 2 ^ 64).toNat &&& (2 ^ 64 - 1 - 16382)) : Nat) : Int) := by
    show IntKind.wrap .i64 (((BitVec.ofInt 64 x &&& ~~~BitVec.ofInt 64 ((16382 : Nat) : Int)).toNat : Nat) : Int) = _
    rw [BitVec.ofInt_natCast, BitVec.toNat_and, BitVec.toNat_not, BitVec.toNat_ofNat, BitVec.toNat_ofInt]
    rfl
  have hle : ((x % 2 ^ 64).toNat &&& (2 ^ 64 - 1 - 16382)) < 2 ^ 64 := Nat.and_lt_two_pow _ (by decide)
  have hb := nat_bits (x % 2 ^ 64).toNat hn
  rw [e]
  generalize ((x % 2 ^ 64).toNat &&& (2 ^ 64 - 1 - 16382)) = m at hle hb ⊢
  have hw : IntKind.wrap .i64 (m : Int) = 0 ↔ m = 0 := by
    rw [IntKind.wrap_i64]
    omega
  unfold setB
  rw [Bool.eq_iff_iff, beq_iff_eq, hw, hb, decide_eq_true_eq]
  omega
/-- Each number of a net is one of its kind. -/
def NetI (net : Net) : Prop := ∀ row ∈ net, ∀ x ∈ row, -9223372036854775808 ≤ x ∧ x ≤ 9223372036854775807
theorem NetI.at {net : Net} (h : NetI net) {i j : Nat} {row : List Int} {x : Int} (hr : net[i]? = some row) (hx : row[j]? = some x) : -9223372036854775808 ≤ x ∧ x ≤ 9223372036854775807 :=
  h row (List.mem_of_getElem? hr) x (List.mem_of_getElem? hx)
def UpTo (n : Nat) (P : Nat → Prop) (u : Value) : Prop := ∃ k : Nat, k ≤ n ∧ u = .int .i64 k ∧ ∀ i, i < k → P i
theorem net_row {net : Net} {k n : Nat} (hn : net.length = n) (h : k < n) : ∃ row, net[k]? = some row := ⟨_, List.getElem?_eq_getElem (by omega)⟩
theorem isNet_any (s : Value) (net : Net) (w : World) (h : NetAt w s net) (hI : Hid (NetI net)) : Calls Tryz.prog 118 #[s] w fun e w' => e = .returned (.bool (netB net)) ∧ w = w' := by
  obtain ⟨A, c, rfl, r1⟩ := h
  obtain ⟨n, hn⟩ : ∃ n, Hid (net.length = n) := ⟨_, Lib.hid rfl⟩
  rw [hn.out] at r1 ⊢
  by_cases h4 : n ≤ 4
  · go_enter Tryz.func118, Tryz.ntmps118
    go_wp2
    go_loop [12] (fun u12 => UpTo n (fun i => ∀ row, net[i]? = some row → rowB n row = true) u12) (fun u12 => n - (intOf u12).toNat)
    case atStart => exact ⟨0, by omega, rfl, fun i hi => by omega⟩
    case round =>
      obtain ⟨k, hk, rfl, hall⟩ := hrel
      have HA := Lib.hid hall
      clear hall
      by_cases hlt : k < n
      · obtain ⟨g, o, rfl, hg, d1⟩ := r1 (by omega)
        obtain ⟨row, hrow⟩ := net_row hn.out hlt
        obtain ⟨v, hv, A', c', rfl, r2⟩ := d1 k row hrow
        have HR := Lib.hid hrow
        clear hrow d1
        obtain ⟨m, hm⟩ : ∃ m, Hid (row.length = m) := ⟨_, Lib.hid rfl⟩
        rw [hm.out] at r2 hv
        by_cases hmn : m = n
        · subst hmn
          go_wp2
          go_loop [23] (fun u23 => UpTo m (fun j => ∀ x, row[j]? = some x → setB x = true) u23) (fun u23 => m - (intOf u23).toNat)
          case atStart => exact ⟨0, by omega, rfl, fun i hi => by omega⟩
          case round =>
            obtain ⟨j, hj, rfl, hset⟩ := hrel
            have HS := Lib.hid hset
            clear hset
            by_cases hlj : j < m
            · obtain ⟨g', o', rfl, hg', d2⟩ := r2 (by omega)
              obtain ⟨x, hx⟩ : ∃ x, row[j]? = some x := ⟨_, List.getElem?_eq_getElem (by have := hm.out; omega)⟩
              have e2 := d2 j x hx
              have hb := andNot_val x (hI.out.at HR.out hx).1 (hI.out.at HR.out hx).2
              have HX := Lib.hid hx
              clear hx d2
              cases hsx : setB x with
              | true =>
                rw [hsx] at hb
                have HSX := Lib.hid hsx
                clear hsx
                have hb' : bits BinOp.andNot IntKind.i64 x 16382 = 0 := by simpa using hb
                clear hb
                go_wp2
                go_round
                case rel =>
                  refine ⟨j + 1, by omega, by go_num, fun i hi y hy => ?_⟩
                  by_cases hij : i = j
                  · subst hij; rw [HX.out] at hy; cases hy; exact HSX.out
                  · exact HS.out i (by omega) y hy
                case measure => simp [intOf]; omega
              | false =>
                rw [hsx] at hb
                have HSX := Lib.hid hsx
                clear hsx
                go_wp2
                go_ret
                exact ⟨ret_b (netB_set HR.out HX.out HSX.out).symm, rfl⟩
            · have hjm : j = m := by omega
              have HJ := Lib.hid hjm
              clear hjm
              go_wp2
              go_round
              case rel =>
                refine ⟨k + 1, by omega, by go_num, fun i hi y hy => ?_⟩
                by_cases hik : i = k
                · subst hik; rw [HR.out] at hy; cases hy
                  exact rowB_mk hm.out fun i x hx => HS.out i (by have := (List.getElem?_eq_some_iff.1 hx).1; have := hm.out; have := HJ.out; omega) x hx
                · exact HA.out i (by omega) y hy
              case measure => simp [intOf]; omega
        · have hne : ((m : Int) == n) = false := by simp; omega
          go_wp2
          go_ret
          exact ⟨ret_b (netB_row HR.out (by rw [hm.out, hn.out]; exact hmn)).symm, rfl⟩
      · go_wp2
        go_ret
        exact ⟨ret_b (netB_mk (by rw [hn.out]; exact h4) fun i row hr => by rw [hn.out]; exact HA.out i (by have := (List.getElem?_eq_some_iff.1 hr).1; have := hn.out; omega) row hr).symm, rfl⟩
  · go_enter Tryz.func118, Tryz.ntmps118
    go_wp2
    go_ret
    exact ⟨ret_b (netB_len (by rw [hn.out]; exact h4)).symm, rfl⟩
end Go.Proofs.YtfhljcpicdabmaaGreatDoor
