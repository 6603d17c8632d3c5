/- Stage 2's seat: names: which strings are names, both sides. -/
import Derived.Test.YtkdcpnfbpplhdaaDoorTmB
import Derived.Test.YtkdcpnfbpplhdaaDoorTmM
import Derived.ProofKit
import Derived.WalkKit
import Derived.Outline
import Derived.Lib.Hide
import Derived.IntWalk
import Derived.Laws.Rows
import Derived.Deep.QuietTactic
import Derived.BigQuiet
namespace Go.Proofs.YtkdcpnfbpplhdaaDoor
open Go Go.RowKit Go.Ev
set_option maxRecDepth 100000
set_option maxHeartbeats 1000000
def kwB (s : ByteArray) : Bool := kw.any fun k => k == s.toList
def kwA : Array Value := (kw.map fun b => Value.string ⟨b.toArray⟩).toArray
theorem kwA_size : kwA.size = 34 := rfl
theorem load_kw (w : World) (hT : TabsIn tabs w) : (loadVar 84 ⟨0, 0, none⟩).run Tryd.prog w = .ok (.agg kwA) w := by
  obtain ⟨e, fz, h0⟩ := hT (0, kw.map fun b => Value.string ⟨b.toArray⟩) (by simp [tabs])
  exact run_loadVar_row w 0 e 84 kwA fz (.array 34 9) h0 Tryd.underlying84 rfl (by rw [kwA_size]; kernel_rfl)
theorem index_kw (w : World) (k : Nat) (b : List UInt8) (hb : kw[k]? = some b) : (Instr.index 84 (.agg kwA) (.int .i64 k)).run Tryd.prog w = .ok (.string ⟨b.toArray⟩) w := by
  have hk : k < kw.length := (List.getElem?_eq_some_iff.1 hb).1
  have hk34 : k < 34 := hk
  have hp : (part 9 kwA k).run Tryd.prog w = .ok (.string ⟨b.toArray⟩) w := by
    have : kwA[k]? = some (.string ⟨b.toArray⟩) := by simp [kwA, hb]
    simp [part, isAgg, run_underlying Tryd.underlying9, this]
  have hs : (sizeOf 9).run Tryd.prog w = .ok 1 w := by simp [Tryd.sizeOf9]
  simp [Instr.index, asIntOf, run_underlying Tryd.underlying84, hs, hp]
  omega
theorem wpList_load_kw {ops : Array Oper} {rest : List Oper} {o : Oper} {a : Act} {w : World} {Q : Exit → Act → World → Prop} (hg : o.guard = none) (ho : o.op = .load 84 (.global 0)) (hl : (loadVar 84 ⟨0, 0, none⟩).run Tryd.prog w = .ok (.agg kwA) w)
    (h : wpList Tryd.prog ops Q rest (a.put o.dst (.agg kwA)) w) : wpList Tryd.prog ops Q (o :: rest) a w := by
  refine wpList_plain hg fun K' hK' => ?_
  unfold Oper.wp
  simp [execOp, ho, Act.eval, Instr.loadAt, Instr.sureAddr, hl, Result.andThen]
  exact hK' _ _ h
theorem wpList_index_kw {ops : Array Oper} {rest : List Oper} {o : Oper} {a : Act} {w : World} {Q : Exit → Act → World → Prop} (x i : Operand) (k : Nat) (b : List UInt8) (hg : o.guard = none) (ho : o.op = .index 84 x i) (hx : a.eval x = .agg kwA) (hi : a.eval i = .int .i64 k) (hb : kw[k]? = some b)
    (h : wpList Tryd.prog ops Q rest (a.put o.dst (.string ⟨b.toArray⟩)) w) : wpList Tryd.prog ops Q (o :: rest) a w := by
  refine wpList_plain hg fun K' hK' => ?_
  have := index_kw w k b hb
  unfold Oper.wp
  simp [execOp, ho, hx, hi, this, Result.andThen]
  exact hK' _ _ h
theorem isKeyword_any (s : ByteArray) (w : World) (hT : TabsIn tabs w) : Calls Tryd.prog 26 #[.string s] w fun e w' => e = .returned (.bool (kwB s)) ∧ w' = w := by
  have hl := load_kw w hT
  clear hT
  go_enter Tryd.func26, Tryd.ntmps26
  go_wp2_with (refine wpList_load_kw rfl rfl hl ?_)
  go_wp2
  go_loop [6] (fun u6 => ∃ k : Nat, k ≤ 34 ∧ u6 = .int .i64 k ∧ Hid ((kw.take k).any (fun c => c == s.toList) = false)) (fun u6 => 34 - (intOf u6).toNat)
  case atStart => exact ⟨0, by omega, rfl, Lib.hid rfl⟩
  case round =>
    obtain ⟨k, hk, rfl, hno⟩ := hrel
    by_cases hlt : k < 34
    · obtain ⟨b, hb⟩ : ∃ b, kw[k]? = some b := ⟨_, List.getElem?_eq_getElem hlt⟩
      have HB := Lib.hid hb
      clear hb
      by_cases hq : (b == s.toList) = true
      · go_wp2_with (refine wpList_index_kw (.tmp 5) (.tmp 6) k b rfl rfl rfl rfl HB.out ?_)
        go_ret
        refine ⟨?_, rfl⟩
        have : kwB s = true := List.any_eq_true.2 ⟨b, List.mem_of_getElem? HB.out, hq⟩
        rw [this]
        rfl
      · have hq0 : (b == s.toList) = false := by simpa using hq
        clear hq
        go_wp2_with (refine wpList_index_kw (.tmp 5) (.tmp 6) k b rfl rfl rfl rfl HB.out ?_)
        go_round
        case rel =>
          refine ⟨k + 1, by omega, by go_num, Lib.hid ?_⟩
          rw [List.take_add_one, List.any_append, hno.out, HB.out]
          simp [hq0]
        case measure => simp [intOf]; omega
    · have hkn : k = 34 := by omega
      have HK := Lib.hid hkn
      clear hkn
      go_wp2
      go_ret
      refine ⟨?_, rfl⟩
      have := hno.out
      rw [HK.out, show (34 : Nat) = kw.length from rfl, List.take_length] at this
      rw [show kwB s = false from this]
      rfl
def letterB (b : UInt8) : Bool := decide (97 ≤ b.toNat) && decide (b.toNat ≤ 122)
def lettersB (s : ByteArray) : Bool := s.toList.all letterB
/-- Whether a string is a name. -/
def nameB (s : ByteArray) : Bool := decide (1 ≤ s.size) && (decide (s.size ≤ 8) && (lettersB s && !kwB s))
end Go.Proofs.YtkdcpnfbpplhdaaDoor
