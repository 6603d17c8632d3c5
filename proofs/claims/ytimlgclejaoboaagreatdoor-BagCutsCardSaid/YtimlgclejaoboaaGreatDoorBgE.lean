/- Stage 4's seat: the interpreter's environment for this program. -/
import Derived.Test.YtimlgclejaoboaaGreatDoorEvSum
import Derived.Test.YtimlgclejaoboaaGreatDoorBgI
namespace Go.Proofs.YtimlgclejaoboaaGreatDoor
open Go Go.Ev Go.RecM
set_option maxRecDepth 100000

def recB : Value → Bool
  | .agg c => match c.toList with
    | [.int .i64 a, .int .i64 b, .int .i64 c] => (Lit.int .i64 a).wf && ((Lit.int .i64 b).wf && (Lit.int .i64 c).wf)
    | _ => false
  | _ => false

theorem recB_spec {v : Value} (h : recB v = true) : ∃ x : R3, v = aggR x ∧ (Lit.int .i64 x.1).wf = true ∧ (Lit.int .i64 x.2.1).wf = true ∧ (Lit.int .i64 x.2.2).wf = true := by
  unfold recB at h
  split at h
  · rename_i cs
    split at h
    · rename_i a b c hc
      simp only [Bool.and_eq_true] at h
      refine ⟨(a, b, c), ?_, h.1, h.2.1, h.2.2⟩
      rw [show cs = (encR (a, b, c)).toArray from Array.ext' (by simpa [encR] using hc)]
    · cases h
  · cases h

theorem recKey_mk (x : R3) (h0 : (Lit.int .i64 x.1).wf = true) (h1 : (Lit.int .i64 x.2.1).wf = true) (h2 : (Lit.int .i64 x.2.2).wf = true) :
    keyOf Tryz.prog 129 (aggR x) = some (.string (keyBytes [.int .i64 x.1, .int .i64 x.2.1, .int .i64 x.2.2])) := by
  obtain ⟨M, hM⟩ : ∃ M, Tryz.prog.types.size = M + 1 := ⟨Tryz.prog.types.size - 1, by have h := size129; rw [Nat.blt_eq] at h; omega⟩
  unfold keyOf
  rw [hM, Tryz.underlying129, keyType129]
  have hf : (aggR x).formed Tryz.prog 129 = true := by
    simp only [Value.formed, Tryz.underlying129, cells129]
    rfl
  have hl : ∀ a : Int, (Lit.int .i64 a).wf = true → Tryz.prog.keyLits (M + 1) 3 [.int .i64 a] = some [.int .i64 a] := fun a ha => by
    unfold Program.keyLits
    rw [Tryz.underlying3]
    simp [ha]
  simp only [hf, Bool.and_self, if_true]
  have : Tryz.prog.keyLits (M + 1 + 1) 129 (aggR x).cells.toList = some [.int .i64 x.1, .int .i64 x.2.1, .int .i64 x.2.2] := by
    conv => lhs; unfold Program.keyLits
    rw [Tryz.underlying129]
    simp only
    rw [cells129, if_pos ⟨rfl, by kernel_rfl⟩]
    have e0 : (aggR x).cells.toList = [.int .i64 x.1, .int .i64 x.2.1, .int .i64 x.2.2] := rfl
    rw [e0]
    simp only [List.mapM_cons, List.mapM_nil, cells3, List.drop_zero, List.drop_succ_cons, List.take_succ_cons, List.take_zero, hl _ h0, hl _ h1, hl _ h2, bind, Option.bind_some, pure, Option.map_some]
    rfl
  rw [this]
  rfl

noncomputable def env : Env := {
  tt := fun t => match Tryz.prog.underlying t, Tryz.prog.info? t with | some d, some i => some (d, i) | _, _ => none
  ft := fun f => Tryz.prog.funcs[f]?
  G := 8
  flat := fun t => Nat.beq t 30 || (Nat.beq t 31 || (Nat.beq t 32 || (Nat.beq t 33 || (Nat.beq t 86 || (Nat.beq t 87 || Nat.beq t 129)))))
  deep := fun t v => Nat.beq t 129 && recB v
  idx := fun f => Nat.beq f 195 }

theorem noNum : (Tryz.prog.funcs.all fun fn => !(fn.name == "runtime.NumGoroutine")) = true := by kernel_rfl

def noBlank (d : Option TypeDesc) : Bool := match d with
  | some (.struct fs) => fs.toList.all fun f => !(f.name == "_")
  | _ => true

theorem noBlank_ok {d : Option TypeDesc} (h : noBlank d = true) : ∀ fs, d = some (.struct fs) → ∀ f ∈ fs.toList, f.name ≠ "_" := by
  intro fs e f hf hn
  subst e
  have := List.all_eq_true.1 h f hf
  rw [hn] at this
  simp at this

theorem env_ok : EnvOK Tryz.prog env := {
  tt t d i h := by
    simp only [env] at h
    split at h
    · rename_i d' i' h1 h2
      cases h
      exact ⟨h1, h2⟩
    · cases h
  ft f fn h := by
    have h' : Tryz.prog.funcs[f]? = some fn := h
    refine ⟨h', ?_⟩
    obtain ⟨hf, e⟩ := Array.getElem?_eq_some_iff.1 h'
    have := (Array.all_eq_true.1 noNum) f hf
    rw [e] at this
    simpa using this
  mixed := by kernel_rfl
  flat t h := by
    have h' : (Nat.beq t 30 || (Nat.beq t 31 || (Nat.beq t 32 || (Nat.beq t 33 || (Nat.beq t 86 || (Nat.beq t 87 || Nat.beq t 129)))))) = true := h
    simp only [Bool.or_eq_true] at h'
    rcases h' with h' | h' | h' | h' | h' | h' | h'
    all_goals
      have := Nat.eq_of_beq_eq_true h'
      subst this
      exact ⟨by kernel_rfl, by kernel_rfl, noBlank_ok (by kernel_rfl)⟩
  deep t v h := by
    have h' : (Nat.beq t 129 && recB v) = true := h
    rw [Bool.and_eq_true] at h'
    have := Nat.eq_of_beq_eq_true h'.1
    subst this
    obtain ⟨x, rfl, h0, h1, h2⟩ := recB_spec h'.2
    exact ⟨recKeyed, _, recKey_mk x h0 h1 h2⟩
  idx f h s c w := by
    have := Nat.eq_of_beq_eq_true (show Nat.beq f 195 = true from h)
    subst this
    rw [run_callFunc_extern Tryz.func195 (by kernel_rfl) (by kernel_rfl) (by kernel_rfl) (e := Extern.BytealgIndexByte.indexByte) (by kernel_rfl), Lib.run_indexByteString]
    rfl }

def tabs : List Tab := [intTab 1 .u64 Lib.pow10Tab]
noncomputable def st : St := ⟨layT tabs (fun _ => 0), 1000⟩
theorem tabs_below (fl : Nat) (h : 8 ≤ fl) : ∀ t ∈ tabs, t.1 < fl ∧ t.1 < 1000000 ∧ t.2.all plain1 = true := fun t ht => by
  simp only [tabs, List.mem_cons, List.not_mem_nil, or_false] at ht
  subst ht
  exact ⟨by show 1 < fl; omega, by show 1 < 1000000; omega, rfl⟩

end Go.Proofs.YtimlgclejaoboaaGreatDoor
