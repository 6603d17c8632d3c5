/- A checked interpreter for closed calls, part 24: a drawn region's end. -/
import Derived.Test.YthdjebomeibngaaGreatDoorEvW
namespace Go.Ev
open Go Go.MapKept

section
variable {P : Program} {E : Env} (hE : EnvOK P E) {fl : Nat} {call : Nat → FuncId → List Value → St → Option (AE × St)}

theorem evDraw_cases {ops : Array Oper} {A A' : AA} {s s' : St} {x : AX} (h : evDraw E call fl ops A s = some (x, A', s')) :
    ∃ rs, chkMasks (masksT ops.toList 0 .e) ops.toList 0 = true ∧ chkDst A.n (dstT ops.toList 0 .e) ops.toList 0 = true ∧ RecsOK E call fl ops A s (masksT ops.toList 0 .e) (dstT ops.toList 0 .e) rs ∧
      ((segs rs 0 s).map (·.1)).all (fun w => chkReaders (masksT ops.toList 0 .e) w rs 0) = true ∧ chkChain (masksT ops.toList 0 .e) ((segs rs 0 s).map (·.1)) = true ∧
      x = .normal ∧ A' = { A with ts := putAll ops.toList rs A.ts } ∧ s' = lastSt s rs := by
  unfold evDraw at h
  simp only at h
  rcases cond_some h with ⟨hb, h⟩ | ⟨_, h⟩
  · simp only [Bool.and_eq_true] at hb
    obtain ⟨⟨hm, hd⟩, hn⟩ := hb
    split at h
    · rename_i rs hrs
      rcases cond_some h with ⟨hb2, h⟩ | ⟨_, h⟩
      · rw [Bool.and_eq_true] at hb2
        simp only [Option.some.injEq, Prod.mk.injEq] at h
        obtain ⟨rfl, rfl, rfl⟩ := h
        exact ⟨rs, hm, hd, recs_ok (Nat.le_of_ble_eq_true hn) hrs, hb2.1, hb2.2, rfl, rfl, rfl⟩
      · cases h
    · cases h
  · cases h

theorem nth_last (sg : List (Nat × St)) (e : St) : nth sg e (sg.map (·.1)).length = e := by
  unfold nth
  rw [List.getElem?_eq_none (by simp)]

theorem evDraw_nx (hup : ∀ fi, CallUp (call fi)) {ops : Array Oper} {A A' : AA} {s s' : St} {x : AX} (h : evDraw E call fl ops A s = some (x, A', s')) : s.nx ≤ s'.nx := by
  obtain ⟨rs, _, _, hR, _, _, _, _, rfl⟩ := evDraw_cases h
  have mono : ∀ k, ((thePlan s (masksT ops.toList 0 .e) (dstT ops.toList 0 .e) rs).S 0).nx ≤ ((thePlan s (masksT ops.toList 0 .e) (dstT ops.toList 0 .e) rs).S k).nx := fun k => by
    induction k with
    | zero => exact Nat.le_refl _
    | succ k ih => exact Nat.le_trans ih (plan_mono hup hR k)
  have h1 := mono ((segs rs 0 s).map (·.1)).length
  have h2 : (thePlan s (masksT ops.toList 0 .e) (dstT ops.toList 0 .e) rs).S ((segs rs 0 s).map (·.1)).length = lastSt s rs := nth_last _ _
  rw [h2] at h1
  obtain ⟨i0, hi0, hS0, _, _⟩ := head_state rs 0 s
  have h3 := up_all hup hR (Nat.zero_le i0) (by rw [← hR.len]; exact hi0)
  have h4 : (thePlan s (masksT ops.toList 0 .e) (dstT ops.toList 0 .e) rs).S 0 = stAt s rs i0 := hS0
  rw [h4] at h1
  have h0 : (stAt s rs 0).nx = s.nx := rfl
  omega

include hE in
theorem evDraw_any (hcalls : ∀ fi, fl ≤ fi → CallOK P E fi (call fi)) (hup : ∀ fi, CallUp (call fi)) (h1 : E.G ≤ fl) {ops : Array Oper} {A A' : AA} {s s' : St} {x : AX} {ρ : Ren} {a : Act} {w : World}
    (h : evDraw E call fl ops A s = some (x, A', s')) (hrs : RS E.G ρ s.h w) (h2 : fl ≤ s.nx) (hfit : Fit s) (ha : RA ρ A a) (hfree : Free ρ s.nx s'.nx) :
    wpAny P .any ops (XPost E.G fl ρ s w x A' s') ops.size (Array.replicate ops.size false) a { w with drawn := w.drawn + 1 } := by
  obtain ⟨rs, hm, hd, hR, hW, hC, rfl, rfl, rfl⟩ := evDraw_cases h
  have hp := plan_ok hup hfit h2 hm hd hR hW hC
  have hmono := plan_mono hup hR
  have hlast : (thePlan s (masksT ops.toList 0 .e) (dstT ops.toList 0 .e) rs).S (thePlan s (masksT ops.toList 0 .e) (dstT ops.toList 0 .e) rs).W.length = lastSt s rs := nth_last _ _
  have hokd : ∀ o ∈ ops.toList, ∀ d, o.dst = some d → ok d = true := fun o ho d hdd => by
    obtain ⟨j, hj⟩ := List.getElem?_of_mem ho
    exact (chkDst_spec _ 0 hd j o d hj hdd).2.2
  generalize hpl : thePlan s (masksT ops.toList 0 .e) (dstT ops.toList 0 .e) rs = p at *
  have hpv : ∀ k r, rs[k]? = some r → p.v k = r.v := fun k r hk => by
    rw [← hpl]
    show (match rs[k]? with | some r => r.v | none => undef) = r.v
    rw [hk]
  have hfreeP : Free ρ s.nx (p.S p.W.length).nx := by rw [hlast]; exact hfree
  refine draw_steps (w₀ := w) hE hcalls h1 h2 hp hfreeP hmono ?_ ops.size (Array.replicate ops.size false) ρ a _ 0 ?_ ?_
  · -- the end
    intro listed ρ' a' w' hI hall
    have hhas : ∀ i o, (lastSt s rs).h.get i = some o → p.has s listed p.W.length i o := fun i o ho => by
      unfold Plan.has
      by_cases h0 : p.W.length = 0
      · rw [if_pos h0]
        rw [h0] at hlast
        rw [← hlast] at ho
        rcases hp.first i o ho with h | ⟨k, k0, k1, k2, k3⟩
        · exact .inl h
        · exact .inr ⟨k, hall k k0, k1, k3⟩
      · rw [if_neg h0, hlast]
        exact ho
    have hS := hI.since.weak hhas
    refine ⟨ρ', trivial, ⟨hI.tsz, fun t u hu => ?_, hI.defers⟩, hI.heap.tree hhas, ⟨hS.le, ?_, ?_, hS.os, hS.tape, hS.output, hS.size, hS.frame, hS.own, ?_, ?_⟩⟩
    · rcases putAll_spec _ rs _ t u hokd hu with ⟨j, o, r, j1, j2, j3, rfl⟩ | ⟨j1, j2⟩
      · have ho : ops[j]? = some o := by simpa using j1
        have hown := (hp.own j o t ho j3).1
        have hlt : j < ops.size := by
          rcases Nat.lt_or_ge j ops.size with h' | h'
          · exact h'
          · rw [Array.getElem?_eq_none h'] at ho; cases ho
        obtain ⟨u', k1, k2⟩ := hI.done t j hown (hall j hlt)
        rw [hpv j r j2] at k2
        exact ⟨u', k1, k2⟩
      · refine hI.base t u j2 fun k hk => ?_
        obtain ⟨o, ho, hdt⟩ := hp.own' t k hk
        have hlt : k < ops.size := by
          rcases Nat.lt_or_ge k ops.size with h' | h'
          · exact h'
          · rw [Array.getElem?_eq_none h'] at ho; cases ho
        exact absurd hdt (j1 k o (by simpa using ho) (by rw [hR.len]; exact hlt))
    · intro i y hy
      rw [← hlast]
      have mono : ∀ k, (p.S 0).nx ≤ (p.S k).nx := fun k => by
        induction k with
        | zero => exact Nat.le_refl _
        | succ k ih => exact Nat.le_trans ih (hmono k)
      have m1 := mono p.W.length
      have m0 := hp.firstNx
      rcases hI.dom i y hy with h3 | ⟨k, k1, k2, k3, k4, k5, k6⟩ | h3
      · exact .inl h3
      · obtain ⟨r1, r2, r3, _⟩ := hp.read k _ (Array.getElem?_eq_getElem k4) k3 k2
        exact .inr ⟨by omega, by omega⟩
      · exact .inr ⟨by omega, h3.2⟩
    · rw [← hlast]
      exact Nat.le_trans hp.firstNx hI.up
    · intro i hi
      rw [← hlast]
      exact hI.low i hi
    · intro i hi
      rw [← hlast] at hi ⊢
      rw [hI.fit i hi]
      have := hI.up
      have := hp.firstNx
      exact (hfit i (by omega)).symm
  · -- the start
    have hl : ∀ k, (Array.replicate ops.size false).getD k false = false := fun k => by rw [Array.getD_eq_getD_getElem?, Array.getElem?_replicate]; split <;> rfl
    have hhas : ∀ i o, p.has s (Array.replicate ops.size false) 0 i o → s.h.get i = some o := fun i o ho => by
      unfold Plan.has at ho
      rw [if_pos rfl] at ho
      rcases ho with h | ⟨k, hk, _⟩
      · exact h
      · rw [hl k] at hk; cases hk
    have hrs' : RS E.G ρ s.h { w with drawn := w.drawn + 1 } := ⟨hrs.glob, hrs.obj, hrs.inj⟩
    refine ⟨by simp, fun j hj => (by rw [hl j] at hj; cases hj), ha.size, fun t u hu _ => ha.tmp t u hu, fun t k _ hk => (by rw [hl k] at hk; cases hk), ha.defers, Nat.zero_le _, fun j i _ => ⟨fun h => (by rw [hl i] at h; cases h), fun h => (by omega)⟩, fun h => (by omega), hrs'.rel.weak hhas, ?_, fun i y hy => .inl hy, fun i hi => hp.firstLow i hi, hp.firstFit, Nat.le_refl _⟩
    exact ⟨.refl _, rfl, rfl, rfl, Nat.le_refl _, fun _ _ _ => rfl, fun i o r n hi ho hr _ => ⟨i, o, n, hi, hhas i o ho, hr⟩⟩
  · unfold left
    have := List.length_filter_le (fun i => !(Array.replicate ops.size false).getD i true) (List.range ops.size)
    simpa using this

include hE in
theorem evDraw_ok (hmix : P.follows .mixedOrders = true) (hcalls : ∀ fi, fl ≤ fi → CallOK P E fi (call fi)) (hup : ∀ fi, CallUp (call fi)) (h1 : E.G ≤ fl) {ops : Array Oper} {A A' : AA} {s s' : St} {x : AX} {ρ : Ren} {a : Act} {w : World} {id : Nat}
    (h : evDraw E call fl ops A s = some (x, A', s')) (hrs : RS E.G ρ s.h w) (h2 : fl ≤ s.nx) (hfit : Fit s) (ha : RA ρ A a) (hfree : Free ρ s.nx s'.nx) : (Code.region id ops true).wp P (XPost E.G fl ρ s w x A' s') a w :=
  wp_region_any hmix (evDraw_any hE hcalls hup h1 h hrs h2 hfit ha hfree)

end
end Go.Ev
