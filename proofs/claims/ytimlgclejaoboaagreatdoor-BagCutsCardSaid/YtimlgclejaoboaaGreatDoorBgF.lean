/- Stage 4's seat: what the interpreter is told: strings.Join; the sorted keys of a map of records. -/
import Derived.Test.YtimlgclejaoboaaGreatDoorBgE
import Derived.Test.YtimlgclejaoboaaGreatDoorBgP
import Derived.Test.YtimlgclejaoboaaGreatDoorBgS
namespace Go.Proofs.YtimlgclejaoboaaGreatDoor
open Go Go.Ev Go.RecM Go.Maps
set_option maxRecDepth 100000

def recOf : Value → Option R3
  | .agg c => match c.toList with
    | [.int .i64 a, .int .i64 b, .int .i64 c] => some (a, b, c)
    | _ => none
  | _ => none

theorem recOf_eq {v : Value} {x : R3} (h : recOf v = some x) : v = aggR x := by
  unfold recOf at h
  split at h
  · rename_i cs
    split at h
    · rename_i a b c hc
      simp only [Option.some.injEq] at h
      subst h
      rw [show cs = (encR (a, b, c)).toArray from Array.ext' (by simpa [encR] using hc)]
    · cases h
  · cases h

def recsOf : List MapEntry → Option (List R3)
  | [] => some []
  | e :: r => match recOf e.key, recsOf r with | some x, some l => some (x :: l) | _, _ => none

theorem recsOf_eq : ∀ {es : List MapEntry} {l : List R3}, recsOf es = some l → es.map (·.key) = l.map aggR
  | [], l, h => by simp [recsOf] at h; subst h; rfl
  | e :: r, l, h => by
    unfold recsOf at h
    split at h
    · rename_i x m hx hm
      simp only [Option.some.injEq] at h
      subst h
      simp [recOf_eq hx, recsOf_eq hm]
    · cases h

/-- The order, as the kernel reckons. -/
def ltB (x y : R3) : Bool :=
  cond (iLe y.1 x.1) (cond (iLe x.1 y.1) (cond (iLe y.2.1 x.2.1) (cond (iLe x.2.1 y.2.1) (!iLe y.2.2 x.2.2) false) true) false) true

theorem ltB_iff (x y : R3) : ltB x y = true ↔ rLt x y := by
  unfold ltB rLt
  simp only [iLe_eq]
  by_cases h1 : y.1 ≤ x.1
  · by_cases h2 : x.1 ≤ y.1
    · by_cases h3 : y.2.1 ≤ x.2.1
      · by_cases h4 : x.2.1 ≤ y.2.1
        · simp only [h1, h2, h3, h4, decide_true, cond_true, Bool.not_eq_true', decide_eq_false_iff_not]; omega
        · simp only [h1, h2, h3, h4, decide_true, decide_false, cond_true, cond_false]; constructor
          · intro h; cases h
          · intro h; omega
      · simp only [h1, h2, h3, decide_true, decide_false, cond_true, cond_false]; constructor
        · intro _; omega
        · intro _; trivial
    · simp only [h1, h2, decide_true, decide_false, cond_true, cond_false]; constructor
      · intro h; cases h
      · intro h; omega
  · simp only [h1, decide_false, cond_false]; constructor
    · intro _; omega
    · intro _; trivial

def insR (x : R3) : List R3 → List R3
  | [] => [x]
  | y :: l => cond (ltB y x) (y :: insR x l) (x :: y :: l)
def sortR : List R3 → List R3
  | [] => []
  | x :: l => insR x (sortR l)
theorem insR_perm (x : R3) : ∀ l : List R3, (insR x l).Perm (x :: l)
  | [] => .refl _
  | y :: l => by
    unfold insR
    cases ltB y x with
    | true => exact ((insR_perm x l).cons y).trans (.swap x y l)
    | false => exact .refl _
theorem sortR_perm : ∀ l : List R3, (sortR l).Perm l
  | [] => .refl _
  | x :: l => (insR_perm x (sortR l)).trans ((sortR_perm l).cons x)
def ascB : List R3 → Bool
  | [] => true
  | [_] => true
  | a :: b :: l => ltB a b && ascB (b :: l)
theorem ascB_spec : ∀ {l : List R3}, ascB l = true → l.Pairwise rLt
  | [], _ => .nil
  | [a], _ => List.pairwise_singleton _ _
  | a :: b :: l, h => by
    simp only [ascB, Bool.and_eq_true] at h
    have h1 := (ltB_iff a b).1 h.1
    have h2 := ascB_spec h.2
    refine List.pairwise_cons.2 ⟨fun c hc => ?_, h2⟩
    rcases List.mem_cons.1 hc with rfl | hc
    · exact h1
    · have := (List.pairwise_cons.1 h2).1 c hc
      unfold rLt at h1 this ⊢
      omega

def bornB (cl : Nat) : Nat → List MapEntry → Bool
  | _, [] => true
  | lo, e :: r => Nat.ble lo e.born && (Nat.blt e.born cl && bornB cl (e.born + 1) r)
theorem bornB_spec {cl : Nat} : ∀ {es : List MapEntry} {lo : Nat}, bornB cl lo es = true → (∀ e ∈ es, lo ≤ e.born ∧ e.born < cl) ∧ (es.map (·.born)).Nodup
  | [], _, _ => ⟨(fun e he => by cases he), by simp⟩
  | e :: r, lo, h => by
    simp only [bornB, Bool.and_eq_true] at h
    obtain ⟨h1, h2, h3⟩ := h
    have h1 := Nat.le_of_ble_eq_true h1
    have h2 : e.born < cl := by simpa [Nat.blt_eq] using h2
    obtain ⟨k1, k2⟩ := bornB_spec h3
    refine ⟨fun x hx => ?_, ?_⟩
    · rcases List.mem_cons.1 hx with rfl | hx
      · exact ⟨h1, h2⟩
      · have := k1 x hx; omega
    · rw [List.map_cons, List.nodup_cons]
      refine ⟨fun hm => ?_, k2⟩
      obtain ⟨x, hx, e1⟩ := List.mem_map.1 hm
      have := (k1 x hx).1
      omega

/-- The sorted keys of a map of records. -/
def sortRun (args : List Value) (s : St) : Option (AE × St) :=
  match args with
  | [.map (some b), .func (.func g) f c] =>
    cond (Nat.beq g 118 && (f.isEmpty && c.isEmpty))
      (match s.h.get b with
       | some (.map es cl) =>
         match recsOf es with
         | some l =>
           cond (ok s.nx && (ascB (sortR l) && (Nat.ble es.length 100000 && (bornB cl 0 es && es.all fun e => recB e.key))))
             (match sortR l with
              | [] => some (.ret (.slice none 0 0), s)
              | x :: ts => some (.ret (.slice (some ⟨s.nx, 0, none⟩) (x :: ts).length (big + 3)), newRowA s ((x :: ts).flatMap encR) 129 true true))
             none
         | none => none
       | _ => none)
      none
  | _ => none

theorem has_iff {P : Program} {k : TypeId} {R : Value → Option (DataW Unit × List MemPlace)} {es : Array MapEntry} {cl : Nat} (F : WideElems.Fit P k R es cl) {kl : Lit} (hk : WideAt.IsKeyLit kl) :
    has (.map ((es.toList.map (WideElems.rg P k R)).foldr DataW.insert [])) kl = true ↔ ∃ e ∈ es.toList, keyOf P k e.key = some kl := by
  rw [has_eq, List.any_eq_true]
  constructor
  · rintro ⟨p, hp, hs⟩
    have hp := (WideShapes.sorted_perm _).mem_iff.1 hp
    obtain ⟨e, he, rfl⟩ := List.mem_map.1 hp
    obtain ⟨y, hy⟩ := F.reads e he
    rw [WideElems.rg_of hy] at hs
    refine ⟨e, he, ?_⟩
    rw [WideElems.rd_key hy, WideAt.sameKey_eq hs]
  · rintro ⟨e, he, hke⟩
    obtain ⟨y, hy⟩ := F.reads e he
    have e1 := WideElems.rd_key hy
    rw [hke] at e1
    refine ⟨y, (WideShapes.sorted_perm _).mem_iff.2 (List.mem_map.2 ⟨e, he, WideElems.rg_of hy⟩), ?_⟩
    rw [← Option.some.inj e1]
    exact WideAt.sameKey_self hk

theorem sortRun_nx {args : List Value} {s s' : St} {r : AE} (hr : sortRun args s = some (r, s')) : s.nx ≤ s'.nx := by
  unfold sortRun at hr
  split at hr
  · rcases cond_some hr with ⟨_, hr1⟩ | ⟨_, hr1⟩
    · clear hr
      split at hr1
      · split at hr1
        · rcases cond_some hr1 with ⟨_, hr⟩ | ⟨_, hr⟩
          · clear hr1
            split at hr
            · simp only [Option.some.injEq, Prod.mk.injEq] at hr
              rw [hr.2]; exact Nat.le_refl _
            · simp only [Option.some.injEq, Prod.mk.injEq] at hr
              rw [← hr.2]; exact Nat.le_succ _
          · cases hr
        · cases hr1
      · cases hr1
    · cases hr1
  · cases hr

theorem fnOK117 : FnOK Tryz.prog 117 Tryz.f117 := ⟨Tryz.func117, by kernel_rfl, by kernel_rfl⟩

theorem sortRun_ok {fl : Nat} (hG : 8 ≤ fl) {args : List Value} {s s' : St} {r : AE} (hr : sortRun args s = some (r, s')) {ρ : Ev.Ren} {w : World} {args' : List Value} (hrs : RS 8 ρ s.h w) (hfl : fl ≤ s.nx) (hfree : Free ρ s.nx s'.nx) (hargs : VRs ρ args args') :
    Calls Tryz.prog 117 args'.toArray w (EPost 8 fl ρ s w r s') := by
  unfold sortRun at hr
  split at hr
  · rename_i b g f c
    rcases cond_some hr with ⟨hb, hr1⟩ | ⟨_, hr1⟩
    · clear hr
      simp only [Bool.and_eq_true, Array.isEmpty_iff] at hb
      obtain ⟨hg, rfl, rfl⟩ := hb
      have := Nat.eq_of_beq_eq_true hg
      subst this
      obtain ⟨a0, a1, rfl, ha0, ha1⟩ := hargs.inv2
      split at hr1
      · rename_i es cl hget
        split at hr1
        · rename_i l hl
          rcases cond_some hr1 with ⟨hq, hr⟩ | ⟨_, hr⟩
          · simp only [Bool.and_eq_true] at hq
            obtain ⟨hok, hasc0, hlen0, hborn, hkeys⟩ := hq
            have hlen := Nat.le_of_ble_eq_true hlen0
            have hasc := ascB_spec hasc0
            obtain ⟨hb1, hb2⟩ := bornB_spec hborn
            obtain ⟨r0, n0, o', k1, k2, k3⟩ := hrs.obj b _ hget
            cases ha0 with
            | map hr0 =>
              rw [k1] at hr0
              cases hr0
              cases ha1 with
              | func _ _ f' _ c' hfn hf hc _ _ =>
                have ef : f' = #[] := by simpa using hf.symm
                have ec : c' = #[] := by simpa using hc.symm
                subst ef; subst ec
                cases k3 with
                | map _ es' _ hs he =>
                  have hkk : es'.toList.map (·.key) = l.map aggR := by
                    rw [← recsOf_eq hl]
                    apply List.ext_getElem?
                    intro i
                    rw [List.getElem?_map, List.getElem?_map]
                    by_cases hi : i < es.length
                    · have hi' : i < es'.toList.length := by simpa [← hs] using hi
                      rw [List.getElem?_eq_getElem hi, List.getElem?_eq_getElem hi']
                      have := (he i _ _ (List.getElem?_eq_getElem hi) (by rw [← Array.getElem?_toList]; exact List.getElem?_eq_getElem hi')).1
                      simp [this]
                    · rw [List.getElem?_eq_none (by rw [Array.length_toList]; omega), List.getElem?_eq_none (by omega)]
                  have hbb : es'.toList.map (·.born) = es.map (·.born) := by
                    apply List.ext_getElem?
                    intro i
                    rw [List.getElem?_map, List.getElem?_map]
                    by_cases hi : i < es.length
                    · have hi' : i < es'.toList.length := by simpa [← hs] using hi
                      rw [List.getElem?_eq_getElem hi, List.getElem?_eq_getElem hi']
                      have := (he i _ _ (List.getElem?_eq_getElem hi) (by rw [← Array.getElem?_toList]; exact List.getElem?_eq_getElem hi')).2.2.2
                      simp [this]
                    · rw [List.getElem?_eq_none (by rw [Array.length_toList]; omega), List.getElem?_eq_none (by omega)]
                  have hkey : ∀ x ∈ l, ∃ kl, keyOf Tryz.prog 129 (aggR x) = some kl := fun x hx => by
                    have h1 : aggR x ∈ es.map (·.key) := by rw [recsOf_eq hl]; exact List.mem_map.2 ⟨x, hx, rfl⟩
                    obtain ⟨e, he1, he2⟩ := List.mem_map.1 h1
                    have h2 := List.all_eq_true.1 hkeys e he1
                    rw [he2] at h2
                    obtain ⟨y, e3, q0, q1, q2⟩ := recB_spec h2
                    have := aggR_inj e3
                    subst this
                    exact ⟨_, recKey_mk x q0 q1 q2⟩
                  have hnd : l.Nodup := (sortR_perm l).nodup_iff.1 (hasc.imp fun {a b} h e => by subst e; unfold rLt at h; omega)
                  let R : Value → Option (DataW Unit × List MemPlace) := fun _ => some (.nil, [])
                  have F : WideElems.Fit Tryz.prog 129 R es' cl := by
                    refine ⟨by rw [← hs]; unfold maxLen; omega, ⟨fun x hx => ?_, by rw [hbb]; exact hb2, ?_⟩, fun x hx => ?_⟩
                    · have h1 : x.born ∈ es.map (·.born) := by rw [← hbb]; exact List.mem_map.2 ⟨x, hx, rfl⟩
                      obtain ⟨e, he1, he2⟩ := List.mem_map.1 h1
                      rw [← he2]
                      exact (hb1 e he1).2
                    · rw [hkk]
                      exact List.Pairwise.map _ (fun a b h e => h (aggR_inj e)) hnd
                    · have h1 : x.key ∈ l.map aggR := by rw [← hkk]; exact List.mem_map.2 ⟨x, hx, rfl⟩
                      obtain ⟨y, hy1, hy2⟩ := List.mem_map.1 h1
                      obtain ⟨kl, hk⟩ := hkey y hy1
                      rw [hy2] at hk
                      exact ⟨_, WideElems.rd_mk (key := x.key) (val := x.val) (born := x.born) hk rfl⟩
                  have hown : w.ownsMap Tryz.prog 129 R r0 es'.size (.map ((es'.toList.map (WideElems.rg Tryz.prog 129 R)).foldr DataW.insert [])) := ⟨es', cl, k2, F, Nat.le_refl _, rfl⟩
                  have hsz : Maps.size (.map ((es'.toList.map (WideElems.rg Tryz.prog 129 R)).foldr DataW.insert []) : DataW Unit) = es.length := by
                    rw [Maps.size_eq, length_sorted]; simp [hs]
                  have hKA : KeysAre Tryz.prog 129 (.map ((es'.toList.map (WideElems.rg Tryz.prog 129 R)).foldr DataW.insert [])) (sortR l) := by
                    refine ⟨hasc, fun x hx => hkey x ((sortR_perm l).mem_iff.1 hx), fun x kl hk => ?_⟩
                    rw [(sortR_perm l).mem_iff, has_iff F (recKeyed.key hk)]
                    constructor
                    · intro hx
                      have h1 : aggR x ∈ es'.toList.map (·.key) := by rw [hkk]; exact List.mem_map.2 ⟨x, hx, rfl⟩
                      obtain ⟨e, he1, he2⟩ := List.mem_map.1 h1
                      exact ⟨e, he1, by rw [he2]; exact hk⟩
                    · rintro ⟨e, he1, he2⟩
                      have h1 : e.key ∈ l.map aggR := by rw [← hkk]; exact List.mem_map.2 ⟨e, he1, rfl⟩
                      obtain ⟨y, hy1, hy2⟩ := List.mem_map.1 h1
                      have := recKeyed.inj he2 hk
                      rw [← hy2] at this
                      rw [← aggR_inj this]
                      exact hy1
                  have hcon := sorted_any r0 es'.size _ w hown (by rw [hsz]; unfold maxLen; omega) (by rw [hsz]; omega)
                  refine hcon.mono ?_
                  rintro e w' ⟨v, ts, rfl, hK, hrow, hnil, hbel⟩
                  have hts := KeysAre.unique hK hKA
                  split at hr
                  · rename_i hnone
                    simp only [Option.some.injEq, Prod.mk.injEq] at hr
                    obtain ⟨rfl, rfl⟩ := hr
                    have : v = .slice none 0 0 := hnil.2 (by rw [hts, hnone])
                    subst this
                    refine ⟨ρ, .sliceNil, ⟨hrs.glob, fun i o ho => ?_, hrs.inj⟩, ⟨.refl _, fun _ _ h => .inl h, Nat.le_refl _, hbel.os, hbel.tape, hbel.output, hbel.size, fun k hk _ => hbel.block k hk, fun i o r n hi ho hr _ => ⟨i, o, n, hi, ho, hr⟩, fun _ _ => rfl, fun _ _ => rfl⟩⟩
                    obtain ⟨r1, n1, o1, q1, q2, q3⟩ := hrs.obj i o ho
                    exact ⟨r1, n1, o1, q1, by rw [hbel.block r1 (Array.getElem?_eq_some_iff.1 q2).1]; exact q2, q3⟩
                  · rename_i x xs hcons
                    simp only [Option.some.injEq, Prod.mk.injEq] at hr
                    obtain ⟨rfl, rfl⟩ := hr
                    rcases hrow.2 with ⟨rfl, h0⟩ | ⟨gb, cap, cur, rfl, hbase, hgb, c1, c2, c3, c4⟩
                    · rw [hts, hcons] at h0; cases h0
                    · rw [hts, hcons] at c1 c4
                      have hcl : ((x :: xs).flatMap encR).length = (x :: xs).length * 3 := flat_len encR_len _
                      have hfb := far_block (G := 8) (fl := fl) (o := .cells ((x :: xs).flatMap encR) 129 true true) (o' := .cells cur 129 (0, 0)) (n := cur.size) hrs (by omega) hfl hok (hfree) hbel hbase hgb (by
                        refine .cells _ cur 129 129 true true (0, 0) (fun _ => rfl) rfl (by rw [hcl, c3]; exact Nat.mul_le_mul_right _ c1) (fun h => by cases h) (fun _ => .inr (Nat.le_refl _)) ?_
                        rw [hcl, c4]
                        exact VRs.of_plain (by
                          rw [List.all_eq_true]
                          intro v hv
                          obtain ⟨y, _, hy⟩ := List.mem_flatMap.1 hv
                          simp [encR] at hy
                          rcases hy with rfl | rfl | rfl <;> rfl))
                      refine ⟨_, ?_, hfb.1, hfb.2⟩
                      rw [show ts.length = (x :: xs).length by rw [hts, hcons]]
                      exact .sliceOpen 0 _ cap 3 (upd_at _ _ _) (by decide) (by rw [c3]; omega) c1
          · cases hr
        · cases hr1
      · cases hr1
    · cases hr1
  · cases hr

theorem fnOK124 : FnOK Tryz.prog 124 Tryz.f124 := ⟨Tryz.func124, by kernel_rfl, by kernel_rfl⟩

noncomputable def lib0 : Lib := { libJ 124 with run := fun _ f args s => cond (Nat.beq f 117) (sortRun args s) none }
theorem lib0_ok : LibOK Tryz.prog env lib0 := {
  ext := (libJ_ok (E := env) ⟨_, fnOK124⟩ fun bk o c xs sep w h1 h2 h3 h4 h5 => Any.strings_Join Tryz.lays156 Tryz.Builder_Extra_156 bk o c xs sep w h1 h2 h3 h4 h5).ext
  run fl hG f args s r s' h := by
    have h' : cond (Nat.beq f 117) (sortRun args s) none = some (r, s') := h
    rcases cond_some h' with ⟨hb, h2⟩ | ⟨_, h2⟩
    · have := Nat.eq_of_beq_eq_true hb
      subst this
      exact ⟨⟨_, fnOK117⟩, fun ρ w args' hrs hfl _ hfree hargs => sortRun_ok (show 8 ≤ fl from hG) h2 hrs hfl hfree hargs⟩
    · cases h2
  up fl f args s r s' h := by
    have h' : cond (Nat.beq f 117) (sortRun args s) none = some (r, s') := h
    rcases cond_some h' with ⟨_, h2⟩ | ⟨_, h2⟩
    · exact sortRun_nx h2
    · cases h2 }

end Go.Proofs.YtimlgclejaoboaaGreatDoor
