/- The seat: which nets are formed, the specification's side. -/
import Derived.Test.YtfhljcpicdabmaaGreatDoorSeatPa
namespace Go.Proofs.YtfhljcpicdabmaaGreatDoor
open Go Go.RowKit Go.Ev Go.WayM
set_option maxRecDepth 100000
set_option maxHeartbeats 1000000
theorem netR_any (s : Value) (net : Net) (w : World) (h : NetAt w s net) : Calls Tryz.prog 74 #[s] w fun e w' => e = .returned (.bool (netB net)) ∧ w = w' := by
  obtain ⟨A, c, rfl, r1⟩ := h
  obtain ⟨n, hn⟩ : ∃ n, Hid (net.length = n) := ⟨_, Lib.hid rfl⟩
  rw [hn.out] at r1 ⊢
  by_cases h4 : n ≤ 4
  · have h4b : decide ((4 : Int) < (n : Int)) = false := decide_eq_false (by omega)
    go_enter Tryz.func74, Tryz.ntmps74
    go_wp2
    go_loop [3] (fun u12 => UpTo n (fun i => ∀ row, net[i]? = some row → rowB n row = true) u12) (fun u12 => n - (intOf u12).toNat)
    case atStart => exact ⟨0, by omega, rfl, fun i hi => by omega⟩
    case round =>
      obtain ⟨k, hk, rfl, hall⟩ := hrel
      have HA := Lib.hid hall
      clear hall
      by_cases hlt : k < n
      · obtain ⟨g, o, rfl, hg, d1⟩ := r1 (by omega)
        obtain ⟨row, hrow⟩ := net_row hn.out hlt
        obtain ⟨v, hv, A', c', rfl, r2⟩ := d1 k row hrow
        have HR := Lib.hid hrow
        clear hrow d1
        obtain ⟨m, hm⟩ : ∃ m, Hid (row.length = m) := ⟨_, Lib.hid rfl⟩
        rw [hm.out] at r2 hv
        by_cases hmn : m = n
        · subst hmn
          go_wp2
          go_loop [4] (fun u23 => UpTo m (fun j => ∀ x, row[j]? = some x → setB x = true) u23) (fun u23 => m - (intOf u23).toNat)
          case atStart => exact ⟨0, by omega, rfl, fun i hi => by omega⟩
          case round =>
            obtain ⟨j, hj, rfl, hset⟩ := hrel
            have HS := Lib.hid hset
            clear hset
            by_cases hlj : j < m
            · obtain ⟨g', o', rfl, hg', d2⟩ := r2 (by omega)
              obtain ⟨x, hx⟩ : ∃ x, row[j]? = some x := ⟨_, List.getElem?_eq_getElem (by have := hm.out; omega)⟩
              have e2 := d2 j x hx
              have HX := Lib.hid hx
              clear hx d2
              by_cases x1 : 0 ≤ x
              · by_cases x2 : x < 16384
                · by_cases x3 : x % 2 = 0
                  · have hodd : (x % 2 == 0) = true := by simpa using x3
                    have HSX : Hid (setB x = true) := Lib.hid (decide_eq_true ⟨x1, x2, x3⟩)
                    go_wp2
                    go_round
                    case rel =>
                      refine ⟨j + 1, by omega, by go_num, fun i hi y hy => ?_⟩
                      by_cases hij : i = j
                      · subst hij; rw [HX.out] at hy; cases hy; exact HSX.out
                      · exact HS.out i (by omega) y hy
                    case measure => simp [intOf]; omega
                  · have hodd : x % 2 = 1 := by omega
                    have HSX : Hid (setB x = false) := Lib.hid (decide_eq_false (by omega))
                    go_wp2
                    go_ret
                    exact ⟨ret_b (netB_set HR.out HX.out HSX.out).symm, rfl⟩
                · have HSX : Hid (setB x = false) := Lib.hid (decide_eq_false (by omega))
                  go_wp2
                  go_ret
                  exact ⟨ret_b (netB_set HR.out HX.out HSX.out).symm, rfl⟩
              · have HSX : Hid (setB x = false) := Lib.hid (decide_eq_false (by omega))
                go_wp2
                go_ret
                exact ⟨ret_b (netB_set HR.out HX.out HSX.out).symm, rfl⟩
            · have hjm : j = m := by omega
              have HJ := Lib.hid hjm
              clear hjm
              go_wp2
              go_round
              case rel =>
                refine ⟨k + 1, by omega, by go_num, fun i hi y hy => ?_⟩
                by_cases hik : i = k
                · subst hik; rw [HR.out] at hy; cases hy
                  exact rowB_mk hm.out fun i x hx => HS.out i (by have := (List.getElem?_eq_some_iff.1 hx).1; have := hm.out; have := HJ.out; omega) x hx
                · exact HA.out i (by omega) y hy
              case measure => simp [intOf]; omega
        · have hne : ((m : Int) == n) = false := by simp; omega
          go_wp2
          go_ret
          exact ⟨ret_b (netB_row HR.out (by rw [hm.out, hn.out]; exact hmn)).symm, rfl⟩
      · go_wp2
        go_ret
        exact ⟨ret_b (netB_mk (by rw [hn.out]; exact h4) fun i row hr => by rw [hn.out]; exact HA.out i (by have := (List.getElem?_eq_some_iff.1 hr).1; have := hn.out; omega) row hr).symm, rfl⟩
  · go_enter Tryz.func74, Tryz.ntmps74
    go_wp2
    go_ret
    exact ⟨ret_b (netB_len (by rw [hn.out]; exact h4)).symm, rfl⟩
end Go.Proofs.YtfhljcpicdabmaaGreatDoor
