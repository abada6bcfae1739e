/- The walks of whether parameters fit, whether lists are within bounds, whether a model and a query may be. -/
import Derived.Test.YtdblijpoelcghaaFixW1
namespace Go.Proofs.Ytdblijpoelcghaa
open Go Go.RowKit Go.Lib
namespace M
theorem fit_cases (p : Pm) : MM.Fit p ∨ p.K < 0 ∨ (0 ≤ p.K ∧ 2 < p.K) ∨ (0 ≤ p.K ∧ p.K ≤ 2 ∧ p.D < 0) ∨ (0 ≤ p.K ∧ p.K ≤ 2 ∧ 0 ≤ p.D ∧ 4 < p.D) ∨ (0 ≤ p.K ∧ p.K ≤ 2 ∧ 0 ≤ p.D ∧ p.D ≤ 4 ∧ p.M < 0) ∨ (0 ≤ p.K ∧ p.K ≤ 2 ∧ 0 ≤ p.D ∧ p.D ≤ 4 ∧ 0 ≤ p.M ∧ 1048576 < p.M) ∨
    (0 ≤ p.K ∧ p.K ≤ 2 ∧ 0 ≤ p.D ∧ p.D ≤ 4 ∧ 0 ≤ p.M ∧ p.M ≤ 1048576 ∧ p.X < 0) ∨ (0 ≤ p.K ∧ p.K ≤ 2 ∧ 0 ≤ p.D ∧ p.D ≤ 4 ∧ 0 ≤ p.M ∧ p.M ≤ 1048576 ∧ 0 ≤ p.X ∧ 1048576 < p.X) := by
  unfold MM.Fit
  omega
set_option maxRecDepth 100000 in
set_option maxHeartbeats 4000000 in
theorem usable_any (p : Pm) : RetB 37 #[.agg p.cells] (.bool (decide (MM.Fit p))) := by
  intro W
  have hb := below_box W (.cells p.cells 31)
  have HB := Lib.hid hb
  have k7 := (Box.new W p).cell 7
  have k8 := (Box.new W p).cell 8
  have k10 := (Box.new W p).cell 10
  have k11 := (Box.new W p).cell 11
  rcases fit_cases p with h | h | h | h | h | h | h | h | h
  · rw [decide_eq_true h]
    obtain ⟨h1, h2, h3, h4, h5, h6, h7, h8⟩ := h
    obtain ⟨P, Q, G, H, N, n, T, K, D, R, M, X⟩ := p
    dsimp only at *
    go_enter Try.func37, Try.ntmps37
    go_wp2_with fail
    go_ret
    exact ⟨rfl, HB.out⟩
  all_goals
    rw [decide_eq_false (show ¬ MM.Fit p by unfold MM.Fit; omega)]
    obtain ⟨P, Q, G, H, N, n, T, K, D, R, M, X⟩ := p
    dsimp only at *
    repeat (obtain ⟨_, h⟩ := h)
    go_enter Try.func37, Try.ntmps37
    go_wp2_with fail
    go_ret
    first | exact ⟨rfl, HB.out⟩ | (refine ⟨?_, HB.out⟩; rw [← decide_eq_false (show ¬ X ≤ 1048576 by omega)]; rfl)
set_option maxRecDepth 100000 in
set_option maxHeartbeats 4000000 in
theorem rfit_any (p : Pm) : RetB 42 #[.agg p.cells] (.bool (decide (MM.Fit p))) := by
  intro W
  have hb := below_box W (.cells p.cells 31)
  have HB := Lib.hid hb
  have k7 := (Box.new W p).cell 7
  have k8 := (Box.new W p).cell 8
  have k10 := (Box.new W p).cell 10
  have k11 := (Box.new W p).cell 11
  rcases fit_cases p with h | h | h | h | h | h | h | h | h
  · rw [decide_eq_true h]
    obtain ⟨h1, h2, h3, h4, h5, h6, h7, h8⟩ := h
    obtain ⟨P, Q, G, H, N, n, T, K, D, R, M, X⟩ := p
    dsimp only at *
    go_enter Try.func42, Try.ntmps42
    go_wp2_with fail
    go_ret
    exact ⟨rfl, HB.out⟩
  all_goals
    rw [decide_eq_false (show ¬ MM.Fit p by unfold MM.Fit; omega)]
    obtain ⟨P, Q, G, H, N, n, T, K, D, R, M, X⟩ := p
    dsimp only at *
    repeat (obtain ⟨_, h⟩ := h)
    go_enter Try.func42, Try.ntmps42
    go_wp2_with fail
    go_ret
    first | exact ⟨rfl, HB.out⟩ | (refine ⟨?_, HB.out⟩; rw [← decide_eq_false (show ¬ X ≤ 1048576 by omega)]; rfl)
set_option maxHeartbeats 4000000 in
theorem within_any (most : Int) (ao : Option Addr) (m cap : Nat) (L : Nat → Nat) (F : Nat → Nat → Int) (h0 : 0 ≤ most ∧ most ≤ 1048576) (hm : m ≤ 9223372036854775807) (hL : ∀ i, i < m → L i ≤ 9223372036854775807) (W : World) (hr : IMat W ao m L F) :
    Calls Try.prog 38 #[.int .i64 most, .slice ao m cap] W fun e w' => e = .returned (.bool (decide (∀ i, i < m → MM.Wi most (L i) (F i)))) ∧ W = w' := by
  have HR := Lib.hid hr
  have HL := Lib.hid hL
  have hw : wrap64 (-most) = -most := IntWalk.wrap64_in _ (by omega)
  clear hr hL
  go_enter Try.func38, Try.ntmps38
  go_wp2_with fail
  go_loop [11] (fun s11 => ∃ k : Nat, k ≤ m ∧ s11 = .int .i64 (k : Int) ∧ Hid (∀ i, i < k → MM.Wi most (L i) (F i))) (fun s11 => m - (RowKit.intOf s11).toNat)
  case atStart => exact ⟨0, Nat.zero_le _, rfl, Lib.hid fun i hi => absurd hi (by omega)⟩
  case round =>
    obtain ⟨k, hk, rfl, HJ⟩ := hrel
    by_cases hlt : k < m
    · obtain ⟨ad, bo, c, rfl, hc, hs⟩ := HR.out k hlt
      have HS := Lib.hid hs
      have hlk := HL.out k hlt
      generalize hlk' : L k = lk at *
      have HE := Lib.hid hlk'
      clear hs hlk'
      go_wp2_with fail
      go_loop [17] (fun s17 => ∃ j : Nat, j ≤ lk ∧ s17 = .int .i64 (j : Int) ∧ Hid (MM.Wi most j (F k))) (fun s17 => lk - (RowKit.intOf s17).toNat)
      case atStart => exact ⟨0, Nat.zero_le _, rfl, Lib.hid fun i hi => absurd hi (by omega)⟩
      case round =>
        obtain ⟨j, hj, rfl, HI⟩ := hrel
        by_cases hlj : j < lk
        · obtain ⟨bd, rfl, hcb⟩ := HS.out.at_ hlj
          have HX : Hid (∀ x, x = F k j → -most ≤ x → x ≤ most → MM.Wi most (j + 1) (F k)) := Lib.hid fun x hx h1 h2 i hi => by
            by_cases e : i = j
            · subst e; rw [← hx]; exact ⟨h1, h2⟩
            · exact HI.out i (by omega)
          have HY : Hid (∀ x, x = F k j → (x < -most ∨ most < x) → decide (∀ i, i < m → MM.Wi most (L i) (F i)) = false) := Lib.hid fun x hx h1 => decide_eq_false fun h => by
            have h2 := h k hlt j (by rw [HE.out]; exact hlj)
            rw [← hx] at h2
            omega
          generalize hx : F k j = x at hcb
          have HXE := Lib.hid hx
          clear hx
          by_cases hlo : x < -most
          · have HZ := Lib.hid (HY.out x HXE.out.symm (.inl hlo))
            clear HX HY
            go_wp2_with fail
            go_ret
            exact ⟨by rw [HZ.out]; rfl, rfl⟩
          · by_cases hhi : most < x
            · have HZ := Lib.hid (HY.out x HXE.out.symm (.inr hhi))
              clear HX HY
              go_wp2_with fail
              go_ret
              exact ⟨by rw [HZ.out]; rfl, rfl⟩
            · have HN := Lib.hid (HX.out x HXE.out.symm (by omega) (by omega))
              clear HX HY
              go_wp2_with fail
              go_round
              case rel => exact ⟨j + 1, by omega, by go_num, HN⟩
              case measure => simp [RowKit.intOf]; omega
        · obtain rfl : j = lk := by omega
          have HN : Hid (∀ i, i < k + 1 → MM.Wi most (L i) (F i)) := Lib.hid fun i hi => by
            by_cases e : i = k
            · subst e; rw [HE.out]; exact HI.out
            · exact HJ.out i (by omega)
          go_wp2_with fail
          go_round
          case rel => exact ⟨k + 1, by omega, by go_num, HN⟩
          case measure => simp [RowKit.intOf]; omega
    · obtain rfl : k = m := by omega
      go_wp2_with fail
      go_ret
      exact ⟨by rw [decide_eq_true HJ.out]; rfl, rfl⟩
end M
end Go.Proofs.Ytdblijpoelcghaa
