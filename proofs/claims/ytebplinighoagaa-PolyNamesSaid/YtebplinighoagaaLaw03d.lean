/- What is refused, none, and many: the calls of the closed statement on polynomials. -/
import Derived.Test.YtebplinighoagaaLaw03c
namespace Go.Proofs.Ytebplinighoagaa
open Go Go.RowKit Go.Lib
namespace M
abbrev l12 : Nat → Nat := MM.ofL [1, 2]
abbrev qs : Nat → Nat := MM.ofL [0, 2305843009213693953]
theorem row_nil (W : World) (z : Nat → Nat) : Rd W none 0 z := fun h => absurd h (by omega)
section
variable {q : Nat} (hq : ¬ MM.Good q) (W : World) (B : Nat) (hr : Row W ⟨B, 0, none⟩ 2 l12)
include hq
theorem bad_eval (hr : Row W ⟨B, 0, none⟩ 2 l12) : Calls Try.prog 9 #[.slice (some ⟨B, 0, none⟩) 2 2, .int .u64 3, .int .u64 (q : Int)] W fun e w' => e = .returned (.int .u64 0) ∧ Below W.heap.size W w' :=
  (eval_any (some ⟨B, 0, none⟩) 2 2 3 q l12 (by decide) (by decide) W (row_rd hr)).mono fun e w' ⟨he, hb⟩ => ⟨by rw [he, MM.hornL_bad hq]; rfl, hb⟩
theorem bad_degree (hr : Row W ⟨B, 0, none⟩ 2 l12) : Calls Try.prog 10 #[.slice (some ⟨B, 0, none⟩) 2 2, .int .u64 (q : Int)] W fun e w' => e = .returned (.int .i64 (-1)) ∧ Below W.heap.size W w' :=
  (degree_any (some ⟨B, 0, none⟩) 2 2 q l12 (by decide) W (row_rd hr)).mono fun e w' ⟨he, hb⟩ => ⟨by rw [he, MM.degC_bad hq], hb⟩
theorem bad_same (hr : Row W ⟨B, 0, none⟩ 2 l12) : Calls Try.prog 14 #[.slice (some ⟨B, 0, none⟩) 2 2, .slice none 0 0, .int .u64 (q : Int)] W fun e w' => e = .returned (.bool true) ∧ Below W.heap.size W w' :=
  (same_any (some ⟨B, 0, none⟩) none 2 2 0 0 q l12 l12 (by decide) (by decide) W (row_rd hr) (row_nil W _)).mono fun e w' ⟨he, hb⟩ => ⟨by rw [he, MM.sameC_bad hq], hb⟩
theorem bad_weights : Calls Try.prog 7 #[.slice (some ⟨B, 0, none⟩) 2 2, .int .u64 0, .int .u64 (q : Int)] W fun e w' => e = .returned (.tuple #[.slice none 0 0, .int .i64 1]) ∧ Below W.heap.size W w' :=
  weights_err (some ⟨B, 0, none⟩) 2 2 0 q 1 (by decide) W fun W _ => (check_bad _ _ _ _ hq W).mono fun e w' ⟨he, hw⟩ => ⟨he, hw ▸ Below.refl _ _⟩
theorem bad_through : Calls Try.prog 8 #[.slice (some ⟨B, 0, none⟩) 2 2, .slice (some ⟨B, 0, none⟩) 2 2, .int .u64 (q : Int)] W fun e w' => e = .returned (.tuple #[.slice none 0 0, .int .i64 1]) ∧ Below W.heap.size W w' :=
  through_err (some ⟨B, 0, none⟩) (some ⟨B, 0, none⟩) 2 2 2 q 1 (by decide) W fun W _ => (check_bad _ _ _ _ hq W).mono fun e w' ⟨he, hw⟩ => ⟨he, hw ▸ Below.refl _ _⟩
end
theorem qs_bad : ∀ k, k < 2 → ¬ MM.Good (qs k) := fun k hk => match k, hk with | 0, _ => by decide | 1, _ => by decide
theorem ex_many (W : World) (B : Nat) : Calls Try.prog 7 #[.slice (some ⟨B, 0, none⟩) 1025 1025, .int .u64 0, .int .u64 2305843009213693951] W fun e w' => e = .returned (.tuple #[.slice none 0 0, .int .i64 40]) ∧ Below W.heap.size W w' :=
  weights_err (some ⟨B, 0, none⟩) 1025 1025 0 2305843009213693951 40 (by decide) W fun W _ => (check_many _ _ _ _ (by decide) (by decide) W).mono fun e w' ⟨he, hw⟩ => ⟨he, hw ▸ Below.refl _ _⟩
theorem tw_weights (W : World) (B n q : Nat) (l : List Nat) (hz : ∀ k, MM.ofL l k < 18446744073709551616) (hq : MM.Good q) (hn : n ≤ 12) (h6 : MM.tw6 q (MM.ofL l) n = 6) (hr : Row W ⟨B, 0, none⟩ n (MM.ofL l)) :
    Calls Try.prog 7 #[.slice (some ⟨B, 0, none⟩) n n, .int .u64 (0 : Nat), .int .u64 (q : Int)] W fun e w' => e = .returned (.tuple #[.slice none 0 0, .int .i64 6]) ∧ Below W.heap.size W w' :=
  weights_err (some ⟨B, 0, none⟩) n n 0 q 6 (by decide) W fun W' hb => (check_good (some ⟨B, 0, none⟩) n n q (MM.ofL l) hz hq (by omega) (sorts_short n hn) W' (row_rd (hr.below hb))).mono fun e w' ⟨he, hw⟩ => ⟨by rw [he, h6], hw⟩
theorem ex_twice (W : World) (B : Nat) (hr : Row W ⟨B, 0, none⟩ 2 (MM.ofL [1, 12])) : Calls Try.prog 7 #[.slice (some ⟨B, 0, none⟩) 2 2, .int .u64 0, .int .u64 11] W fun e w' => e = .returned (.tuple #[.slice none 0 0, .int .i64 6]) ∧ Below W.heap.size W w' :=
  tw_weights W B 2 11 [1, 12] (lt_small (by decide)) (by decide) (by decide) (by decide +kernel) hr
theorem ex_twice6 (W : World) (B : Nat) (hr : Row W ⟨B, 0, none⟩ 3 (MM.ofL [0, 2, 6])) : Calls Try.prog 7 #[.slice (some ⟨B, 0, none⟩) 3 3, .int .u64 0, .int .u64 6] W fun e w' => e = .returned (.tuple #[.slice none 0 0, .int .i64 6]) ∧ Below W.heap.size W w' :=
  tw_weights W B 3 6 [0, 2, 6] (lt_small (by decide)) (by decide) (by decide) (by decide +kernel) hr
theorem ex_none (W : World) (B : Nat) (hr : Row W ⟨B, 0, none⟩ 2 (MM.ofL [1, 3])) : Calls Try.prog 7 #[.slice (some ⟨B, 0, none⟩) 2 2, .int .u64 0, .int .u64 6] W fun e w' => e = .returned (.tuple #[.slice none 0 0, .int .i64 5]) ∧ Below W.heap.size W w' := by
  refine (weights_good (some ⟨B, 0, none⟩) 2 2 0 6 (MM.ofL [1, 3]) (lt_small (by decide)) (by decide) (by decide) (sorts_short 2 (by decide)) (by decide +kernel) W (row_rd hr)).mono ?_
  rintro e w' (⟨B', he, hm, hall⟩ | ⟨he, hb, _⟩)
  · exact absurd (hall 0 (by decide)) (by decide +kernel)
  · exact ⟨he, hb⟩
theorem ex_len (W : World) (B : Nat) : Calls Try.prog 8 #[.slice (some ⟨B, 0, none⟩) 2 2, .slice (some ⟨B, 0, none⟩) 1 2, .int .u64 11] W fun e w' => e = .returned (.tuple #[.slice none 0 0, .int .i64 1]) ∧ Below W.heap.size W w' :=
  through_len (some ⟨B, 0, none⟩) (some ⟨B, 0, none⟩) 2 1 2 2 11 (by decide) W
theorem ex_wnil (W : World) : Calls Try.prog 7 #[.slice none 0 0, .int .u64 5, .int .u64 11] W fun e w' => ∃ ao, e = .returned (.tuple #[.slice ao 0 0, .int .i64 0]) ∧ Below W.heap.size W w' := by
  refine (weights_good none 0 0 5 11 (MM.ofL []) (lt_small (by decide)) (by decide) (by decide) (sorts_short 0 (by decide)) (by decide +kernel) W (row_nil W _)).mono ?_
  rintro e w' (⟨B', he, hm, _⟩ | ⟨_, _, j, hj, _⟩)
  · exact ⟨_, he, hm.below⟩
  · omega
theorem ex_tnil (W : World) : Calls Try.prog 8 #[.slice none 0 0, .slice none 0 0, .int .u64 11] W fun e w' => ∃ ao, e = .returned (.tuple #[.slice ao 0 0, .int .i64 0]) ∧ Below W.heap.size W w' := by
  refine (through_good none none 0 0 0 11 (MM.ofL []) (MM.ofL []) (lt_small (by decide)) (lt_small (by decide)) (by decide) (by decide) (sorts_short 0 (by decide)) (by decide +kernel) W (row_nil W _) (row_nil W _)).mono ?_
  rintro e w' (⟨v, he, hm, hb, _⟩ | ⟨_, _, j, hj, _⟩)
  · rcases hm with ⟨_, rfl⟩ | ⟨B, cs, rfl, _⟩
    · exact ⟨_, he, hb⟩
    · exact ⟨_, he, hb⟩
  · omega
theorem ex_one (W : World) (B C : Nat) (hr : Row W ⟨B, 0, none⟩ 1 (MM.ofL [9])) (hs : Row W ⟨C, 0, none⟩ 1 (MM.ofL [15])) :
    Calls Try.prog 8 #[.slice (some ⟨B, 0, none⟩) 1 1, .slice (some ⟨C, 0, none⟩) 1 1, .int .u64 11] W fun e w' => ∃ B', e = .returned (.tuple #[.slice (some ⟨B', 0, none⟩) 1 1, .int .i64 0]) ∧ Row w' ⟨B', 0, none⟩ 1 (MM.ofL [4]) ∧ Below W.heap.size W w' := by
  refine (through_good (some ⟨B, 0, none⟩) (some ⟨C, 0, none⟩) 1 1 1 11 (MM.ofL [9]) (MM.ofL [15]) (lt_small (by decide)) (lt_small (by decide)) good11 (by decide) (sorts_short 1 (by decide)) (by decide +kernel) W (row_rd hr) (row_rd hs)).mono ?_
  have hst : MM.stP 11 (MM.ofL [9]) (MM.ofL [15]) (List.range 1) = MM.stepC 11 (MM.ofL [9]) (MM.ofL [15]) 1 MM.s0 0 := by
    rw [show List.range 1 = [] ++ [0] from rfl, MM.stP_snoc]
    exact MM.step_of 1 good11 ⟨by decide, by decide +kernel⟩
  rintro e w' (⟨v, he, hm, hb, _⟩ | ⟨_, _, j, hj, hne⟩)
  · rw [hst] at hm
    obtain ⟨B', rfl, _, hrow⟩ := hm.row (by decide)
    refine ⟨B', he, fun t ht => ?_, hb⟩
    have h := hrow t ht
    rw [show (MM.stepC 11 (MM.ofL [9]) (MM.ofL [15]) 1 MM.s0 0).2.1 t = MM.ofL [4] t by
      match t, ht with
      | 0, _ => decide +kernel] at h
    exact h
  · exfalso
    match j, hj with
    | 0, _ => exact hne (by decide +kernel)
theorem ex_two (W : World) (B : Nat) (hr : Row W ⟨B, 0, none⟩ 2 l12) :
    Calls Try.prog 7 #[.slice (some ⟨B, 0, none⟩) 2 2, .int .u64 2, .int .u64 11] W fun e w' => ∃ B', e = .returned (.tuple #[.slice (some ⟨B', 0, none⟩) 2 2, .int .i64 0]) ∧ Row w' ⟨B', 0, none⟩ 2 (MM.ofL [0, 1]) ∧ Below W.heap.size W w' := by
  refine (weights_good (some ⟨B, 0, none⟩) 2 2 2 11 l12 (lt_small (by decide)) good11 (by decide) (sorts_short 2 (by decide)) (by decide +kernel) W (row_rd hr)).mono ?_
  rintro e w' (⟨B', he, hm, _⟩ | ⟨_, _, j, hj, hne⟩)
  · refine ⟨B', he, fun t ht => ?_, hm.below⟩
    have h := hm.row t ht
    rw [show MM.wgtU 2 11 l12 2 t = MM.ofL [0, 1] t by
      match t, ht with
      | 0, _ => exact MM.wgt_of 10 good11 ⟨by decide, by decide +kernel⟩ (by decide +kernel)
      | 1, _ => exact MM.wgt_of 1 good11 ⟨by decide, by decide +kernel⟩ (by decide +kernel)] at h
    exact h
  · exfalso
    match j, hj with
    | 0, _ => exact hne (by decide +kernel)
    | 1, _ => exact hne (by decide +kernel)
theorem ex_zero (W : World) (B : Nat) (hr : Row W ⟨B, 0, none⟩ 1 (MM.ofL [4])) :
    Calls Try.prog 7 #[.slice (some ⟨B, 0, none⟩) 1 1, .int .u64 9, .int .u64 1] W fun e w' => ∃ B', e = .returned (.tuple #[.slice (some ⟨B', 0, none⟩) 1 1, .int .i64 0]) ∧ Row w' ⟨B', 0, none⟩ 1 (MM.ofL [0]) ∧ Below W.heap.size W w' := by
  refine (weights_good (some ⟨B, 0, none⟩) 1 1 9 1 (MM.ofL [4]) (lt_small (by decide)) (by decide) (by decide) (sorts_short 1 (by decide)) (by decide +kernel) W (row_rd hr)).mono ?_
  rintro e w' (⟨B', he, hm, _⟩ | ⟨_, _, j, hj, hne⟩)
  · refine ⟨B', he, fun t ht => ?_, hm.below⟩
    have h := hm.row t ht
    rw [show MM.wgtU 9 1 (MM.ofL [4]) 1 t = MM.ofL [0] t by
      match t, ht with
      | 0, _ => exact MM.wgt_of 0 (by decide) ⟨by decide, by decide +kernel⟩ (by decide +kernel)] at h
    exact h
  · exfalso
    match j, hj with
    | 0, _ => exact hne (by decide +kernel)
theorem ex_deg11 (W : World) (B : Nat) (hr : Row W ⟨B, 0, none⟩ 1 (MM.ofL [11])) :
    Calls Try.prog 10 #[.slice (some ⟨B, 0, none⟩) 1 1, .int .u64 11] W fun e w' => e = .returned (.int .i64 (-1)) ∧ Below W.heap.size W w' := by
  refine (degree_any (some ⟨B, 0, none⟩) 1 1 11 (MM.ofL [11]) (by decide) W (row_rd hr)).mono fun e w' ⟨he, hb⟩ => ⟨?_, hb⟩
  rw [he, show MM.degC (MM.ofL [11]) 11 1 = -1 by decide +kernel]
theorem ex_degnil (W : World) :
    Calls Try.prog 10 #[.slice none 0 0, .int .u64 11] W fun e w' => e = .returned (.int .i64 (-1)) ∧ Below W.heap.size W w' := by
  refine (degree_any none 0 0 11 (MM.ofL []) (by decide) W (row_nil W _)).mono fun e w' ⟨he, hb⟩ => ⟨?_, hb⟩
  rw [he, show MM.degC (MM.ofL []) 11 0 = -1 by decide +kernel]
theorem ex_evalnil (W : World) :
    Calls Try.prog 9 #[.slice none 0 0, .int .u64 5, .int .u64 11] W fun e w' => e = .returned (.int .u64 0) ∧ Below W.heap.size W w' :=
  (eval_any none 0 0 5 11 (MM.ofL []) (by decide) (by decide) W (row_nil W _)).mono fun e w' ⟨he, hb⟩ => ⟨by rw [he, show MM.hornL (MM.ofL []) 5 11 (down 0 0) = 0 by decide +kernel]; rfl, hb⟩
theorem ex_timesnil (W : World) (B : Nat) :
    Calls Try.prog 13 #[.slice none 0 0, .slice (some ⟨B, 0, none⟩) 2 2, .int .u64 11] W fun e w' => e = .returned (.slice none 0 0) ∧ W = w' :=
  times_none none (some ⟨B, 0, none⟩) 0 0 2 2 11 good11 (.inl rfl) W
theorem ex_sumnil (W : World) (B : Nat) (hr : Row W ⟨B, 0, none⟩ 2 l12) :
    Calls Try.prog 11 #[.slice none 0 0, .slice (some ⟨B, 0, none⟩) 2 2, .int .u64 11] W fun e w' => ∃ ao, e = .returned (.slice ao 2 2) ∧ Below W.heap.size W w' :=
  (sum_good none (some ⟨B, 0, none⟩) 0 0 2 2 11 (MM.ofL []) l12 (by decide) (by decide) good11 W (row_nil W _) (row_rd hr)).mono fun e w' ⟨he, hm⟩ => ⟨_, he, hm.below⟩
theorem ex_same (W : World) (B C : Nat) (hr : Row W ⟨B, 0, none⟩ 2 (MM.ofL [12, 0])) (hs : Row W ⟨C, 0, none⟩ 1 (MM.ofL [1])) :
    Calls Try.prog 14 #[.slice (some ⟨B, 0, none⟩) 2 2, .slice (some ⟨C, 0, none⟩) 1 1, .int .u64 11] W fun e w' => e = .returned (.bool true) ∧ Below W.heap.size W w' :=
  (same_any (some ⟨B, 0, none⟩) (some ⟨C, 0, none⟩) 2 2 1 1 11 (MM.ofL [12, 0]) (MM.ofL [1]) (by decide) (by decide) W (row_rd hr) (row_rd hs)).mono fun e w' ⟨he, hb⟩ => ⟨by rw [he, show MM.sameC 2 1 11 (MM.ofL [12, 0]) (MM.ofL [1]) (max 2 1) = true by decide +kernel], hb⟩
theorem ex_differ (W : World) (B C : Nat) (hr : Row W ⟨B, 0, none⟩ 2 (MM.ofL [1, 1])) (hs : Row W ⟨C, 0, none⟩ 1 (MM.ofL [1])) :
    Calls Try.prog 14 #[.slice (some ⟨B, 0, none⟩) 2 2, .slice (some ⟨C, 0, none⟩) 1 1, .int .u64 11] W fun e w' => e = .returned (.bool false) ∧ Below W.heap.size W w' :=
  (same_any (some ⟨B, 0, none⟩) (some ⟨C, 0, none⟩) 2 2 1 1 11 (MM.ofL [1, 1]) (MM.ofL [1]) (by decide) (by decide) W (row_rd hr) (row_rd hs)).mono fun e w' ⟨he, hb⟩ => ⟨by rw [he, show MM.sameC 2 1 11 (MM.ofL [1, 1]) (MM.ofL [1]) (max 2 1) = false by decide +kernel], hb⟩
end M
end Go.Proofs.Ytebplinighoagaa
