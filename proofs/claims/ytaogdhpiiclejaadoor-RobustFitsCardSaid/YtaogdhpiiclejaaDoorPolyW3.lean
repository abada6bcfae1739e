/- The walk of the program's product of polynomials. -/
import Derived.Test.YtaogdhpiiclejaaDoorPolyW2
import Derived.Test.YtaogdhpiiclejaaDoorQuietTail
namespace Go.Proofs.YtaogdhpiiclejaaDoor
open Go Go.RowKit Go.Lib
namespace MM
/-- The coefficient at n of a product, when i factors of the one have met all of the other, and the next has met j of them. -/
def cellT (la lb q : Nat) (a b : Nat → Nat) (i j n : Nat) : Nat := if i ≤ n ∧ n < i + j then convU la lb q a b n (i + 1) else convU la lb q a b n (min i (n + 1))
theorem cellT_zero (la lb q : Nat) (a b : Nat → Nat) (n : Nat) : cellT la lb q a b 0 0 n = 0 := by
  unfold cellT; rw [if_neg (by omega), Nat.zero_min]; rfl
theorem cellT_at {la lb q : Nat} {a b : Nat → Nat} (i j : Nat) : cellT la lb q a b i j (i + j) = convU la lb q a b (i + j) i := by
  unfold cellT; rw [if_neg (by omega), Nat.min_eq_left (by omega)]
theorem cellT_new {la lb q : Nat} {a b : Nat → Nat} {i j : Nat} (hi : i < la) (hj : j < lb) : cellT la lb q a b i (j + 1) (i + j) = addU (convU la lb q a b (i + j) i) (mulU (a i) (b j) q) q := by
  unfold cellT; rw [if_pos (by omega), convU, if_pos ⟨hi, by omega⟩, show i + j - i = j by omega]
theorem cellT_else {la lb q : Nat} {a b : Nat → Nat} {i j n : Nat} (h : n ≠ i + j) : cellT la lb q a b i (j + 1) n = cellT la lb q a b i j n := by
  unfold cellT
  by_cases h1 : i ≤ n ∧ n < i + j
  · rw [if_pos h1, if_pos (by omega)]
  · rw [if_neg h1, if_neg (by omega)]
theorem cellT_next {la lb q : Nat} {a b : Nat → Nat} {i : Nat} (n : Nat) : cellT la lb q a b i lb n = cellT la lb q a b (i + 1) 0 n := by
  unfold cellT
  rw [if_neg (show ¬ (i + 1 ≤ n ∧ n < i + 1 + 0) by omega)]
  by_cases h1 : i ≤ n ∧ n < i + lb
  · rw [if_pos h1, Nat.min_eq_left (by omega)]
  · rw [if_neg h1]
    by_cases h2 : n < i
    · rw [Nat.min_eq_right (by omega), Nat.min_eq_right (by omega)]
    · rw [Nat.min_eq_left (by omega), Nat.min_eq_left (by omega), convU, if_neg (by omega)]
theorem convU_far {la lb q : Nat} {a b : Nat → Nat} {n : Nat} : ∀ i, la ≤ i → convU la lb q a b n i = convU la lb q a b n la
  | 0, h => by rw [show la = 0 by omega]
  | i + 1, h => by
    by_cases e : la = i + 1
    · rw [e]
    · rw [convU, if_neg (by omega), convU_far i (by omega)]
theorem cellT_end {la lb q : Nat} {a b : Nat → Nat} (n : Nat) : cellT la lb q a b la 0 n = timesU la lb q a b n := by
  unfold cellT timesU
  rw [if_neg (by omega)]
  by_cases h : n + 1 ≤ la
  · rw [Nat.min_eq_right h]
  · rw [Nat.min_eq_left (by omega), convU_far (n + 1) (by omega)]
end MM
namespace M
set_option maxHeartbeats 400000 in
theorem times_bad (ao bo : Option Addr) (la ca lb cb q : Nat) (hq : ¬ MM.Good q) (W : World) :
    Calls Tryd.prog 32 #[.slice ao la ca, .slice bo lb cb, .int .u64 (q : Int)] W fun e w' => e = .returned (.slice none 0 0) ∧ W = w' := by
  have HY := Lib.hid (allow_no q hq)
  clear hq
  go_enter Tryd.func32, Tryd.ntmps32
  go_wp2_with (go_at_call 39; (with_reducible refine (HY.out _).mono ?_); rintro e w' ⟨rfl, rfl⟩)
  go_ret
  exact ⟨rfl, rfl⟩
set_option maxHeartbeats 400000 in
theorem times_none (ao bo : Option Addr) (la ca lb cb q : Nat) (hq : MM.Good q) (h0 : la = 0 ∨ lb = 0) (W : World) :
    Calls Tryd.prog 32 #[.slice ao la ca, .slice bo lb cb, .int .u64 (q : Int)] W fun e w' => e = .returned (.slice none 0 0) ∧ W = w' := by
  have HY := Lib.hid (allow_yes q hq)
  clear hq
  rcases Nat.eq_zero_or_pos la with rfl | hl
  · go_enter Tryd.func32, Tryd.ntmps32
    go_wp2_with (go_at_call 39; (with_reducible refine (HY.out _).mono ?_); rintro e w' ⟨rfl, rfl⟩)
    go_ret
    exact ⟨rfl, rfl⟩
  · obtain rfl : lb = 0 := by omega
    have h1 : ((la : Int) == 0) = false := by simp; omega
    clear h0 hl
    go_enter Tryd.func32, Tryd.ntmps32
    go_wp2_with (go_at_call 39; (with_reducible refine (HY.out _).mono ?_); rintro e w' ⟨rfl, rfl⟩)
    go_ret
    exact ⟨rfl, rfl⟩
set_option maxHeartbeats 8000000 in
theorem times_good (ao bo : Option Addr) (la ca lb cb q : Nat) (a b : Nat → Nat) (hla : la ≤ 1000000) (hlb : lb ≤ 1000000) (ha0 : 0 < la) (hb0 : 0 < lb) (hal : ∀ k, a k < 18446744073709551616) (hbl : ∀ k, b k < 18446744073709551616) (hq : MM.Good q) (W : World) (ha : Rd W ao la a) (hb : Rd W bo lb b) :
    Calls Tryd.prog 32 #[.slice ao la ca, .slice bo lb cb, .int .u64 (q : Int)] W fun e w' => e = .returned (.slice (some ⟨W.heap.size, 0, none⟩) (la + lb - 1) (la + lb - 1)) ∧ Mine W W.heap.size (la + lb - 1) (MM.timesU la lb q a b) w' := by
  have HY := Lib.hid (allow_yes q hq)
  have HRA := Lib.hid ha
  have HRB := Lib.hid hb
  have HAL := Lib.hid hal
  have HBL := Lib.hid hbl
  obtain ⟨N, hN⟩ : ∃ N, la + lb - 1 = N := ⟨_, rfl⟩
  have hNl : la + lb = N + 1 := by omega
  rw [hN]
  have hNI : (la : Int) + (lb : Int) - 1 = (N : Int) := by omega
  have HM0 := Mine.made W N
  have hmk := run_made N (by omega)
  obtain ⟨W1, hW1⟩ : ∃ W1, W.alloc (.cells (madeCells (Value.int .u64 0).cells (N * 1)) 23) = W1 := ⟨_, rfl⟩
  obtain ⟨B, hB⟩ : ∃ B, W.heap.size = B := ⟨_, rfl⟩
  rw [hW1] at HM0
  rw [hB] at HM0 ⊢
  have hmk0 : (Instr.makeSlice 22 (.int .i64 (N : Int)) (.int .i64 (N : Int))).run Tryd.prog W = .ok (.slice (some ⟨B, 0, none⟩) N N) W1 := by rw [hmk, hW1, hB]
  have HM1 : Hid (Mine W B N (MM.cellT la lb q a b 0 0) W1) := Lib.hid (HM0.congr fun k _ => (MM.cellT_zero la lb q a b k).symm)
  have h1 : ((la : Int) == 0) = false := by simp; omega
  have h2 : ((lb : Int) == 0) = false := by simp; omega
  have HQ := Lib.hid hq
  clear hN HM0 hmk hW1 hB hq ha hb hal hbl
  go_enter Tryd.func32, Tryd.ntmps32
  go_wp2_with (go_at_call 39; (with_reducible refine (HY.out _).mono ?_); rintro e w' ⟨rfl, rfl⟩)
  clear hNI h1 h2 hmk0
  go_loopw [34] (fun s34 wx => ∃ i : Nat, i ≤ la ∧ s34 = .int .i64 (i : Int) ∧ Hid (Mine W B N (MM.cellT la lb q a b i 0) wx)) (fun s34 _ => la - (RowKit.intOf s34).toNat)
  case atStart => exact ⟨0, Nat.zero_le _, rfl, HM1⟩
  case round =>
    clear HM1
    obtain ⟨i, hi, rfl, HJ⟩ := hrel
    obtain ⟨wo, hwo⟩ : ∃ wo : World, wo = wr := ⟨_, rfl⟩
    subst hwo
    by_cases hlt : i < la
    · obtain ⟨ad, rfl, hca⟩ := (HRA.out.below HJ.out.below).at_ hlt
      go_wp2_with fail
      clear hca
      go_loopw [41] (fun s41 wx => ∃ j : Nat, j ≤ lb ∧ s41 = .int .i64 (j : Int) ∧ Hid (Mine W B N (MM.cellT la lb q a b i j) wx)) (fun s41 _ => lb - (RowKit.intOf s41).toNat)
      case atStart => exact ⟨0, Nat.zero_le _, rfl, HJ⟩
      case round =>
        clear HJ
        obtain ⟨j, hj, rfl, HI⟩ := hrel
        by_cases hlj : j < lb
        · obtain ⟨bd, rfl, hcb⟩ := (HRB.out.below HI.out.below).at_ hlj
          go_upto_region 10 with fail
          clear hcb
          obtain ⟨s, hs⟩ : ∃ s, i + j = s := ⟨_, rfl⟩
          have hsN : s < N := by omega
          have HC0 : Hid (MM.cellT la lb q a b i j s = MM.convU la lb q a b s i) := Lib.hid (by rw [← hs]; exact MM.cellT_at i j)
          have HC1 : Hid (MM.cellT la lb q a b i (j + 1) s = MM.addU (MM.convU la lb q a b s i) (MM.mulU (a i) (b j) q) q) := Lib.hid (by rw [← hs]; exact MM.cellT_new hlt hlj)
          have HNN : Hid (∀ m, Mine W B N (MM.cellT la lb q a b i (j + 1)) ((wr.drewN m).setCell ⟨B, s, none⟩ (.int .u64 ((MM.addU (MM.convU la lb q a b s i) (MM.mulU (a i) (b j) q) q : Nat) : Int)))) := Lib.hid fun m => (HI.out.drewN m).set s _ fun n hn => by
            by_cases e : n = s
            · subst e; rw [if_pos rfl]; exact HC1.out
            · rw [if_neg e]; exact MM.cellT_else (by omega)
          have hcl : wr.cell? ⟨B, s, none⟩ = some (.int .u64 ((MM.convU la lb q a b s i : Nat) : Int)) := by rw [← HC0.out]; exact HI.out.cell hsN
          have hfr : wr.frozen? ⟨B, s, none⟩ = false := HI.out.free s
          have HM := ret_mulU (a i) (b j) q (HAL.out i) (HBL.out j)
          have HA := ret_addU (MM.convU la lb q a b s i) (MM.mulU (a i) (b j) q) q
          generalize MM.mulU (a i) (b j) q = x1 at *
          generalize MM.addU (MM.convU la lb q a b s i) x1 q = x2 at *
          generalize MM.convU la lb q a b s i = x0 at *
          have hsI : (i : Int) + (j : Int) = (s : Int) := by omega
          have hsw : IntKind.i64.wrap (s : Int) = (s : Int) := IntWalk.i64_in _ (by omega)
          have hs0 : (0 : Int) ≤ (s : Int) := Int.natCast_nonneg _
          have hs1 : (s : Int) < (N : Int) := by omega
          clear hs HC0 HC1
          refine QT.region 17 (by kernel_rfl) (by kernel_rfl) ?_
          simp only [List.take_succ_cons, List.take_zero, List.drop_succ_cons, List.drop_zero]
          repeat (quiet_step ((first | (go_at_call 23; exact (HM).quiet) | (go_at_call 35; exact (HA).quiet))))
          refine wpQuiet_nil ?_
          intro nq
          go_wp2_with fail
          clear hsw hsI hs0 hs1 hcl hfr HM HA
          go_roundw
          case rel => exact ⟨j + 1, by omega, by go_num, Lib.hid (HNN.out nq)⟩
          case measure => simp [RowKit.intOf]; omega
        · obtain rfl : j = lb := by omega
          go_wp2_with fail
          go_roundw
          case rel => exact ⟨i + 1, by omega, by go_num, Lib.hid (HI.out.congr fun n _ => MM.cellT_next n)⟩
          case measure => simp [RowKit.intOf]; omega
    · obtain rfl : i = la := by omega
      go_wp2_with fail
      go_ret
      exact ⟨rfl, HJ.out.congr fun n _ => MM.cellT_end n⟩
end M
end Go.Proofs.YtaogdhpiiclejaaDoor
