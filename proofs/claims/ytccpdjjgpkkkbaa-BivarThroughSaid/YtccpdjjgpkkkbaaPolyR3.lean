/- The walk of the document's own Times (consistoryref03): what it answers. -/
import Derived.Test.YtccpdjjgpkkkbaaPolyR2
namespace Go.Proofs.Ytccpdjjgpkkkbaa
open Go Go.RowKit Go.Lib
namespace M

set_option maxRecDepth 100000 in
set_option maxHeartbeats 8000000 in
theorem rpoly_times_good (ao bo : Option Addr) (la ca lb cb q : Nat) (a b : Nat → Nat) (hla : la ≤ 1000000) (hlb : lb ≤ 1000000) (ha0 : 0 < la) (hb0 : 0 < lb) (hbl : ∀ k, b k < 18446744073709551616) (hq : MM.Good q) (W : World) (ha : Rd W ao la a) (hb : Rd W bo lb b) :
    Calls Try.prog 53 #[.slice ao la ca, .slice bo lb cb, .int .u64 (q : Int)] W (Gives W (la + lb - 1) (MM.timesU la lb q a b)) := by
  have HRA := Lib.hid ha
  have HRB := Lib.hid hb
  have HBL := Lib.hid hbl
  have HY := rmay_yes q hq
  have HS := Lib.hid (Own.start W (MM.timesU la lb q a b))
  clear hq ha hb hbl
  obtain ⟨N, hN⟩ : ∃ N, la + lb - 1 = N := ⟨_, rfl⟩
  have hNi : (la : Int) + (lb : Int) - 1 = (N : Int) := by omega
  have hNl : la + lb = N + 1 := by omega
  rw [hN]
  clear hN
  have HNI := Lib.hid hNi
  clear hNi
  have ha1 : (0 : Int) < (la : Int) := by omega
  have hb1 : (0 : Int) < (lb : Int) := by omega
  obtain ⟨i0, hi, hz0, hz1, hz2⟩ := info_parts info_u64
  go_enter Try.func53, Try.ntmps53
  go_wp2_with fail
  go_loopw [7, 8] (fun s7 s8 wx => ∃ k : Nat, k ≤ N ∧ s8 = .int .i64 (k : Int) ∧ Hid (Own W W.heap.size s7 k (MM.timesU la lb q a b) wx)) (fun _ s8 _ => N - (RowKit.intOf s8).toNat)
  case atStart => exact ⟨0, Nat.zero_le _, rfl, HS⟩
  case round =>
    clear HS
    obtain ⟨k, hk, rfl, HJ⟩ := hrel
    rename_i wr
    by_cases hlt : k < N
    · have hk1 : (k : Int) < (la : Int) + (lb : Int) - 1 := by have := HNI.out; omega
      go_wp2_with (go_at_call 46; (with_reducible refine (HY.at _).mono ?_); rintro e w' ⟨rfl, nd, rfl⟩)
      clear hk1
      go_loopw [9, 10] (fun s9 s10 wx => ∃ i : Nat, i ≤ k + 1 ∧ s10 = .int .i64 (i : Int) ∧ s9 = .int .u64 ((MM.convU la lb q a b k i : Nat) : Int) ∧ Hid (Own W W.heap.size u7 k (MM.timesU la lb q a b) wx)) (fun _ s10 _ => k + 1 - (RowKit.intOf s10).toNat)
      case atStart => exact ⟨0, Nat.zero_le _, rfl, rfl, Lib.hid (HJ.out.drewN _)⟩
      case round =>
        clear HJ
        obtain ⟨i, hik, rfl, rfl, HI⟩ := hrel
        by_cases hil : i ≤ k
        · have hil1 : (i : Int) ≤ (k : Int) := by omega
          obtain ⟨j, hj⟩ : ∃ j, k - i = j := ⟨_, rfl⟩
          have hjI : (k : Int) - (i : Int) = (j : Int) := by omega
          by_cases hc : i < la ∧ j < lb
          · obtain ⟨hc1, hc2⟩ := hc
            obtain ⟨ad, rfl, hca⟩ := (HRA.out.below HI.out.below).at_ hc1
            obtain ⟨bd, rfl, hcb⟩ := (HRB.out.below HI.out.below).at_ hc2
            have HV : Hid (MM.convU la lb q a b k (i + 1) = MM.addU (MM.convU la lb q a b k i) (MM.mulU (a i) (b j) q) q) := Lib.hid (by rw [MM.convU, if_pos (by rw [hj]; exact ⟨hc1, hc2⟩), hj])
            have HM := rmulU (a i) (b j) q (HBL.out j)
            have HA := raddU (MM.convU la lb q a b k i) (MM.mulU (a i) (b j) q) q
            generalize MM.mulU (a i) (b j) q = x1 at *
            generalize MM.addU (MM.convU la lb q a b k i) x1 q = x2 at *
            generalize MM.convU la lb q a b k i = x0 at *
            clear hj
            have hjw : IntKind.i64.wrap (j : Int) = (j : Int) := IntWalk.i64_in _ (by omega)
            have hj0 : (0 : Int) ≤ (j : Int) := Int.natCast_nonneg _
            have hi0 : (0 : Int) ≤ (i : Int) := Int.natCast_nonneg _
            have hi1 : (i : Int) < (la : Int) := by omega
            have hj1 : (j : Int) < (lb : Int) := by omega
            go_upto_region 10 with fail
            go_quiet ((first | (go_at_call 29; exact HM.quiet) | (go_at_call 31; exact HA.quiet)))
            clear hjw hjI
            go_wp2_with fail
            go_roundw
            case rel => exact ⟨i + 1, by omega, by go_num, by rw [HV.out], Lib.hid (HI.out.drewN _)⟩
            case measure => simp [RowKit.intOf]; omega
          · have HV : Hid (MM.convU la lb q a b k (i + 1) = MM.convU la lb q a b k i) := Lib.hid (by rw [MM.convU, if_neg (by rw [hj]; exact hc)])
            generalize MM.convU la lb q a b k i = x0 at *
            clear hj
            by_cases hc1 : i < la
            · have hc2 : ¬ j < lb := fun h => hc ⟨hc1, h⟩
              clear hc
              go_wp2_with fail
              clear hjI
              go_roundw
              case rel => exact ⟨i + 1, by omega, by go_num, by rw [HV.out], HI⟩
              case measure => simp [RowKit.intOf]; omega
            · clear hc hjI
              go_wp2_with fail
              go_roundw
              case rel => exact ⟨i + 1, by omega, by go_num, by rw [HV.out], HI⟩
              case measure => simp [RowKit.intOf]; omega
        · have hil1 : ¬ (i : Int) ≤ (k : Int) := by omega
          have HX : Hid (MM.convU la lb q a b k i = MM.timesU la lb q a b k) := Lib.hid (by rw [show i = k + 1 by omega]; rfl)
          have HZ : Hid (zlist k (MM.timesU la lb q a b) ++ [.int .u64 ((MM.convU la lb q a b k i : Nat) : Int)] = zlist (k + 1) (MM.timesU la lb q a b)) := Lib.hid (by rw [HX.out]; exact zlist_succ k _)
          generalize MM.convU la lb q a b k i = x at *
          clear HX
          go_wp2_with (at_builtin; first | (refine wpList_append_own _ rfl _ _ 23 rfl W.heap.size 22 i0 (.int .u64 0) 1 8 Try.underlying23 hi hz0 hz1 hz2 rfl (by decide) u7 k (zlist k (MM.timesU la lb q a b)) rfl (HI.out.alloc _).own ⟨wr.heap.size, 0, none⟩ 1 1 [.int .u64 ((x : Nat) : Int)] rfl rfl (World.news_of_block (cs := #[.int .u64 ((x : Nat) : Int)]) (t := 22) (fr := (0, 0)) (heap_alloc_new _ _)) (by simp [Value.oneCell']) (by unfold maxLen; omega) (by omega) (HI.out.alloc _).size ?_; intro v2 w2 hown2 hgr2 hnil2; have HN := Lib.hid (Own.grow (HI.out.alloc _) hown2 (HZ.out) hgr2); clear hown2 hgr2 hnil2) | (refine wpList_append_own _ rfl _ _ 23 rfl W.heap.size 22 i0 (.int .u64 0) 1 8 Try.underlying23 hi hz0 hz1 hz2 rfl (by decide) u7 k (zlist k (MM.timesU la lb q a b)) rfl ((HI.out.drewN _).alloc _).own ⟨wr.heap.size, 0, none⟩ 1 1 [.int .u64 ((x : Nat) : Int)] rfl rfl (World.news_of_block (cs := #[.int .u64 ((x : Nat) : Int)]) (t := 22) (fr := (0, 0)) (heap_alloc_new _ _)) (by simp [Value.oneCell']) (by unfold maxLen; omega) (by omega) ((HI.out.drewN _).alloc _).size ?_; intro v2 w2 hown2 hgr2 hnil2; have HN := Lib.hid (Own.grow ((HI.out.drewN _).alloc _) hown2 (HZ.out) hgr2); clear hown2 hgr2 hnil2))
          go_roundw
          case rel => exact ⟨k + 1, by omega, by go_num, HN⟩
          case measure => simp [RowKit.intOf]; omega
    · have hk1 : ¬ (k : Int) < (la : Int) + (lb : Int) - 1 := by have := HNI.out; omega
      obtain rfl : k = N := by omega
      go_wp2_with (go_at_call 46; (with_reducible refine (HY.at _).mono ?_); rintro e w' ⟨rfl, nd, rfl⟩)
      go_ret
      exact (HJ.out.drewN _).gives

set_option maxRecDepth 100000 in
set_option maxHeartbeats 400000 in
theorem rpoly_times_bad (ao bo : Option Addr) (la ca lb cb q : Nat) (z : Nat → Nat) (hq : ¬ MM.Good q) (W : World) :
    Calls Try.prog 53 #[.slice ao la ca, .slice bo lb cb, .int .u64 (q : Int)] W (Gives W 0 z) := by
  have HS := Lib.hid (Own.start W z)
  have HY := rmay_no q hq
  clear hq
  go_enter Try.func53, Try.ntmps53
  go_wp2_with fail
  refine wp_loop_rounds 1 ?_
  rw [rounds_succ]
  go_wp2_with (go_at_call 46; (with_reducible refine (HY.at _).mono ?_); rintro e w' ⟨rfl, nd, rfl⟩)
  go_ret
  exact (HS.out.drewN _).gives

set_option maxRecDepth 100000 in
set_option maxHeartbeats 400000 in
theorem rpoly_times_na (ao bo : Option Addr) (la ca lb cb q : Nat) (z : Nat → Nat) (hq : MM.Good q) (h0 : la = 0) (W : World) :
    Calls Try.prog 53 #[.slice ao la ca, .slice bo lb cb, .int .u64 (q : Int)] W (Gives W 0 z) := by
  have HS := Lib.hid (Own.start W z)
  have HY := rmay_yes q hq
  have h1 : ¬ (0 : Int) < (la : Int) := by omega
  clear hq h0
  go_enter Try.func53, Try.ntmps53
  go_wp2_with fail
  refine wp_loop_rounds 1 ?_
  rw [rounds_succ]
  go_wp2_with (go_at_call 46; (with_reducible refine (HY.at _).mono ?_); rintro e w' ⟨rfl, nd, rfl⟩)
  go_ret
  exact (HS.out.drewN _).gives

set_option maxRecDepth 100000 in
set_option maxHeartbeats 400000 in
theorem rpoly_times_nb (ao bo : Option Addr) (la ca lb cb q : Nat) (z : Nat → Nat) (hq : MM.Good q) (ha : 0 < la) (h0 : lb = 0) (W : World) :
    Calls Try.prog 53 #[.slice ao la ca, .slice bo lb cb, .int .u64 (q : Int)] W (Gives W 0 z) := by
  have HS := Lib.hid (Own.start W z)
  have HY := rmay_yes q hq
  have h1 : (0 : Int) < (la : Int) := by omega
  have h2 : ¬ (0 : Int) < (lb : Int) := by omega
  clear hq h0 ha
  go_enter Try.func53, Try.ntmps53
  go_wp2_with fail
  refine wp_loop_rounds 1 ?_
  rw [rounds_succ]
  go_wp2_with (go_at_call 46; (with_reducible refine (HY.at _).mono ?_); rintro e w' ⟨rfl, nd, rfl⟩)
  go_ret
  exact (HS.out.drewN _).gives

end M
end Go.Proofs.Ytccpdjjgpkkkbaa
