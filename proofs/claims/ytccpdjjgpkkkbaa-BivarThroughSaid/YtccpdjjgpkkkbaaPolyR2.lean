/- The walks of the document's own Degree, Scale, Sum, Same, Numbers (consistoryref03): what each answers. -/
import Derived.Test.YtccpdjjgpkkkbaaPolyR1
namespace Go.Proofs.Ytccpdjjgpkkkbaa
open Go Go.RowKit Go.Lib
namespace M

set_option maxHeartbeats 2000000 in
theorem rscale_good (ao : Option Addr) (n cap f q : Nat) (z : Nat → Nat) (hn : n ≤ 1000000) (hf : f < 18446744073709551616) (hq : MM.Good q) (W : World) (hr : Rd W ao n z) :
    Calls Try.prog 52 #[.slice ao n cap, .int .u64 (f : Int), .int .u64 (q : Int)] W (Gives W n (MM.scaleU f q z)) := by
  have HR := Lib.hid hr
  have HY := rmay_yes q hq
  have HS := Lib.hid (Own.start W (MM.scaleU f q z))
  clear hr hq
  obtain ⟨i0, hi, hz0, hz1, hz2⟩ := info_parts info_u64
  go_enter Try.func52, Try.ntmps52
  go_wp2_with fail
  go_loopw [7, 8] (fun s7 s8 wx => ∃ k : Nat, k ≤ n ∧ s8 = .int .i64 (k : Int) ∧ Hid (Own W W.heap.size s7 k (MM.scaleU f q z) wx)) (fun _ s8 _ => n - (RowKit.intOf s8).toNat)
  case atStart => exact ⟨0, Nat.zero_le _, rfl, HS⟩
  case round =>
    clear HS
    obtain ⟨k, hk, rfl, HJ⟩ := hrel
    rename_i wr
    by_cases hlt : k < n
    · obtain ⟨ad, rfl, hc⟩ := (HR.out.below HJ.out.below).at_ hlt
      have HM := rmulU (z k) f q hf
      have HZ : Hid (zlist k (MM.scaleU f q z) ++ [.int .u64 ((MM.mulU (z k) f q : Nat) : Int)] = zlist (k + 1) (MM.scaleU f q z)) := Lib.hid (zlist_succ k _)
      generalize MM.mulU (z k) f q = x at *
      go_wp2_with (first | (go_at_call 46; (with_reducible refine (HY.at _).mono ?_); rintro e w' ⟨rfl, nd, rfl⟩) | (go_at_call 29; (with_reducible refine (HM.at _).mono ?_); rintro e w' ⟨rfl, nd, rfl⟩) | (at_builtin; first | (refine wpList_append_own _ rfl _ _ 23 rfl W.heap.size 22 i0 (.int .u64 0) 1 8 Try.underlying23 hi hz0 hz1 hz2 rfl (by decide) u7 k (zlist k (MM.scaleU f q z)) rfl (HJ.out.alloc _).own ⟨wr.heap.size, 0, none⟩ 1 1 [.int .u64 ((x : Nat) : Int)] rfl rfl (World.news_of_block (cs := #[.int .u64 ((x : Nat) : Int)]) (t := 22) (fr := (0, 0)) (heap_alloc_new _ _)) (by simp [Value.oneCell']) (by unfold maxLen; omega) (by omega) (HJ.out.alloc _).size ?_; intro v2 w2 hown2 hgr2 hnil2; have HN := Lib.hid (Own.grow (HJ.out.alloc _) hown2 (HZ.out) hgr2); clear hown2 hgr2 hnil2) | (refine wpList_append_own _ rfl _ _ 23 rfl W.heap.size 22 i0 (.int .u64 0) 1 8 Try.underlying23 hi hz0 hz1 hz2 rfl (by decide) u7 k (zlist k (MM.scaleU f q z)) rfl ((HJ.out.drewN _).alloc _).own ⟨wr.heap.size, 0, none⟩ 1 1 [.int .u64 ((x : Nat) : Int)] rfl rfl (World.news_of_block (cs := #[.int .u64 ((x : Nat) : Int)]) (t := 22) (fr := (0, 0)) (heap_alloc_new _ _)) (by simp [Value.oneCell']) (by unfold maxLen; omega) (by omega) ((HJ.out.drewN _).alloc _).size ?_; intro v2 w2 hown2 hgr2 hnil2; have HN := Lib.hid (Own.grow ((HJ.out.drewN _).alloc _) hown2 (HZ.out) hgr2); clear hown2 hgr2 hnil2)))
      go_roundw
      case rel => exact ⟨k + 1, by omega, by go_num, HN⟩
      case measure => simp [RowKit.intOf]; omega
    · obtain rfl : k = n := by omega
      go_wp2_with (go_at_call 46; (with_reducible refine (HY.at _).mono ?_); rintro e w' ⟨rfl, nd, rfl⟩)
      go_ret
      exact (HJ.out.drewN _).gives
set_option maxHeartbeats 400000 in
theorem rscale_bad (ao : Option Addr) (n cap f q : Nat) (z : Nat → Nat) (hq : ¬ MM.Good q) (W : World) :
    Calls Try.prog 52 #[.slice ao n cap, .int .u64 (f : Int), .int .u64 (q : Int)] W (Gives W 0 z) := by
  have HY := rmay_no q hq
  have HS := Lib.hid (Own.start W z)
  clear hq
  go_enter Try.func52, Try.ntmps52
  go_wp2_with fail
  refine wp_loop_rounds 1 ?_
  rw [rounds_succ]
  go_wp2_with (go_at_call 46; (with_reducible refine (HY.at _).mono ?_); rintro e w' ⟨rfl, nd, rfl⟩)
  go_ret
  exact (HS.out.drewN _).gives

set_option maxHeartbeats 4000000 in
theorem rsum_good (ao bo : Option Addr) (la ca lb cb q : Nat) (a b : Nat → Nat) (hla : la ≤ 1000000) (hlb : lb ≤ 1000000) (hq : MM.Good q) (W : World) (ha : Rd W ao la a) (hb : Rd W bo lb b) :
    Calls Try.prog 51 #[.slice ao la ca, .slice bo lb cb, .int .u64 (q : Int)] W (Gives W (max la lb) (MM.sumU la lb q a b)) := by
  have CA : ∀ (k : Nat) (W' : World), Below W.heap.size W W' → Calls Try.prog 64 #[.slice ao la ca, .int .i64 (k : Int), .int .u64 (q : Int)] W' fun e w' => e = .returned (.int .u64 ((MM.atU la q a k : Nat) : Int)) ∧ ∃ m, w' = W'.drewN m := fun k W' h => rcoef_any ao la ca k q a hq.1 W' (ha.below h)
  have CB : ∀ (k : Nat) (W' : World), Below W.heap.size W W' → Calls Try.prog 64 #[.slice bo lb cb, .int .i64 (k : Int), .int .u64 (q : Int)] W' fun e w' => e = .returned (.int .u64 ((MM.atU lb q b k : Nat) : Int)) ∧ ∃ m, w' = W'.drewN m := fun k W' h => rcoef_any bo lb cb k q b hq.1 W' (hb.below h)
  have HCA := Lib.hid CA
  have HCB := Lib.hid CB
  clear CA CB ha hb
  have HY := rmay_yes q hq
  have HS := Lib.hid (Own.start W (MM.sumU la lb q a b))
  clear hq
  obtain ⟨N, hN⟩ : ∃ N, max la lb = N := ⟨_, rfl⟩
  have hNa : la ≤ N := by omega
  have hNb : lb ≤ N := by omega
  have hNo : N ≤ la ∨ N ≤ lb := by omega
  rw [hN]
  clear hN
  obtain ⟨i0, hi, hz0, hz1, hz2⟩ := info_parts info_u64
  go_enter Try.func51, Try.ntmps51
  go_wp2_with fail
  go_loopw [7, 8] (fun s7 s8 wx => ∃ k : Nat, k ≤ N ∧ s8 = .int .i64 (k : Int) ∧ Hid (Own W W.heap.size s7 k (MM.sumU la lb q a b) wx)) (fun _ s8 _ => N - (RowKit.intOf s8).toNat)
  case atStart => exact ⟨0, Nat.zero_le _, rfl, HS⟩
  case round =>
    clear HS
    obtain ⟨k, hk, rfl, HJ⟩ := hrel
    rename_i wr
    by_cases hlt : k < N
    · have CA := HCA.out k
      have CB := HCB.out k
      have HA := raddU (MM.atU la q a k) (MM.atU lb q b k) q
      have HZ : Hid (zlist k (MM.sumU la lb q a b) ++ [.int .u64 ((MM.addU (MM.atU la q a k) (MM.atU lb q b k) q : Nat) : Int)] = zlist (k + 1) (MM.sumU la lb q a b)) := Lib.hid (zlist_succ k _)
      generalize MM.addU (MM.atU la q a k) (MM.atU lb q b k) q = x at *
      generalize MM.atU la q a k = xa at *
      generalize MM.atU lb q b k = xb at *
      rcases (show k < la ∨ ¬ k < la ∧ k < lb by omega) with h1 | ⟨h1, h2⟩
      · go_wp2_with (first | (go_at_call 46; (with_reducible refine (HY.at _).mono ?_); rintro e w' ⟨rfl, nd, rfl⟩) | (go_at_call 64; (first | (with_reducible refine (CA _ HJ.out.below).mono ?_) | (with_reducible refine (CA _ (HJ.out.drewN _).below).mono ?_) | (with_reducible refine (CB _ HJ.out.below).mono ?_) | (with_reducible refine (CB _ (HJ.out.drewN _).below).mono ?_)); rintro e w' ⟨rfl, nd, rfl⟩) | (go_at_call 31; (with_reducible refine (HA.at _).mono ?_); rintro e w' ⟨rfl, nd, rfl⟩) | (at_builtin; first | (refine wpList_append_own _ rfl _ _ 23 rfl W.heap.size 22 i0 (.int .u64 0) 1 8 Try.underlying23 hi hz0 hz1 hz2 rfl (by decide) u7 k (zlist k (MM.sumU la lb q a b)) rfl (HJ.out.alloc _).own ⟨wr.heap.size, 0, none⟩ 1 1 [.int .u64 ((x : Nat) : Int)] rfl rfl (World.news_of_block (cs := #[.int .u64 ((x : Nat) : Int)]) (t := 22) (fr := (0, 0)) (heap_alloc_new _ _)) (by simp [Value.oneCell']) (by unfold maxLen; omega) (by omega) (HJ.out.alloc _).size ?_; intro v2 w2 hown2 hgr2 hnil2; have HN := Lib.hid (Own.grow (HJ.out.alloc _) hown2 (HZ.out) hgr2); clear hown2 hgr2 hnil2) | (refine wpList_append_own _ rfl _ _ 23 rfl W.heap.size 22 i0 (.int .u64 0) 1 8 Try.underlying23 hi hz0 hz1 hz2 rfl (by decide) u7 k (zlist k (MM.sumU la lb q a b)) rfl ((HJ.out.drewN _).alloc _).own ⟨wr.heap.size, 0, none⟩ 1 1 [.int .u64 ((x : Nat) : Int)] rfl rfl (World.news_of_block (cs := #[.int .u64 ((x : Nat) : Int)]) (t := 22) (fr := (0, 0)) (heap_alloc_new _ _)) (by simp [Value.oneCell']) (by unfold maxLen; omega) (by omega) ((HJ.out.drewN _).alloc _).size ?_; intro v2 w2 hown2 hgr2 hnil2; have HN := Lib.hid (Own.grow ((HJ.out.drewN _).alloc _) hown2 (HZ.out) hgr2); clear hown2 hgr2 hnil2)))
        go_roundw
        case rel => exact ⟨k + 1, by omega, by go_num, HN⟩
        case measure => simp [RowKit.intOf]; omega
      · go_wp2_with (first | (go_at_call 46; (with_reducible refine (HY.at _).mono ?_); rintro e w' ⟨rfl, nd, rfl⟩) | (go_at_call 64; (first | (with_reducible refine (CA _ HJ.out.below).mono ?_) | (with_reducible refine (CA _ (HJ.out.drewN _).below).mono ?_) | (with_reducible refine (CB _ HJ.out.below).mono ?_) | (with_reducible refine (CB _ (HJ.out.drewN _).below).mono ?_)); rintro e w' ⟨rfl, nd, rfl⟩) | (go_at_call 31; (with_reducible refine (HA.at _).mono ?_); rintro e w' ⟨rfl, nd, rfl⟩) | (at_builtin; first | (refine wpList_append_own _ rfl _ _ 23 rfl W.heap.size 22 i0 (.int .u64 0) 1 8 Try.underlying23 hi hz0 hz1 hz2 rfl (by decide) u7 k (zlist k (MM.sumU la lb q a b)) rfl (HJ.out.alloc _).own ⟨wr.heap.size, 0, none⟩ 1 1 [.int .u64 ((x : Nat) : Int)] rfl rfl (World.news_of_block (cs := #[.int .u64 ((x : Nat) : Int)]) (t := 22) (fr := (0, 0)) (heap_alloc_new _ _)) (by simp [Value.oneCell']) (by unfold maxLen; omega) (by omega) (HJ.out.alloc _).size ?_; intro v2 w2 hown2 hgr2 hnil2; have HN := Lib.hid (Own.grow (HJ.out.alloc _) hown2 (HZ.out) hgr2); clear hown2 hgr2 hnil2) | (refine wpList_append_own _ rfl _ _ 23 rfl W.heap.size 22 i0 (.int .u64 0) 1 8 Try.underlying23 hi hz0 hz1 hz2 rfl (by decide) u7 k (zlist k (MM.sumU la lb q a b)) rfl ((HJ.out.drewN _).alloc _).own ⟨wr.heap.size, 0, none⟩ 1 1 [.int .u64 ((x : Nat) : Int)] rfl rfl (World.news_of_block (cs := #[.int .u64 ((x : Nat) : Int)]) (t := 22) (fr := (0, 0)) (heap_alloc_new _ _)) (by simp [Value.oneCell']) (by unfold maxLen; omega) (by omega) ((HJ.out.drewN _).alloc _).size ?_; intro v2 w2 hown2 hgr2 hnil2; have HN := Lib.hid (Own.grow ((HJ.out.drewN _).alloc _) hown2 (HZ.out) hgr2); clear hown2 hgr2 hnil2)))
        go_roundw
        case rel => exact ⟨k + 1, by omega, by go_num, HN⟩
        case measure => simp [RowKit.intOf]; omega
    · have h1 : ¬ k < la := by omega
      have h2 : ¬ k < lb := by omega
      obtain rfl : k = N := by omega
      go_wp2_with (go_at_call 46; (with_reducible refine (HY.at _).mono ?_); rintro e w' ⟨rfl, nd, rfl⟩)
      go_ret
      exact (HJ.out.drewN _).gives
set_option maxHeartbeats 400000 in
theorem rsum_bad (ao bo : Option Addr) (la ca lb cb q : Nat) (z : Nat → Nat) (hq : ¬ MM.Good q) (W : World) :
    Calls Try.prog 51 #[.slice ao la ca, .slice bo lb cb, .int .u64 (q : Int)] W (Gives W 0 z) := by
  have HY := rmay_no q hq
  have HS := Lib.hid (Own.start W z)
  clear hq
  go_enter Try.func51, Try.ntmps51
  go_wp2_with fail
  refine wp_loop_rounds 1 ?_
  rw [rounds_succ]
  go_wp2_with (go_at_call 46; (with_reducible refine (HY.at _).mono ?_); rintro e w' ⟨rfl, nd, rfl⟩)
  go_ret
  exact (HS.out.drewN _).gives

end M
end Go.Proofs.Ytccpdjjgpkkkbaa
