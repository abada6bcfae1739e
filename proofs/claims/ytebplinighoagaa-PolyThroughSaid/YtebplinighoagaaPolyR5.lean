/- The walks of the document's own wrong, whatever places, and Weights (consistoryref03): what each answers. -/
import Derived.Test.YtebplinighoagaaPolyR4
namespace Go.Proofs.Ytebplinighoagaa
open Go Go.RowKit Go.Lib
namespace M
set_option maxHeartbeats 400000 in
theorem rwrong_bad (ao : Option Addr) (n cap q : Nat) (hq : ¬ MM.Good q) (W : World) :
    Calls Try.prog 39 #[.slice ao n cap, .int .u64 (q : Int)] W fun e w' => e = .returned (.int .i64 1) ∧ ∃ m, w' = W.drewN m := by
  have HY := rmay_no q hq
  clear hq
  go_enter Try.func39, Try.ntmps39
  go_wp2_with (go_at_call 34; (with_reducible refine (HY.at _).mono ?_); rintro e w' ⟨rfl, nd, rfl⟩)
  go_ret
  exact ⟨rfl, _, rfl⟩
set_option maxHeartbeats 400000 in
theorem rwrong_many (ao : Option Addr) (n cap q : Nat) (hq : MM.Good q) (hn : 1024 < n) (W : World) :
    Calls Try.prog 39 #[.slice ao n cap, .int .u64 (q : Int)] W fun e w' => e = .returned (.int .i64 40) ∧ ∃ m, w' = W.drewN m := by
  have HY := rmay_yes q hq
  have h1 : (1024 : Int) < (n : Int) := by omega
  clear hq
  go_enter Try.func39, Try.ntmps39
  go_wp2_with (go_at_call 34; (with_reducible refine (HY.at _).mono ?_); rintro e w' ⟨rfl, nd, rfl⟩)
  go_ret
  exact ⟨rfl, _, rfl⟩
theorem rwrong_any (ao : Option Addr) (n cap q : Nat) (z : Nat → Nat) (W : World) (hr : Rd W ao n z) :
    Calls Try.prog 39 #[.slice ao n cap, .int .u64 (q : Int)] W fun e w' => e = .returned (.int .i64 (MM.wrongU q n z)) ∧ ∃ m, w' = W.drewN m := by
  unfold MM.wrongU
  by_cases hq : MM.Good q
  · rw [if_neg (fun h => h hq)]
    by_cases hn : 1024 < n
    · rw [if_pos hn]; exact rwrong_many ao n cap q hq hn W
    · rw [if_neg hn]; exact rwrong_walk ao n cap q z (by omega) hq W hr
  · rw [if_pos hq]; exact rwrong_bad ao n cap q hq W
theorem wrongU_zero {q n : Nat} {z : Nat → Nat} (h : MM.wrongU q n z = 0) : MM.Good q ∧ n ≤ 1024 := by
  unfold MM.wrongU at h
  by_cases hq : MM.Good q
  · rw [if_neg (fun h => h hq)] at h
    by_cases hn : 1024 < n
    · rw [if_pos hn] at h; omega
    · exact ⟨hq, by omega⟩
  · rw [if_pos hq] at h; omega
/-- A call that hands back a row of its own, and a number beside it. -/
def Gives2 (W : World) (n : Nat) (z : Nat → Nat) (c : Int) (e : Ending) (w' : World) : Prop := ∃ v, e = .returned (.tuple #[v, .int .i64 c]) ∧ w'.ownsRow W.heap.size 23 1 v n (zlist n z) ∧ Below W.heap.size W w'
theorem Own.gives2 {w0 w : World} {B k : Nat} {v : Value} {z : Nat → Nat} (h : Own w0 B v k z w) (c : Int) : Gives2 w0 k z c (.returned (.tuple #[v, .int .i64 c])) w := by
  obtain ⟨v', e, h1, h2⟩ := h.gives
  obtain rfl : v = v' := by simpa using e
  exact ⟨v, rfl, h1, h2⟩
set_option maxHeartbeats 1000000 in
theorem rweights_no (ao : Option Addr) (n cap place q : Nat) (z y : Nat → Nat) (W : World) (hr : Rd W ao n z) (hw : MM.wrongU q n z ≠ 0) :
    Calls Try.prog 23 #[.slice ao n cap, .int .u64 (place : Int), .int .u64 (q : Int)] W (Gives2 W 0 y (MM.wrongU q n z)) := by
  have HWr := Lib.hid (rwrong_any ao n cap q z W hr)
  have HS := Lib.hid (Own.start W y)
  obtain ⟨c, hc⟩ : ∃ c, MM.wrongU q n z = c := ⟨_, rfl⟩
  rw [hc] at HWr hw ⊢
  have b0 : (c == 0) = false := by simpa using hw
  have b1 : (c != 0) = true := by rw [bne, b0]; rfl
  clear hr hw hc
  go_enter Try.func23, Try.ntmps23
  go_wp2_with (go_at_call 39; (with_reducible refine (HWr.out).mono ?_); rintro e w' ⟨rfl, nd, rfl⟩)
  go_ret2
  exact (HS.out.drewN _).gives2 c
set_option maxHeartbeats 8000000 in
theorem rweights_yes (ao : Option Addr) (n cap place q : Nat) (z : Nat → Nat) (W : World) (hr : Rd W ao n z) (hw : MM.wrongU q n z = 0) :
    Calls Try.prog 23 #[.slice ao n cap, .int .u64 (place : Int), .int .u64 (q : Int)] W (Gives2 W n (fun i => MM.weightU q z place i n) 0) := by
  have hn := (wrongU_zero hw).2
  have HWr0 := rwrong_any ao n cap q z W hr
  rw [hw] at HWr0
  have HWr := Lib.hid HWr0
  have HR := Lib.hid hr
  have HS := Lib.hid (Own.start W (fun i => MM.weightU q z place i n))
  clear hr hw HWr0
  obtain ⟨i0, hi, hz0, hz1, hz2⟩ := info_parts info_u64
  go_enter Try.func23, Try.ntmps23
  go_wp2_with (go_at_call 39; (with_reducible refine (HWr.out).mono ?_); rintro e w' ⟨rfl, nd, rfl⟩)
  go_loopw [9, 10] (fun s9 s10 wx => ∃ i : Nat, i ≤ n ∧ s10 = .int .i64 (i : Int) ∧ Hid (Own W W.heap.size s9 i (fun i => MM.weightU q z place i n) wx)) (fun _ s10 _ => n - (RowKit.intOf s10).toNat)
  case atStart => exact ⟨0, Nat.zero_le _, rfl, Lib.hid (HS.out.drewN _)⟩
  case round =>
    clear HS HWr
    obtain ⟨i, hin, rfl, HJ⟩ := hrel
    by_cases hlt : i < n
    · have HA : Ret 35 #[.int .u64 1, .int .u64 0, .int .u64 (q : Int)] (.int .u64 ((MM.addU 1 0 q : Nat) : Int)) := raddU 1 0 q
      go_wp2_with (go_at_call 35; (with_reducible refine (HA.at _).mono ?_); rintro e w' ⟨rfl, nd, rfl⟩)
      go_loopw [11, 12] (fun s11 s12 wx => ∃ k : Nat, k ≤ n ∧ s12 = .int .i64 (k : Int) ∧ s11 = .int .u64 ((MM.weightU q z place i k : Nat) : Int) ∧ Hid (Own W W.heap.size u9 i (fun i => MM.weightU q z place i n) wx)) (fun _ s12 _ => n - (RowKit.intOf s12).toNat)
      case atStart => exact ⟨0, Nat.zero_le _, rfl, rfl, Lib.hid (HJ.out.drewN _)⟩
      case round =>
        clear HJ HA
        obtain ⟨k, hkn, rfl, rfl, HI⟩ := hrel
        by_cases hk : k < n
        · by_cases hki : k = i
          · have HV : Hid (MM.weightU q z place i (k + 1) = MM.weightU q z place i k) := Lib.hid (by rw [MM.weightU, if_pos hki])
            have b0 : ((k : Int) == (i : Int)) = true := by simp; omega
            clear hki
            generalize MM.weightU q z place i k = x0 at *
            go_wp2_with fail
            go_roundw
            case rel => exact ⟨k + 1, by omega, by go_num, by rw [HV.out], HI⟩
            case measure => simp [RowKit.intOf]; omega
          · obtain ⟨ad, rfl, hci⟩ := (HR.out.below HI.out.below).at_ hlt
            obtain ⟨ad2, e2, hck⟩ := (HR.out.below HI.out.below).at_ hk
            obtain rfl : ad = ad2 := by simpa using e2
            clear e2
            have b0 : ((k : Int) == (i : Int)) = false := by simp; omega
            have HV : Hid (MM.weightU q z place i (k + 1) = MM.mulU (MM.weightU q z place i k) (MM.mulU (MM.subU place (z k) q) (MM.invU (MM.subU (z i) (z k) q) q) q) q) := Lib.hid (by rw [MM.weightU, if_neg hki])
            have HSb := rsubU (z i) (z k) q
            have HIv := rinvU (MM.subU (z i) (z k) q) q
            have HS2 := rsubU place (z k) q
            have HM1 := rmulU (MM.subU place (z k) q) (MM.invU (MM.subU (z i) (z k) q) q) q (MM.invU_lt _ _)
            have HM2 := rmulU (MM.weightU q z place i k) (MM.mulU (MM.subU place (z k) q) (MM.invU (MM.subU (z i) (z k) q) q) q) q (MM.mulU_lt _ _ _)
            clear hki
            generalize MM.mulU (MM.weightU q z place i k) (MM.mulU (MM.subU place (z k) q) (MM.invU (MM.subU (z i) (z k) q) q) q) q = x5 at *
            generalize MM.mulU (MM.subU place (z k) q) (MM.invU (MM.subU (z i) (z k) q) q) q = x4 at *
            generalize MM.weightU q z place i k = x0 at *
            generalize MM.invU (MM.subU (z i) (z k) q) q = x2 at *
            generalize MM.invC (MM.subU (z i) (z k) q) q = c2 at *
            generalize MM.subU place (z k) q = x3 at *
            generalize MM.subU (z i) (z k) q = x1 at *
            have hk0 : (0 : Int) ≤ (k : Int) := Int.natCast_nonneg _
            have hk1 : (k : Int) < (n : Int) := by omega
            have hi0 : (0 : Int) ≤ (i : Int) := Int.natCast_nonneg _
            have hi1 : (i : Int) < (n : Int) := by omega
            go_upto_region 13 with fail
            go_quiet ((first | (go_at_call 41; exact HSb.quiet) | (go_at_call 40; exact HIv.quiet)))
            go_wp2_with (first | (go_at_call 41; (with_reducible refine (HS2.at _).mono ?_); rintro e w' ⟨rfl, nd, rfl⟩) | (go_at_call 37; (first | (with_reducible refine (HM1.at _).mono ?_) | (with_reducible refine (HM2.at _).mono ?_)); rintro e w' ⟨rfl, nd, rfl⟩))
            go_roundw
            case rel => exact ⟨k + 1, by omega, by go_num, by rw [HV.out], Lib.hid (by first | exact HI.out.drewN _ | exact (HI.out.drewN _).drewN _ | exact ((HI.out.drewN _).drewN _).drewN _ | exact (((HI.out.drewN _).drewN _).drewN _).drewN _)⟩
            case measure => simp [RowKit.intOf]; omega
        · obtain rfl : k = n := by omega
          have HZ : Hid (zlist i (fun i => MM.weightU q z place i k) ++ [.int .u64 ((MM.weightU q z place i k : Nat) : Int)] = zlist (i + 1) (fun i => MM.weightU q z place i k)) := Lib.hid (zlist_succ i _)
          obtain ⟨x, hx⟩ : ∃ x, MM.weightU q z place i k = x := ⟨_, rfl⟩
          rw [hx] at HZ ⊢
          clear hx
          go_wp2_with (at_builtin; first | (refine wpList_append_own _ rfl _ _ 24 rfl W.heap.size 23 i0 (.int .u64 0) 1 8 Try.underlying24 hi hz0 hz1 hz2 rfl (by decide) u9 i (zlist i (fun i => MM.weightU q z place i k)) rfl (HI.out.alloc _).own ⟨wr.heap.size, 0, none⟩ 1 1 [.int .u64 ((x : Nat) : Int)] rfl rfl (World.news_of_block (cs := #[.int .u64 ((x : Nat) : Int)]) (t := 23) (fr := (0, 0)) (heap_alloc_new _ _)) (by simp [Value.oneCell']) (by unfold maxLen; omega) (by omega) (HI.out.alloc _).size ?_; intro v2 w2 hown2 hgr2 hnil2; have HN := Lib.hid (Own.grow (HI.out.alloc _) hown2 (HZ.out) hgr2); clear hown2 hgr2 hnil2) | (refine wpList_append_own _ rfl _ _ 24 rfl W.heap.size 23 i0 (.int .u64 0) 1 8 Try.underlying24 hi hz0 hz1 hz2 rfl (by decide) u9 i (zlist i (fun i => MM.weightU q z place i k)) rfl ((HI.out.drewN _).alloc _).own ⟨wr.heap.size, 0, none⟩ 1 1 [.int .u64 ((x : Nat) : Int)] rfl rfl (World.news_of_block (cs := #[.int .u64 ((x : Nat) : Int)]) (t := 23) (fr := (0, 0)) (heap_alloc_new _ _)) (by simp [Value.oneCell']) (by unfold maxLen; omega) (by omega) ((HI.out.drewN _).alloc _).size ?_; intro v2 w2 hown2 hgr2 hnil2; have HN := Lib.hid (Own.grow ((HI.out.drewN _).alloc _) hown2 (HZ.out) hgr2); clear hown2 hgr2 hnil2))
          go_roundw
          case rel => exact ⟨i + 1, by omega, by go_num, HN⟩
          case measure => simp [RowKit.intOf]; omega
    · obtain rfl : i = n := by omega
      go_wp2_with fail
      go_ret2
      exact HJ.out.gives2 0

end M
end Go.Proofs.Ytebplinighoagaa
