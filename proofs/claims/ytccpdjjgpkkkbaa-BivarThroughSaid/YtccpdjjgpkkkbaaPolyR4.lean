/- The walks of the document's own wrong and Weights (consistoryref03): what each answers. -/
import Derived.Test.YtccpdjjgpkkkbaaPolyR3
import Derived.Test.YtccpdjjgpkkkbaaModR2
namespace Go.Proofs.Ytccpdjjgpkkkbaa
open Go Go.RowKit Go.Lib
namespace M
theorem rsubU (a b m : Nat) : Ret 50 #[.int .u64 (a : Int), .int .u64 (b : Int), .int .u64 (m : Int)] (.int .u64 ((MM.subU a b m : Nat) : Int)) := by
  unfold MM.subU
  by_cases h : MM.Good m
  · rw [if_pos h]; exact rsub a b m _ h.1 h.2 rfl
  · rw [if_neg h]; exact rsub_no a b m (MM.good_not h)
theorem rinvU (a m : Nat) : Ret 48 #[.int .u64 (a : Int), .int .u64 (m : Int)] (.tuple #[.int .u64 ((MM.invU a m : Nat) : Int), .int .i64 (MM.invC a m)]) := by
  by_cases h : MM.Good m
  · by_cases hg : Nat.gcd a m = 1
    · obtain ⟨x, hx, hr⟩ := rinv_yes a m h.1 h.2 hg
      rw [MM.invU_of h hx, show MM.invC a m = 0 by unfold MM.invC; rw [if_pos h, if_pos hg]]
      exact hr
    · rw [show MM.invU a m = 0 by unfold MM.invU; rw [if_neg fun e => hg e.2], show MM.invC a m = 5 by unfold MM.invC; rw [if_pos h, if_neg hg]]
      exact rinv_none a m h.1 h.2 hg
  · rw [show MM.invU a m = 0 by unfold MM.invU; rw [if_neg fun e => h e.1], show MM.invC a m = 1 by unfold MM.invC; rw [if_neg h]]
    exact rinv_no a m (MM.good_not h)

set_option maxHeartbeats 8000000 in
theorem rwrong_walk (ao : Option Addr) (n cap q : Nat) (z : Nat → Nat) (hn : n ≤ 1024) (hq : MM.Good q) (W : World) (hr : Rd W ao n z) :
    Calls Try.prog 47 #[.slice ao n cap, .int .u64 (q : Int)] W fun e w' => e = .returned (.int .i64 (MM.wrongB q z n)) ∧ ∃ m, w' = W.drewN m := by
  have HR := Lib.hid hr
  have HY := rmay_yes q hq
  clear hr hq
  go_enter Try.func47, Try.ntmps47
  go_wp2_with (go_at_call 46; (with_reducible refine (HY.at _).mono ?_); rintro e w' ⟨rfl, nd, rfl⟩)
  go_loopw [5, 6] (fun s5 s6 wx => ∃ i m : Nat, i ≤ n ∧ s6 = .int .i64 (i : Int) ∧ s5 = .bool (MM.noAll q z i) ∧ Hid (MM.twAll q z i = false) ∧ wx = W.drewN m) (fun _ s6 _ => n - (RowKit.intOf s6).toNat)
  case atStart => exact ⟨0, _, Nat.zero_le _, rfl, rfl, Lib.hid rfl, rfl⟩
  case round =>
    obtain ⟨i, m, hi, rfl, rfl, HT, rfl⟩ := hrel
    by_cases hlt : i < n
    · go_wp2_with fail
      go_loopw [5, 7] (fun s5 s7 wx => ∃ k m : Nat, k ≤ i ∧ s7 = .int .i64 (k : Int) ∧ s5 = .bool (MM.noAll q z i || MM.noRow q z i k) ∧ Hid (MM.twRow q z i k = false) ∧ wx = W.drewN m) (fun _ s7 _ => i - (RowKit.intOf s7).toNat)
      case atStart => exact ⟨0, _, Nat.zero_le _, rfl, by rw [MM.noRow, Bool.or_false], Lib.hid rfl, rfl⟩
      case round =>
        obtain ⟨k, m2, hk, rfl, rfl, HTR, rfl⟩ := hrel
        by_cases hki : k < i
        · obtain ⟨ad, rfl, hci⟩ := HR.out.at_ hlt
          obtain ⟨ad2, e2, hck⟩ := HR.out.at_ (show k < n by omega)
          obtain rfl : ad = ad2 := by simpa using e2
          clear e2
          have HSb := rsubU (z i) (z k) q
          have hk0 : (0 : Int) ≤ (k : Int) := Int.natCast_nonneg _
          have hk1 : (k : Int) < (n : Int) := by omega
          have hi0 : (0 : Int) ≤ (i : Int) := Int.natCast_nonneg _
          have hi1 : (i : Int) < (n : Int) := by omega
          by_cases hd : MM.subU (z i) (z k) q = 0
          · have HF : Hid (MM.wrongB q z n = 6) := Lib.hid (by unfold MM.wrongB; rw [if_pos (MM.twAll_up (MM.twRow_up hd i hki) n hlt)])
            rw [hd] at HSb
            clear hd
            generalize (MM.noAll q z i || MM.noRow q z i k) = b at *
            go_upto_region 12 with fail
            generalize hwr : W.drewN m2 = wr
            have c1 : wr.cell? (ad.add i) = some (.int .u64 ((z i : Nat) : Int)) := by rw [← hwr]; exact hci
            have c2 : wr.cell? (ad.add k) = some (.int .u64 ((z k : Nat) : Int)) := by rw [← hwr]; exact hck
            have HWR := Lib.hid hwr
            clear hwr hci hck
            go_quiet (((go_at_call 50; exact HSb.quiet)))
            go_wp2_with fail
            go_ret
            exact ⟨by rw [HF.out]; rfl, _, by rw [← HWR.out]; exact World.drewN_drewN _ _ _⟩
          · have HTN : Hid (MM.twRow q z i (k + 1) = false) := Lib.hid (by rw [MM.twRow, HTR.out]; simpa using hd)
            have HIv := rinvU (MM.subU (z i) (z k) q) q
            have d0 : (((MM.subU (z i) (z k) q : Nat) : Int) == 0) = false := by simp; omega
            have HNO : Hid ((MM.noAll q z i || MM.noRow q z i (k + 1)) = ((MM.noAll q z i || MM.noRow q z i k) || (MM.invC (MM.subU (z i) (z k) q) q != 0))) := Lib.hid (by rw [MM.noRow, Bool.or_assoc])
            generalize MM.invU (MM.subU (z i) (z k) q) q = x1 at *
            generalize MM.invC (MM.subU (z i) (z k) q) q = c0 at *
            generalize MM.subU (z i) (z k) q = d at *
            clear hd
            obtain ⟨b, hb⟩ : ∃ b, (MM.noAll q z i || MM.noRow q z i k) = b := ⟨_, rfl⟩
            rw [hb] at HNO ⊢
            clear hb
            go_upto_region 12 with fail
            generalize hwr : W.drewN m2 = wr
            have c1 : wr.cell? (ad.add i) = some (.int .u64 ((z i : Nat) : Int)) := by rw [← hwr]; exact hci
            have c2 : wr.cell? (ad.add k) = some (.int .u64 ((z k : Nat) : Int)) := by rw [← hwr]; exact hck
            have HWR := Lib.hid hwr
            clear hwr hci hck
            go_quiet (((go_at_call 50; exact HSb.quiet)))
            cases b
            · go_wp2_with (go_at_call 48; (with_reducible refine (HIv.at _).mono ?_); rintro e w' ⟨rfl, nd, rfl⟩)
              go_roundw
              case rel => exact ⟨k + 1, _, by omega, by go_num, by rw [HNO.out, Bool.false_or], HTN, by rw [← HWR.out]; first | exact World.drewN_drewN _ _ _ | (rw [World.drewN_drewN]; exact World.drewN_drewN _ _ _)⟩
              case measure => simp [RowKit.intOf]; omega
            · go_wp2_with (go_at_call 48; (with_reducible refine (HIv.at _).mono ?_); rintro e w' ⟨rfl, nd, rfl⟩)
              go_roundw
              case rel => exact ⟨k + 1, _, by omega, by go_num, by rw [HNO.out, Bool.true_or], HTN, by rw [← HWR.out]; first | exact World.drewN_drewN _ _ _ | (rw [World.drewN_drewN]; exact World.drewN_drewN _ _ _)⟩
              case measure => simp [RowKit.intOf]; omega
        · obtain rfl : k = i := by omega
          have HT2 : Hid (MM.twAll q z (k + 1) = false) := Lib.hid (by rw [MM.twAll, HT.out, HTR.out]; rfl)
          have HN2 : Hid (MM.noAll q z (k + 1) = (MM.noAll q z k || MM.noRow q z k k)) := Lib.hid rfl
          generalize (MM.noAll q z k || MM.noRow q z k k) = b at *
          go_wp2_with fail
          go_roundw
          case rel => exact ⟨k + 1, _, by omega, by go_num, by rw [HN2.out], HT2, rfl⟩
          case measure => simp [RowKit.intOf]; omega
    · obtain rfl : i = n := by omega
      cases hb : MM.noAll q z i
      · have HB : Hid (MM.wrongB q z i = 0) := Lib.hid (by unfold MM.wrongB; rw [HT.out, hb]; rfl)
        clear hb
        go_wp2_with fail
        go_ret
        exact ⟨by rw [HB.out]; rfl, _, rfl⟩
      · have HB : Hid (MM.wrongB q z i = 5) := Lib.hid (by unfold MM.wrongB; rw [HT.out, hb]; rfl)
        clear hb
        go_wp2_with fail
        go_ret
        exact ⟨by rw [HB.out]; rfl, _, rfl⟩

end M
end Go.Proofs.Ytccpdjjgpkkkbaa
