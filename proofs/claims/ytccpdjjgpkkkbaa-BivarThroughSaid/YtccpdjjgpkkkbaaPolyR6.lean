/- The walk of the document's own Through (consistoryref03), where nothing is wrong. -/
import Derived.Test.YtccpdjjgpkkkbaaPolyR5
import Derived.Test.YtccpdjjgpkkkbaaPolyTwo
namespace Go.Proofs.Ytccpdjjgpkkkbaa
open Go Go.RowKit Go.Lib
namespace M
theorem Gives.own {W w w' : World} {n : Nat} {z : Nat → Nat} {e : Ending} (hb : Below W.heap.size W w) (h : Gives w n z e w') : ∃ v, e = .returned v ∧ Own W W.heap.size v n z w' ∧ Below w.heap.size w w' := by
  obtain ⟨v, he, ⟨h1, h2⟩, h3⟩ := h
  refine ⟨v, he, ⟨⟨h1, h2.imp id fun ⟨g, cap, cur, a, b, c⟩ => ⟨g, cap, cur, a, Nat.le_trans hb.size b, c⟩⟩, Nat.le_trans hb.size h3.size, Nat.le_refl _, hb.trans (h3.mono hb.size)⟩, h3⟩
theorem one_rd (W : World) (x : Nat) : Rd (W.alloc (.cells #[.int .u64 (x : Int)] 22)) (some ⟨W.heap.size, 0, none⟩) 1 (fun _ => x) := fun _ => ⟨_, rfl, Row.of_block (heap_alloc_new _ _) fun k hk => by
  obtain rfl : k = 0 := by omega
  rfl⟩
set_option maxHeartbeats 8000000 in
theorem rthrough_yes (xo yo : Option Addr) (n cx cy q : Nat) (z y : Nat → Nat) (hz : ∀ k, z k < 18446744073709551616) (W : World) (hx : Rd W xo n z) (hy : Rd W yo n y) (hw : MM.wrongU q n z = 0) :
    Calls Try.prog 32 #[.slice xo n cx, .slice yo n cy, .int .u64 (q : Int)] W (Gives2 W n (MM.thruU q z y n) 0) := by
  obtain ⟨hq, hn⟩ := wrongU_zero hw
  have HWr0 : ∀ W', Below W.heap.size W W' → Calls Try.prog 47 #[.slice xo n cx, .int .u64 (q : Int)] W' fun e w' => e = .returned (.int .i64 0) ∧ ∃ m, w' = W'.drewN m := fun W' hb => by
    have h := rwrong_any xo n cx q z W' (hx.below hb)
    rwa [hw] at h
  have HWr := Lib.hid HWr0
  have HX := Lib.hid hx
  have HYY := Lib.hid hy
  have HZL := Lib.hid hz
  have HY := rmay_yes q hq
  have HQ := Lib.hid hq
  have HA : Ret 31 #[.int .u64 1, .int .u64 0, .int .u64 (q : Int)] (.int .u64 ((MM.addU 1 0 q : Nat) : Int)) := raddU 1 0 q
  have e0 : Hid (Own W W.heap.size (.slice none 0 0) 0 (MM.thruU q z y 0) W) := Lib.hid (Own.start W _)
  clear hx hy hz hw hq HWr0
  go_enter Try.func32, Try.ntmps32
  go_wp2_with (first | (go_at_call 46; (with_reducible refine (HY.at _).mono ?_); rintro e w' ⟨rfl, nd, rfl⟩) | (go_at_call 47; (first | (with_reducible refine (HWr.out _ (Below.refl _ _)).mono ?_) | (with_reducible refine (HWr.out _ (below_drewN' W _ _)).mono ?_)); rintro e w' ⟨rfl, nd, rfl⟩) | (go_at_call 31; (with_reducible refine (HA.at _).mono ?_); rintro e w' ⟨rfl, nd, rfl⟩))
  go_loopw [9, 10, 11] (fun s9 s10 s11 wx => ∃ (i : Nat) (bo : Option Addr) (cb : Nat), i ≤ n ∧ s11 = .int .i64 (i : Int) ∧ s10 = .slice bo (i + 1) cb ∧ Hid (Own W W.heap.size s9 i (MM.thruU q z y i) wx) ∧ Hid (Rd wx bo (i + 1) (MM.noneU q z i))) (fun _ _ s11 _ => n - (RowKit.intOf s11).toNat)
  case atStart => exact ⟨0, _, _, Nat.zero_le _, rfl, rfl, Lib.hid ((e0.out.drewN _).alloc _), Lib.hid (one_rd _ _)⟩
  case round =>
    clear e0 HA HY HWr
    obtain ⟨i, bo, cb, hin, rfl, rfl, HJ, HN⟩ := hrel
    by_cases hlt : i < n
    · obtain ⟨ao, ca, rfl, _, hca, hro⟩ := HJ.out.rd
      obtain ⟨xd, rfl, hxc⟩ := (HX.out.below HJ.out.below).at_ hlt
      obtain ⟨yd, rfl, hyc⟩ := (HYY.out.below HJ.out.below).at_ hlt
      have HBJ := Lib.hid HJ.out.below
      have HE1 : ∀ W' : World, Below wr.heap.size wr W' → Calls Try.prog 49 #[.slice bo (i + 1) cb, .int .u64 ((z i : Nat) : Int), .int .u64 (q : Int)] W' fun e w' => e = .returned (.int .u64 ((MM.evalU (MM.noneU q z i) (z i) q (i + 1) : Nat) : Int)) ∧ ∃ m, w' = W'.drewN m := fun W' hb => reval_any bo (i + 1) cb (z i) q (MM.noneU q z i) (by omega) (HZL.out i) W' (HN.out.below hb)
      have HE2 : ∀ W' : World, Below wr.heap.size wr W' → Calls Try.prog 49 #[.slice ao i ca, .int .u64 ((z i : Nat) : Int), .int .u64 (q : Int)] W' fun e w' => e = .returned (.int .u64 ((MM.evalU (MM.thruU q z y i) (z i) q i : Nat) : Int)) ∧ ∃ m, w' = W'.drewN m := fun W' hb => reval_any ao i ca (z i) q (MM.thruU q z y i) (by omega) (HZL.out i) W' (hro.below hb)
      have HIv := rinvU (MM.evalU (MM.noneU q z i) (z i) q (i + 1)) q
      have HS1 := rsubU (y i) (MM.evalU (MM.thruU q z y i) (z i) q i) q
      have HM := rmulU (MM.subU (y i) (MM.evalU (MM.thruU q z y i) (z i) q i) q) (MM.invU (MM.evalU (MM.noneU q z i) (z i) q (i + 1)) q) q (MM.invU_lt _ _)
      have HSC : ∀ W' : World, Below wr.heap.size wr W' → Calls Try.prog 52 #[.slice bo (i + 1) cb, .int .u64 ((MM.facU q z y i (MM.thruU q z y i) : Nat) : Int), .int .u64 (q : Int)] W' (Gives W' (i + 1) (MM.scaleU (MM.facU q z y i (MM.thruU q z y i)) q (MM.noneU q z i))) := fun W' hb => rscale_good bo (i + 1) cb _ q _ (by omega) (MM.mulU_lt _ _ _) HQ.out W' (HN.out.below hb)
      have HSU : ∀ (W' : World) (so : Option Addr) (sc : Nat), Below wr.heap.size wr W' → Rd W' so (i + 1) (MM.scaleU (MM.facU q z y i (MM.thruU q z y i)) q (MM.noneU q z i)) → Calls Try.prog 51 #[.slice ao i ca, .slice so (i + 1) sc, .int .u64 (q : Int)] W' (Gives W' (i + 1) (MM.thruU q z y (i + 1))) := fun W' so sc hb hs => by
        have h := rsum_good ao so i ca (i + 1) sc q (MM.thruU q z y i) _ (by omega) (by omega) HQ.out W' (hro.below hb) hs
        rwa [Nat.max_eq_right (by omega)] at h
      have HS0 : Ret 50 #[.int .u64 0, .int .u64 ((z i : Nat) : Int), .int .u64 (q : Int)] (.int .u64 ((MM.subU 0 (z i) q : Nat) : Int)) := rsubU 0 (z i) q
      have HTI : ∀ (W' : World) (so : Option Addr) (sc : Nat), Below wr.heap.size wr W' → Rd W' so 2 (MM.two (MM.subU 0 (z i) q) 1) → Calls Try.prog 53 #[.slice bo (i + 1) cb, .slice so 2 sc, .int .u64 (q : Int)] W' (Gives W' (i + 1 + 1) (MM.noneU q z (i + 1))) := fun W' so sc hb hs =>
        rpoly_times_good bo so (i + 1) cb 2 sc q (MM.noneU q z i) _ (by omega) (by omega) (by omega) (by omega) (fun k => two_lt2 (MM.subU_lt _ _ _)) HQ.out W' (HN.out.below hb) hs
      have HK : Hid (MM.mulU (MM.subU (y i) (MM.evalU (MM.thruU q z y i) (z i) q i) q) (MM.invU (MM.evalU (MM.noneU q z i) (z i) q (i + 1)) q) q = MM.facU q z y i (MM.thruU q z y i)) := Lib.hid rfl
      rw [HK.out] at HM
      clear hro HK
      generalize MM.facU q z y i (MM.thruU q z y i) = K at *
      generalize MM.subU (y i) (MM.evalU (MM.thruU q z y i) (z i) q i) q = x4 at *
      generalize MM.invU (MM.evalU (MM.noneU q z i) (z i) q (i + 1)) q = x2 at *
      generalize MM.invC (MM.evalU (MM.noneU q z i) (z i) q (i + 1)) q = c2 at *
      generalize MM.evalU (MM.noneU q z i) (z i) q (i + 1) = x1 at *
      generalize MM.evalU (MM.thruU q z y i) (z i) q i = x3 at *
      have hi0 : (0 : Int) ≤ (i : Int) := Int.natCast_nonneg _
      have hi1 : (i : Int) < (n : Int) := by omega
      go_upto_region 12 with (first | (go_at_call 49; (first | (with_reducible refine (HE1 _ (Below.refl _ _)).mono ?_) | (with_reducible refine (HE1 _ (below_drewN' wr _ _)).mono ?_)); rintro e w' ⟨rfl, nd, rfl⟩) | (go_at_call 48; (with_reducible refine (HIv.at _).mono ?_); rintro e w' ⟨rfl, nd, rfl⟩))
      generalize hw12 : wr.drewN _ = w12
      have HB12 : Hid (Below wr.heap.size wr w12) := Lib.hid (by rw [← hw12]; exact below_drewN' wr _ _)
      have c1 : w12.cell? (xd.add i) = some (.int .u64 ((z i : Nat) : Int)) := by rw [← hw12]; exact hxc
      have c2' : w12.cell? (yd.add i) = some (.int .u64 ((y i : Nat) : Int)) := by rw [← hw12]; exact hyc
      clear hw12 hxc hyc
      go_quiet ((first | (go_at_call 49; exact Calls.quiet_of (HE2 _ (HB12.out.trans (below_drewN' w12 _ _)))) | (go_at_call 50; exact HS1.quiet) | (go_at_call 29; exact HM.quiet)))
      go_upto_region 13 with fail
      generalize hw13 : w12.drewN _ = w13
      have HB13 : Hid (Below wr.heap.size wr w13) := Lib.hid (by rw [← hw13]; exact HB12.out.trans (below_drewN' w12 _ _))
      have c3 : w13.cell? (xd.add i) = some (.int .u64 ((z i : Nat) : Int)) := by rw [← hw13]; exact c1
      clear hw13 c1 c2' HB12
      go_upto_region 14 with (first | (go_at_call 52; (with_reducible refine (HSC _ HB13.out).mono ?_); rintro e w14 hg; obtain ⟨v, rfl, ho, hb⟩ := Gives.own (HBJ.out.trans (HB13.out.mono HBJ.out.size)) hg; obtain ⟨so, sc, rfl, _, _, hs⟩ := ho.rd; have HB14 : Hid (Below wr.heap.size wr w14) := Lib.hid (HB13.out.trans (hb.mono HB13.out.size)); have HS14 := Lib.hid hs; have c4 : w14.cell? (xd.add i) = some (.int .u64 ((z i : Nat) : Int)) := (hb.cell (World.block_lt_of_cell? _ _ c3)).trans c3; clear ho hb hg hs) | (go_at_call 51; (with_reducible refine (HSU _ _ _ HB14.out HS14.out).mono ?_); rintro e w15 hg; obtain ⟨v15, rfl, ho, hb⟩ := Gives.own (HBJ.out.trans (HB14.out.mono HBJ.out.size)) hg; have HO15 := Lib.hid ho; have HB15 : Hid (Below wr.heap.size wr w15) := Lib.hid (HB14.out.trans (hb.mono HB14.out.size)); have c5 : w15.cell? (xd.add i) = some (.int .u64 ((z i : Nat) : Int)) := (hb.cell (World.block_lt_of_cell? _ _ c4)).trans c4; clear ho hb hg))
      have HBA : Hid (∀ m o, Below wr.heap.size wr ((w15.drewN m).alloc o)) := Lib.hid (fun m o => HB15.out.trans ((below_drewN' w15 m _).trans ((Below.refl wr.heap.size (w15.drewN m)).alloc HB15.out.size o)))
      go_wp2_with (first | (go_at_call 50; (with_reducible refine (HS0.at _).mono ?_); rintro e w' ⟨rfl, nd, rfl⟩) | (go_at_call 53; (with_reducible refine (HTI _ _ _ ?_ ?_).mono ?_); exact HBA.out _ _; exact two_rd _ _; rintro e w16 hg; obtain ⟨v16, rfl, ho, hb⟩ := Gives.own (HBJ.out.trans ((HBA.out _ _).mono HBJ.out.size)) hg; obtain ⟨b2, c2, rfl, _, _, h2⟩ := ho.rd; have HN16 := Lib.hid h2; have HO16 := Lib.hid (((HO15.out.drewN _).alloc _).step hb); clear ho hb hg h2))
      go_roundw
      case rel => exact ⟨i + 1, _, _, by omega, by go_num, rfl, HO16, HN16⟩
      case measure => simp [RowKit.intOf]; omega
    · obtain rfl : i = n := by omega
      go_wp2_with fail
      go_ret2
      exact HJ.out.gives2 0

end M
end Go.Proofs.Ytccpdjjgpkkkbaa
