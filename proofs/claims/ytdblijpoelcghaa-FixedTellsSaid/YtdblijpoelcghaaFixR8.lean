/- The document's own: the products. -/
import Derived.Test.YtdblijpoelcghaaFixR7
import Derived.Test.YtdblijpoelcghaaModR1p
import Derived.Test.YtdblijpoelcghaaModR1s
import Derived.Test.YtdblijpoelcghaaQuietIn
namespace Go.Proofs.Ytdblijpoelcghaa
open Go Go.RowKit Go.Lib
namespace M
theorem raddU (a b m : Nat) : Ret 43 #[.int .u64 (a : Int), .int .u64 (b : Int), .int .u64 (m : Int)] (.int .u64 ((MM.addU a b m : Nat) : Int)) := by
  unfold MM.addU
  by_cases h : MM.Good m
  · rw [if_pos h]; exact radd a b m _ h.1 h.2 rfl
  · rw [if_neg h]; exact radd_no a b m (MM.good_not h)
theorem rmulU (a b m : Nat) (hb : b < 18446744073709551616) : Ret 44 #[.int .u64 (a : Int), .int .u64 (b : Int), .int .u64 (m : Int)] (.int .u64 ((MM.mulU a b m : Nat) : Int)) := by
  unfold MM.mulU
  by_cases h : MM.Good m
  · rw [if_pos h]; exact rmul a b m _ h.1 h.2 hb rfl
  · rw [if_neg h]; exact rmul_no a b m (MM.good_not h) hb
theorem rowZ_lt (p : Pm) (n : Nat) (x : Nat → Int) (j : Nat) : MM.rowZ p n x j < 18446744073709551616 := by
  unfold MM.rowZ
  split
  · split
    · exact MM.numU_lt _ _
    · omega
  · exact MM.numU_lt _ _
set_option maxRecDepth 100000 in
set_option maxHeartbeats 8000000 in
theorem rdot_fit (p : Pm) (lo : Option Addr) (ln lc : Nat) (l : Nat → Nat) (ao : Option Addr) (n c : Nat) (x : Nat → Int) (hx : ∀ j, -9223372036854775808 ≤ x j ∧ x j ≤ 9223372036854775807) (hf : MM.Fit p) (W : World) (hrl : Rd W lo ln l) (hr : IRow W ao n c x) :
    Calls Try.prog 28 #[.agg p.cells, .slice lo ln lc, .slice ao n c] W fun e w' => ∃ v B, e = .returned v ∧ Own W B v p.K.toNat (MM.dotZ p ln l n x) w' := by
  obtain ⟨W1, hW1⟩ : ∃ W1, W.alloc (.cells p.cells 31) = W1 := ⟨_, rfl⟩
  obtain ⟨g, hg⟩ : ∃ g, W.heap.size = g := ⟨_, rfl⟩
  have HB1 : Hid (Below W.heap.size W W1) := Lib.hid (by rw [← hW1]; exact below_box W _)
  have HB0 : Hid (Box W1 g p) := Lib.hid (by rw [← hW1, ← hg]; exact Box.new W p)
  have HI : Hid (InP W1 g p W1) := Lib.hid ⟨HB0.out, Below.refl _ _⟩
  have HR : Hid (IRow W1 ao n c x) := Lib.hid (hr.below HB1.out)
  have HRL : Hid (Rd W1 lo ln l) := Lib.hid (hrl.below HB1.out)
  obtain ⟨d, hd⟩ : ∃ d : Nat, p.D = (d : Int) := ⟨p.D.toNat, by have := hf.2.2.1; omega⟩
  have hd4 : d ≤ 4 := by have := hf.2.2.2.1; omega
  have hdN : p.D.toNat = d := by omega
  obtain ⟨kk, hkk⟩ : ∃ kk : Nat, p.K = (kk : Int) := ⟨p.K.toNat, by have := hf.1; omega⟩
  have hkk2 : kk ≤ 2 := by have := hf.2.1; omega
  have hkN : p.K.toNat = kk := by omega
  obtain ⟨N, hN⟩ : ∃ N, d + 1 = N := ⟨_, rfl⟩
  have HROW := Lib.hid (fun (u : World) (h : IRow u ao n c x) => rrow_fit p ao n c x hx hf u h)
  rw [hdN, hN] at HROW
  obtain ⟨z, hz⟩ : ∃ z, MM.dotZ p ln l n x = z := ⟨_, rfl⟩
  have HZ : Hid (∀ k, z k = MM.dotP p.Q d ln l (MM.rowZ p n x) k N) := Lib.hid fun k => by rw [← hz, ← hN, ← hdN]; rfl
  have HRZ : Hid (∀ j, MM.rowZ p n x j < 18446744073709551616) := Lib.hid (rowZ_lt p n x)
  have hw1 : IntKind.i64.wrap ((d : Int) + 1) = (N : Int) := by rw [IntWalk.i64_in _ (by omega)]; omega
  have hNpos : decide ((N : Int) > 0) = true := by simp; omega
  rw [hkN, hz]
  generalize MM.rowZ p n x = r at *
  have HD := Lib.hid hd
  have HKK := Lib.hid hkk
  clear hr hrl hf hz hx hd hkk
  go_enter Try.func28, Try.ntmps28
  go_upto_region 3 with (first
    | (refine load_pm ?_ _ rfl g rfl p HI.out.box ?_; first | rfl | (simp [Region.wanted, yielded]; done))
    | (go_at_call 27; (with_reducible refine (HROW.out _ (HR.out.below HI.out.below)).mono ?_); rintro e w1 ⟨v, B0, rfl, hm⟩; replace HI := Lib.hid (HI.out.step hm.below); obtain ⟨ro, rc, rfl, _, _, hrd⟩ := hm.rd; have HRW := Lib.hid hrd; clear hm hrd))
  have hb1 := HI.out.below
  have HR2 : Hid (Rd w1 lo ln l) := Lib.hid (HRL.out.below hb1)
  have HB2 : Hid (Box w1 g p) := Lib.hid (HB0.out.below hb1)
  have HBW : Hid (Below W.heap.size W w1) := Lib.hid (HB1.out.trans (hb1.mono HB1.out.size))
  have HO0 : Hid (Own w1 w1.heap.size (.slice none 0 0) 0 z w1) := Lib.hid (Own.start w1 z)
  generalize w1.heap.size = B at HO0
  clear HI hb1 HROW HR HRL HB1 HB0
  go_wp2_with fail
  go_loopw [7, 9] (fun s7 s9 wx => ∃ k : Nat, k ≤ kk ∧ s9 = .int .i64 (k : Int) ∧ Hid (Own w1 B s7 k z wx)) (fun _ s9 _ => kk - (RowKit.intOf s9).toNat)
  case atStart => exact ⟨0, Nat.zero_le _, rfl, HO0⟩
  case round =>
    clear HO0
    obtain ⟨k, hk, rfl, HO⟩ := hrel
    have HIP : Hid (InP w1 g p wr) := Lib.hid ⟨HB2.out.below HO.out.below, HO.out.below⟩
    have k7 := HIP.out.cK HKK.out
    have k8 := HIP.out.cD HD.out
    have hq := HIP.out.cQ
    have hk0 : (0 : Int) ≤ (k : Int) := Int.natCast_nonneg _
    by_cases hlt : k < kk
    · have hkI : (k : Int) < (kk : Int) := by omega
      obtain ⟨a, ha⟩ : ∃ a, k * N = a := ⟨_, rfl⟩
      have ha10 : a ≤ 10 := by rw [← ha]; exact Nat.le_trans (Nat.mul_le_mul (show k ≤ 2 by omega) (show N ≤ 5 by omega)) (by omega)
      have hwa : IntKind.i64.wrap ((k : Int) * (N : Int)) = (a : Int) := by rw [show (k : Int) * (N : Int) = ((a : Nat) : Int) by rw [← ha]; rfl, IntWalk.i64_in _ (by omega)]
      have HA := Lib.hid ha
      clear ha
      have hD0 : MM.dotP p.Q d ln l r k 0 = 0 := rfl
      have HD0 := Lib.hid hD0
      clear hD0
      go_wp2_with fail
      go_loopw [10, 11] (fun s10 s11 wx => ∃ i m : Nat, i ≤ N ∧ s11 = .int .i64 (i : Int) ∧ s10 = .int .u64 ((MM.dotP p.Q d ln l r k i : Nat) : Int) ∧ wx = wr.drewN m) (fun _ s11 _ => N - (RowKit.intOf s11).toNat)
      case atStart => exact ⟨0, 0, Nat.zero_le _, rfl, by rw [HD0.out]; rfl, rfl⟩
      case round =>
        obtain ⟨i, m, hi, rfl, rfl, rfl⟩ := hrel
        have hi0 : (0 : Int) ≤ (i : Int) := Int.natCast_nonneg _
        by_cases hli : i < N
        · have hiI : (i : Int) ≤ (d : Int) := by omega
          obtain ⟨e, he⟩ : ∃ e, a + i = e := ⟨_, rfl⟩
          have hwi : IntKind.i64.wrap ((a : Int) + (i : Int)) = (e : Int) := by rw [IntWalk.i64_in _ (by omega)]; omega
          have HE : Hid (MM.dotP p.Q d ln l r k (i + 1) = if e < ln then MM.addU (MM.dotP p.Q d ln l r k i) (MM.mulU (l e) (r i) p.Q) p.Q else MM.dotP p.Q d ln l r k i) := Lib.hid (by rw [MM.dotP, hN, HA.out, he])
          by_cases hel : e < ln
          · have helI : (e : Int) < (ln : Int) := by omega
            have he0 : (0 : Int) ≤ (e : Int) := Int.natCast_nonneg _
            have hiN : (i : Int) < (N : Int) := by omega
            rw [if_pos hel] at HE
            obtain ⟨ld, rfl, hcl⟩ := (HR2.out.below HO.out.below).at_ hel
            obtain ⟨rd, rfl, hcr⟩ := (HRW.out.below HO.out.below).at_ hli
            have HM := rmulU (l e) (r i) p.Q (HRZ.out i)
            have HAD := raddU (MM.dotP p.Q d ln l r k i) (MM.mulU (l e) (r i) p.Q) p.Q
            go_upto_region 12 with fail
            generalize hwq : wr.drewN m = wq
            have hcl : wq.cell? (ld.add e) = some (.int .u64 ((l e : Nat) : Int)) := by rw [← hwq]; exact hcl
            have hcr : wq.cell? (rd.add i) = some (.int .u64 ((r i : Nat) : Int)) := by rw [← hwq]; exact hcr
            have hq : wq.cell? ⟨g, 1, none⟩ = some (.int .u64 (p.Q : Int)) := by rw [← hwq]; exact hq
            have HWQ := Lib.hid hwq
            clear hwq he
            generalize MM.dotP p.Q d ln l r k i = s0 at *
            generalize l e = le at *
            generalize r i = ri at *
            generalize MM.mulU le ri p.Q = x1 at *
            generalize MM.addU s0 x1 p.Q = x2 at *
            go_quiet ((first | (go_at_call 44; with_reducible exact (HM).quiet) | (go_at_call 43; with_reducible exact (HAD).quiet)))
            go_wp2_with fail
            go_roundw
            case rel => exact ⟨i + 1, _, by omega, by go_num, by rw [HE.out], by rw [← HWQ.out]; exact World.drewN_drewN _ _ _⟩
            case measure => simp [RowKit.intOf]; omega
          · have helI : ¬ (e : Int) < (ln : Int) := by omega
            rw [if_neg hel] at HE
            clear he
            generalize MM.dotP p.Q d ln l r k i = s0 at *
            go_wp2_with fail
            go_roundw
            case rel => exact ⟨i + 1, m, by omega, by go_num, by rw [HE.out], rfl⟩
            case measure => simp [RowKit.intOf]; omega
        · have hiI : ¬ (i : Int) ≤ (d : Int) := by omega
          obtain rfl : i = N := by omega
          have HZK := Lib.hid (HZ.out k)
          have hzk : MM.dotP p.Q d ln l r k i = z k := (HZ.out k).symm
          rw [hzk]
          obtain ⟨v2, w2, hr2, ho2⟩ := (HO.out.drewN m).push1 1 (by omega)
          have HO2 := Lib.hid ho2
          clear ho2 HZK hzk
          generalize z k = zk at *
          go_wp2_with (at_builtin; refine Lib.wpList_append_run _ rfl _ _ _ _ rfl _ _ rfl rfl _ _ hr2 ?_)
          go_roundw
          case rel => exact ⟨k + 1, by omega, by go_num, HO2⟩
          case measure => simp [RowKit.intOf]; omega
    · have hkI : ¬ (k : Int) < (kk : Int) := by omega
      obtain rfl : k = kk := by omega
      go_wp2_with fail
      go_ret
      first | exact ⟨_, B, rfl, HO.out.base HBW.out⟩ | exact ⟨_, rfl, B, HO.out.base HBW.out⟩
set_option maxRecDepth 100000 in
set_option maxHeartbeats 4000000 in
theorem rdot_any (p : Pm) (lo : Option Addr) (ln lc : Nat) (l : Nat → Nat) (ao : Option Addr) (n c : Nat) (x : Nat → Int) (hx : ∀ j, -9223372036854775808 ≤ x j ∧ x j ≤ 9223372036854775807) (W : World) (hrl : Rd W lo ln l) (hr : IRow W ao n c x) :
    Calls Try.prog 28 #[.agg p.cells, .slice lo ln lc, .slice ao n c] W fun e w' => ∃ v, e = .returned v ∧ NewU W.heap.size w' v (MM.dotN p) (MM.dotZ p ln l n x) ∧ Below W.heap.size W w' := by
  by_cases hf : MM.Fit p
  · refine (rdot_fit p lo ln lc l ao n c x hx hf W hrl hr).mono ?_
    rintro e w' ⟨v, B, rfl, hm⟩
    have e1 : MM.dotN p = p.K.toNat := if_pos hf
    rw [e1]
    exact ⟨_, rfl, hm.newU, hm.below⟩
  · have e1 : MM.dotN p = 0 := if_neg hf
    have e2 : MM.rowN p = 0 := if_neg hf
    obtain ⟨g, hg⟩ : ∃ g, W.heap.size = g := ⟨_, rfl⟩
    have HI : Hid (InP W g p (W.alloc (.cells p.cells 31))) := Lib.hid (by rw [← hg]; exact InP.new W p)
    have HR := Lib.hid hr
    have HROW := Lib.hid (fun (u : World) (h : IRow u ao n c x) => rrow_any p ao n c x hx u h)
    rw [e2] at HROW
    rw [e1]
    have HG := Lib.hid hg
    clear hr hf hx hrl
    go_enter Try.func28, Try.ntmps28
    go_wp2_with (first
      | (refine load_pm ?_ _ rfl g rfl p HI.out.box ?_; first | rfl | (simp [Region.wanted, yielded]; done))
      | (go_at_call 27; (with_reducible refine (HROW.out _ (HR.out.below HI.out.below)).mono ?_); rintro e w1 ⟨v, rfl, hm, hb⟩; replace HI := Lib.hid (HI.out.step hb); obtain ⟨ro, rc, rfl, _, _⟩ := hm.cells; clear hm hb))
    go_loopw [7] (fun s7 wx => s7 = .slice none 0 0 ∧ wx = w1) (fun _ _ => 0)
    case atStart => exact ⟨rfl, rfl⟩
    case round =>
      obtain ⟨rfl, rfl⟩ := hrel
      go_wp2_with fail
      go_ret
      exact ⟨_, rfl, .inl ⟨rfl, rfl⟩, HI.out.below⟩
end M
end Go.Proofs.Ytdblijpoelcghaa
