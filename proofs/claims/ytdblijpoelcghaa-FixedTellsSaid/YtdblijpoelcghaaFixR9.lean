/- The document's own: the scores. -/
import Derived.Test.YtdblijpoelcghaaFixR3
import Derived.Test.YtdblijpoelcghaaFixR5
import Derived.Test.YtdblijpoelcghaaFixSpanM
import Derived.Test.YtdblijpoelcghaaFixW6
import Derived.Test.YtdblijpoelcghaaQuietIn
namespace Go.Proofs.Ytdblijpoelcghaa
open Go Go.RowKit Go.Lib
namespace M
section
variable {w0 w w1 : World} {B k : Nat} {v : Value} {z : Nat → Int}
theorem OwnW.base (h : OwnW w1 B v k z w) (hb : Below w0.heap.size w0 w1) : OwnW w0 B v k z w := ⟨h.own, h.size, Nat.le_trans hb.size h.low, hb.trans (h.below.mono hb.size)⟩
theorem OwnW.newI (h : OwnW w0 B v k z w) : NewI w0.heap.size w v k z := by
  obtain ⟨_, h1 | ⟨g, cap, cur, h1, h2, h3, h4, h5, _, h7⟩⟩ := h.own
  · exact .inl h1
  · refine .inr ⟨g, cap, cur, h1, h4, Nat.le_trans h.low h2, h3, fun j hj => ?_⟩
    have e1 : (cur.toList.take (k * 1))[j]? = (ilist k z)[j]? := by rw [h7]
    rw [ilist_get hj, List.getElem?_take_of_lt (by omega)] at e1
    simpa using e1
end
set_option maxRecDepth 100000 in
set_option maxHeartbeats 8000000 in
theorem rscores_valid (p : Pm) (v : MoV) (o : MM.Mo) (ao : Option Addr) (n c : Nat) (x : Nat → Int) (hv : MM.Valid p o) (hq : MM.qryE p n x = 0) (W : World) (hr : MoAt W v o) (hx : IRow W ao n c x) :
    Calls Try.prog 30 #[.agg p.cells, .agg (v.cells o), .slice ao n c] W fun e w' => ∃ u B, e = .returned u ∧ OwnW W B u p.K.toNat (MM.scoZ p o x) w' := by
  obtain ⟨wo, wc, bo, bc⟩ := v
  have hI0 := InM.new W p ⟨wo, wc, bo, bc⟩ o hr
  obtain ⟨W1, hW1⟩ : ∃ W1, (W.alloc (.cells p.cells 31)).alloc (.cells (MoV.cells ⟨wo, wc, bo, bc⟩ o) 36) = W1 := ⟨_, rfl⟩
  obtain ⟨g, hg⟩ : ∃ g, W.heap.size = g := ⟨_, rfl⟩
  obtain ⟨h, hh⟩ : ∃ h, g + 1 = h := ⟨_, rfl⟩
  rw [hW1, hg, hh] at hI0
  have HB1 : Hid (Below W.heap.size W W1) := Lib.hid hI0.below
  have HM1 : Hid (InM W1 g h p ⟨wo, wc, bo, bc⟩ o W1) := Lib.hid ⟨hI0.box, hI0.mod, hI0.mat, Below.refl _ _⟩
  have HI := HM1
  have HX : Hid (IRow W1 ao n c x) := Lib.hid (hx.below HB1.out)
  have HMY : Hid (∀ (u : World) (_ : MoAt u ⟨wo, wc, bo, bc⟩ o), Calls Try.prog 31 #[.agg p.cells, .agg (MoV.cells ⟨wo, wc, bo, bc⟩ o)] u fun e w' => e = .returned (.bool true) ∧ Below u.heap.size u w') := Lib.hid fun u hu => by
    have := rmay_any p _ o u hu
    rwa [decide_eq_true hv] at this
  have HQY : Hid (∀ (u : World) (_ : IRow u ao n c x), Calls Try.prog 32 #[.agg p.cells, .slice ao n c] u fun e w' => e = .returned (.int .i64 0) ∧ Below u.heap.size u w') := Lib.hid fun u hu => by
    have := rquery_any p ao n c x u hu
    rwa [hq] at this
  obtain ⟨hf, hmK, hnK, hL, hWF, hWb⟩ := hv
  obtain ⟨_, hnD, hWx⟩ := qryE_zero hq
  have hd : p.D = (n : Int) := hnD.symm
  have hd4 : n ≤ 4 := by have := hf.2.2.2.1; omega
  have hdN : p.D.toNat = n := by omega
  have hm2 : o.m ≤ 2 := by have := hf.2.1; omega
  have hKN : p.K.toNat = o.m := by omega
  have hnm : o.n = o.m := by omega
  have hM := hf.2.2.2.2.2.1
  have hX := hf.2.2.2.2.2.2.2
  have HLD : Hid (∀ i, i < o.m → o.L i = n) := Lib.hid fun i hi => by have := hL i hi; omega
  have HBD : Hid (∀ k, k < o.m → -1048576 ≤ o.b k ∧ o.b k ≤ 1048576) := Lib.hid fun k hk => by have := hWb k (by omega); omega
  have HFX : Hid (∀ k j, k < o.m → j < n → (-1048576 ≤ o.F k j ∧ o.F k j ≤ 1048576) ∧ (-1048576 ≤ x j ∧ x j ≤ 1048576)) := Lib.hid fun k j hk hj => by
    have h1 := hWF k hk j (by have := hL k hk; omega)
    have h2 := hWx j (by omega)
    omega
  have HKM := Lib.hid hmK.symm
  obtain ⟨z, hz⟩ : ∃ z, MM.scoZ p o x = z := ⟨_, rfl⟩
  have HZ : Hid (∀ k, z k = MM.scoP o x k n) := Lib.hid fun k => by rw [← hz, ← hdN]; rfl
  rw [hKN, hz]
  have HD := Lib.hid hd
  clear hr hf hz hL hI0 hmK hnK hKN hWF hWb hWx hnD hx hM hX hq hd
  go_enter Try.func30, Try.ntmps30
  go_upto_region 3 with (first
    | (refine load_pm ?_ _ rfl g rfl p HI.out.box ?_; first | rfl | (simp [Region.wanted, yielded]; done))
    | (refine load_mo ?_ _ rfl h rfl ⟨wo, wc, bo, bc⟩ o HI.out.mod ?_; first | rfl | (simp [Region.wanted, yielded]; done))
    | (go_at_call 31; (with_reducible refine (HMY.out _ HI.out.mat).mono ?_); rintro e w1 ⟨rfl, hb⟩; replace HI := Lib.hid (HI.out.step hb); clear hb)
    | (go_at_call 32; (with_reducible refine (HQY.out _ (HX.out.below HI.out.below)).mono ?_); rintro e w1 ⟨rfl, hb⟩; replace HI := Lib.hid (HI.out.step hb); clear hb))
  have HO0 : Hid (OwnW W1 w1.heap.size (.slice none 0 0) 0 z w1) := Lib.hid ((OwnW.start w1 z).base HI.out.below)
  generalize w1.heap.size = B at *
  clear HI
  go_wp2_with fail
  go_loopw [7, 8] (fun s7 s8 wx => ∃ k : Nat, k ≤ o.m ∧ s8 = .int .i64 (k : Int) ∧ Hid (OwnW W1 B s7 k z wx)) (fun _ s8 _ => o.m - (RowKit.intOf s8).toNat)
  case atStart => exact ⟨0, Nat.zero_le _, rfl, HO0⟩
  case round =>
    clear HO0
    obtain ⟨k, hk, rfl, HO⟩ := hrel
    have k7 := (HM1.out.step HO.out.below).toP.cK HKM.out
    have k8 := (HM1.out.step HO.out.below).toP.cD HD.out
    have hk0 : (0 : Int) ≤ (k : Int) := Int.natCast_nonneg _
    by_cases hlt : k < o.m
    · have hkI : (k : Int) < (o.m : Int) := by omega
      have hkN : (k : Int) < (o.n : Int) := by omega
      obtain ⟨ad, ro, rc, hwo, hc0, hs⟩ := HM1.out.mat.mat k hlt
      have hwo' : wo = some ad := hwo
      subst hwo'
      have hc := (HO.out.below.cell (World.block_lt_of_cell? W1 _ hc0)).trans hc0
      have c0 : wr.cell? ⟨h, 0, none⟩ = some (.slice (some ad) o.m wc) := (HM1.out.step HO.out.below).mod.cell 0
      have c1 : wr.cell? ⟨h, 1, none⟩ = some (.slice bo o.n bc) := (HM1.out.step HO.out.below).mod.cell 1
      obtain ⟨bd, hbo, hcb⟩ := (HM1.out.step HO.out.below).mat.bias.at_ (k := k) (by omega)
      have hbo' : bo = some bd := hbo
      subst hbo'
      rw [HLD.out k hlt] at hc hs
      have HS : Hid (IRow wr ro n rc (o.F k)) := Lib.hid (hs.below HO.out.below)
      have HX2 : Hid (IRow wr ao n c x) := Lib.hid (HX.out.below HO.out.below)
      have hD0 : MM.scoP o x k 0 = o.b k := rfl
      have HD0 := Lib.hid hD0
      clear hD0 hs hwo hc0 hbo
      generalize o.b k = bk at *
      go_wp2_with fail
      clear c1 hcb
      go_loopw [9, 10] (fun s9 s10 wx => ∃ i m : Nat, i ≤ n ∧ s10 = .int .i64 (i : Int) ∧ s9 = .int .i64 (MM.scoP o x k i) ∧ wx = wr.drewN m) (fun _ s10 _ => n - (RowKit.intOf s10).toNat)
      case atStart => exact ⟨0, 0, Nat.zero_le _, rfl, by rw [HD0.out], rfl⟩
      case round =>
        clear HD0
        obtain ⟨i, m, hi, rfl, rfl, rfl⟩ := hrel
        have hi0 : (0 : Int) ≤ (i : Int) := Int.natCast_nonneg _
        by_cases hli : i < n
        · have hiI : (i : Int) < (n : Int) := by omega
          obtain ⟨rd, rfl, hcr⟩ := HS.out.at_ hli
          obtain ⟨xd, rfl, hcx⟩ := HX2.out.at_ hli
          have hle := MM.scoP_le (o := o) (x := x) (k := k) (HBD.out k hlt) i fun j hj => HFX.out k j hlt (by omega)
          have hml := MM.mul_le_20 (HFX.out k i hlt hli).1 (HFX.out k i hlt hli).2
          have HE : Hid (MM.scoP o x k (i + 1) = MM.scoP o x k i + o.F k i * x i) := Lib.hid rfl
          go_upto_region 11 with fail
          generalize hwq : wr.drewN m = wq
          have hc : wq.cell? (ad.add k) = some (.slice (some rd) n rc) := by rw [← hwq]; exact hc
          have hcr : wq.cell? (rd.add i) = some (.int .i64 (o.F k i)) := by rw [← hwq]; exact hcr
          have hcx : wq.cell? (xd.add i) = some (.int .i64 (x i)) := by rw [← hwq]; exact hcx
          have c0 : wq.cell? ⟨h, 0, none⟩ = some (.slice (some ad) o.m wc) := by rw [← hwq]; exact c0
          have HWQ := Lib.hid hwq
          clear hwq k7 k8
          generalize MM.scoP o x k i = si at *
          obtain ⟨t, ht⟩ : ∃ t, o.F k i * x i = t := ⟨_, rfl⟩
          rw [ht] at HE hml
          have hwm : wrap64 (o.F k i * x i) = t := by rw [ht, IntWalk.wrap64_in _ (by omega)]
          have hwa : wrap64 (si + t) = si + t := IntWalk.wrap64_in _ (by omega)
          clear ht hml
          generalize o.F k i = fi at *
          generalize x i = xi at *
          go_quiet (fail)
          go_wp2_with fail
          go_roundw
          case rel => exact ⟨i + 1, _, by omega, by go_num, by simp only [HE.out, hwa], by rw [← HWQ.out]; exact World.drewN_drewN _ _ _⟩
          case measure => simp [RowKit.intOf]; omega
        · have hiI : ¬ (i : Int) < (n : Int) := by omega
          obtain rfl : i = n := by omega
          have hzk : MM.scoP o x k i = z k := (HZ.out k).symm
          rw [hzk]
          obtain ⟨v2, w2, hr2, ho2⟩ := (HO.out.drewN m).push 1 (by omega)
          have HO2 := Lib.hid ho2
          clear ho2 hzk
          generalize z k = zk at *
          go_wp2_with (at_builtin; refine Lib.wpList_append_run _ rfl _ _ _ _ rfl _ _ rfl rfl _ _ hr2 ?_)
          go_roundw
          case rel => exact ⟨k + 1, by omega, by go_num, HO2⟩
          case measure => simp [RowKit.intOf]; omega
    · have hkI : ¬ (k : Int) < (o.m : Int) := by omega
      obtain rfl : k = o.m := by omega
      go_wp2_with fail
      go_ret
      first | exact ⟨_, B, rfl, HO.out.base HB1.out⟩ | exact ⟨_, rfl, B, HO.out.base HB1.out⟩
set_option maxRecDepth 100000 in
set_option maxHeartbeats 4000000 in
theorem rscores_any (p : Pm) (v : MoV) (o : MM.Mo) (ao : Option Addr) (n c : Nat) (x : Nat → Int) (W : World) (hr : MoAt W v o) (hx : IRow W ao n c x) :
    Calls Try.prog 30 #[.agg p.cells, .agg (v.cells o), .slice ao n c] W fun e w' => ∃ u, e = .returned u ∧ NewI W.heap.size w' u (MM.scoN p o n x) (MM.scoZ p o x) ∧ Below W.heap.size W w' := by
  by_cases hv : MM.Valid p o
  · by_cases hq : MM.qryE p n x = 0
    · refine (rscores_valid p v o ao n c x hv hq W hr hx).mono ?_
      rintro e w' ⟨u, B, rfl, hm⟩
      have e1 : MM.scoN p o n x = p.K.toNat := if_pos ⟨hv, hq⟩
      rw [e1]
      exact ⟨_, rfl, hm.newI, hm.below⟩
    · have e1 : MM.scoN p o n x = 0 := if_neg fun h => hq h.2
      rw [e1]
      obtain ⟨wo, wc, bo, bc⟩ := v
      have hI0 := InM.new W p ⟨wo, wc, bo, bc⟩ o hr
      obtain ⟨g, hg⟩ : ∃ g, W.heap.size = g := ⟨_, rfl⟩
      obtain ⟨h, hh⟩ : ∃ h, g + 1 = h := ⟨_, rfl⟩
      rw [hg, hh] at hI0
      have HI := Lib.hid hI0
      have HX := Lib.hid hx
      have HMY : Hid (∀ (u : World) (_ : MoAt u ⟨wo, wc, bo, bc⟩ o), Calls Try.prog 31 #[.agg p.cells, .agg (MoV.cells ⟨wo, wc, bo, bc⟩ o)] u fun e w' => e = .returned (.bool true) ∧ Below u.heap.size u w') := Lib.hid fun u hu => by
        have := rmay_any p _ o u hu
        rwa [decide_eq_true hv] at this
      have HQY := Lib.hid (fun (u : World) (hu : IRow u ao n c x) => rquery_any p ao n c x u hu)
      have hqb : (MM.qryE p n x != 0) = true := by simp [hq]
      generalize MM.qryE p n x = eq at *
      have HG := Lib.hid hg
      clear hr hv hI0 hx hq
      go_enter Try.func30, Try.ntmps30
      go_wp2_with (first
        | (refine load_pm ?_ _ rfl g rfl p HI.out.box ?_; first | rfl | (simp [Region.wanted, yielded]; done))
        | (refine load_mo ?_ _ rfl h rfl ⟨wo, wc, bo, bc⟩ o HI.out.mod ?_; first | rfl | (simp [Region.wanted, yielded]; done))
        | (go_at_call 31; (with_reducible refine (HMY.out _ HI.out.mat).mono ?_); rintro e w1 ⟨rfl, hb⟩; replace HI := Lib.hid (HI.out.step hb); clear hb)
        | (go_at_call 32; (with_reducible refine (HQY.out _ (HX.out.below HI.out.below)).mono ?_); rintro e w1 ⟨rfl, hb⟩; replace HI := Lib.hid (HI.out.step hb); clear hb))
      go_ret
      exact ⟨_, rfl, .inl ⟨rfl, rfl⟩, HI.out.below⟩
  · have e1 : MM.scoN p o n x = 0 := if_neg fun h => hv h.1
    rw [e1]
    obtain ⟨wo, wc, bo, bc⟩ := v
    have hI0 := InM.new W p ⟨wo, wc, bo, bc⟩ o hr
    obtain ⟨g, hg⟩ : ∃ g, W.heap.size = g := ⟨_, rfl⟩
    obtain ⟨h, hh⟩ : ∃ h, g + 1 = h := ⟨_, rfl⟩
    rw [hg, hh] at hI0
    have HI := Lib.hid hI0
    have HX := Lib.hid hx
    have HMY : Hid (∀ (u : World) (_ : MoAt u ⟨wo, wc, bo, bc⟩ o), Calls Try.prog 31 #[.agg p.cells, .agg (MoV.cells ⟨wo, wc, bo, bc⟩ o)] u fun e w' => e = .returned (.bool false) ∧ Below u.heap.size u w') := Lib.hid fun u hu => by
      have := rmay_any p _ o u hu
      rwa [decide_eq_false hv] at this
    have HG := Lib.hid hg
    clear hr hv hI0 hx
    go_enter Try.func30, Try.ntmps30
    go_wp2_with (first
      | (refine load_pm ?_ _ rfl g rfl p HI.out.box ?_; first | rfl | (simp [Region.wanted, yielded]; done))
      | (refine load_mo ?_ _ rfl h rfl ⟨wo, wc, bo, bc⟩ o HI.out.mod ?_; first | rfl | (simp [Region.wanted, yielded]; done))
      | (go_at_call 31; (with_reducible refine (HMY.out _ HI.out.mat).mono ?_); rintro e w1 ⟨rfl, hb⟩; replace HI := Lib.hid (HI.out.step hb); clear hb))
    go_ret
    exact ⟨_, rfl, .inl ⟨rfl, rfl⟩, HI.out.below⟩
end M
end Go.Proofs.Ytdblijpoelcghaa
