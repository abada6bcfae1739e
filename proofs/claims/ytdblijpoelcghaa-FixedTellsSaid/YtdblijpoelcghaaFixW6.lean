/- The walk of the scores, as the program has them. -/
import Derived.Test.YtdblijpoelcghaaFixW5
namespace Go.Proofs.Ytdblijpoelcghaa
open Go Go.RowKit Go.Lib
namespace M
attribute [local go_sem] Oper.semAt_some
theorem qryE_zero {p : Pm} {n : Nat} {x : Nat → Int} (h : MM.qryE p n x = 0) : MM.Fit p ∧ (n : Int) = p.D ∧ MM.Wi p.X n x := by
  unfold MM.qryE at h
  by_cases h1 : MM.Fit p ∧ (n : Int) = p.D
  · rw [if_pos h1] at h
    by_cases h2 : MM.Wi p.X n x
    · exact ⟨h1.1, h1.2, h2⟩
    · rw [if_neg h2] at h; omega
  · rw [if_neg h1] at h; omega
set_option maxRecDepth 100000 in
set_option maxHeartbeats 8000000 in
theorem scores_valid (p : Pm) (v : MoV) (o : MM.Mo) (ok : MoOk o) (ao : Option Addr) (n c : Nat) (x : Nat → Int) (hn : n ≤ 9223372036854775807) (hv : MM.Valid p o) (hq : MM.qryE p n x = 0) (W : World) (hr : MoAt W v o) (hx : IRow W ao n c x) :
    Calls Try.prog 16 #[.agg p.cells, .agg (v.cells o), .slice ao n c] W fun e w' => ∃ B, e = .returned (.slice (some ⟨B, 0, none⟩) p.K.toNat p.K.toNat) ∧ MineI W B p.K.toNat (MM.scoZ p o x) w' := by
  obtain ⟨wo, wc, bo, bc⟩ := v
  have hI0 := InM.new W p ⟨wo, wc, bo, bc⟩ o hr
  obtain ⟨W1, hW1⟩ : ∃ W1, (W.alloc (.cells p.cells 31)).alloc (.cells (MoV.cells ⟨wo, wc, bo, bc⟩ o) 36) = W1 := ⟨_, rfl⟩
  obtain ⟨g, hg⟩ : ∃ g, W.heap.size = g := ⟨_, rfl⟩
  obtain ⟨h, hh⟩ : ∃ h, g + 1 = h := ⟨_, rfl⟩
  rw [hW1, hg, hh] at hI0
  have HB1 : Hid (Below W.heap.size W W1) := Lib.hid hI0.below
  have HM1 : Hid (InM W1 g h p ⟨wo, wc, bo, bc⟩ o W1) := Lib.hid ⟨hI0.box, hI0.mod, hI0.mat, Below.refl _ _⟩
  have HI := HM1
  have HX : Hid (IRow W1 ao n c x) := Lib.hid (hx.below HB1.out)
  have HMY : Hid (∀ (u : World) (_ : MoAt u ⟨wo, wc, bo, bc⟩ o), Calls Try.prog 14 #[.agg p.cells, .agg (MoV.cells ⟨wo, wc, bo, bc⟩ o)] u fun e w' => e = .returned (.bool true) ∧ Below u.heap.size u w') := Lib.hid fun u hu => by
    have := may_any p _ o ok u hu
    rwa [decide_eq_true hv] at this
  have HQY : Hid (∀ (u : World) (_ : IRow u ao n c x), Calls Try.prog 17 #[.agg p.cells, .slice ao n c] u fun e w' => e = .returned (.int .i64 0) ∧ Below u.heap.size u w') := Lib.hid fun u hu => by
    have := query_any p ao n c x hn u hu
    rwa [hq] at this
  obtain ⟨hf, hmK, hnK, hL, hWF, hWb⟩ := hv
  obtain ⟨_, hnD, hWx⟩ := qryE_zero hq
  have hd : p.D = (n : Int) := hnD.symm
  have hd4 : n ≤ 4 := by have := hf.2.2.2.1; omega
  have hdN : p.D.toNat = n := by omega
  have hm2 : o.m ≤ 2 := by have := hf.2.1; omega
  have hKN : p.K.toNat = o.m := by omega
  have hnm : o.n = o.m := by omega
  have hM := hf.2.2.2.2.2.1
  have hX := hf.2.2.2.2.2.2.2
  have HLD : Hid (∀ i, i < o.m → o.L i = n) := Lib.hid fun i hi => by have := hL i hi; omega
  have HBD : Hid (∀ k, k < o.m → -1048576 ≤ o.b k ∧ o.b k ≤ 1048576) := Lib.hid fun k hk => by have := hWb k (by omega); omega
  have HFX : Hid (∀ k j, k < o.m → j < n → (-1048576 ≤ o.F k j ∧ o.F k j ≤ 1048576) ∧ (-1048576 ≤ x j ∧ x j ≤ 1048576)) := Lib.hid fun k j hk hj => by
    have h1 := hWF k hk j (by have := hL k hk; omega)
    have h2 := hWx j (by omega)
    omega
  have HKM := Lib.hid hmK.symm
  obtain ⟨z, hz⟩ : ∃ z, MM.scoZ p o x = z := ⟨_, rfl⟩
  have HZ : Hid (∀ k, z k = MM.scoP o x k n) := Lib.hid fun k => by rw [← hz, ← hdN]; rfl
  rw [hKN, hz]
  have HD := Lib.hid hd
  clear hr hf hz hL hI0 ok hmK hnK hKN hWF hWb hWx hnD hx hM hX hq hd
  go_enter Try.func16, Try.ntmps16
  go_upto_region 3 with (first
    | (refine load_pm ?_ _ rfl g rfl p HI.out.box ?_; first | rfl | (simp [Region.wanted, yielded]; done))
    | (refine load_mo ?_ _ rfl h rfl ⟨wo, wc, bo, bc⟩ o HI.out.mod ?_; first | rfl | (simp [Region.wanted, yielded]; done))
    | (go_at_call 14; (with_reducible refine (HMY.out _ HI.out.mat).mono ?_); rintro e w1 ⟨rfl, hb⟩; replace HI := Lib.hid (HI.out.step hb); clear hb)
    | (go_at_call 17; (with_reducible refine (HQY.out _ (HX.out.below HI.out.below)).mono ?_); rintro e w1 ⟨rfl, hb⟩; replace HI := Lib.hid (HI.out.step hb); clear hb))
  have k7 := HI.out.toP.cK HKM.out
  have HO0 : Hid (MineI W1 w1.heap.size o.m (fun _ => 0) (w1.alloc (.cells (madeCells (Value.int .i64 0).cells (o.m * 1)) 2))) := Lib.hid ((MineI.made w1 o.m).base HI.out.below)
  have hmk := run_madeI o.m (by omega) w1
  have c02 := (HI.out.mod.below (below_box w1 (.cells (madeCells (Value.int .i64 0).cells (o.m * 1)) 2))).cell 0
  generalize w1.alloc (.cells (madeCells (Value.int .i64 0).cells (o.m * 1)) 2) = W2 at *
  generalize w1.heap.size = B at *
  clear HI
  go_wp2_with fail
  clear hmk k7
  go_loopw [28] (fun s28 wx => ∃ k : Nat, k ≤ o.m ∧ s28 = .int .i64 (k : Int) ∧ Hid (∃ y, MineI W1 B o.m y wx ∧ ∀ j, j < k → y j = z j)) (fun s28 _ => o.m - (RowKit.intOf s28).toNat)
  case atStart => exact ⟨0, Nat.zero_le _, rfl, Lib.hid ⟨_, HO0.out, fun j h => absurd h (by omega)⟩⟩
  case round =>
    clear HO0 c02
    obtain ⟨k, hk, rfl, HO⟩ := hrel
    by_cases hlt : k < o.m
    · obtain ⟨y, hy, hyk⟩ := HO.out
      have HYK := Lib.hid hyk
      obtain ⟨ad, bo', c', hwo, hc0, hs⟩ := HM1.out.mat.mat k hlt
      have hwo' : wo = some ad := hwo
      subst hwo'
      have HS := Lib.hid hs
      have hc := (hy.below.cell (World.block_lt_of_cell? W1 _ hc0)).trans hc0
      have c1 : wr.cell? ⟨h, 1, none⟩ = some (.slice bo o.n bc) := (HM1.out.step hy.below).mod.cell 1
      obtain ⟨bd, hbo, hcb⟩ := (HM1.out.step hy.below).mat.bias.at_ (k := k) (by omega)
      have hbo' : bo = some bd := hbo
      subst hbo'
      have hcl := hy.cell hlt
      have hfr := hy.free k
      have hk0 : (0 : Int) ≤ (k : Int) := Int.natCast_nonneg _
      have hk1 : (k : Int) < (o.m : Int) := by omega
      have hk2 : (k : Int) < (o.n : Int) := by omega
      have HN : Hid (∃ y', MineI W1 B o.m y' (wr.setCell ⟨B, k, none⟩ (.int .i64 (o.b k))) ∧ (∀ j, j < k → y' j = z j) ∧ y' k = MM.scoP o x k 0) := Lib.hid ⟨fun j => if j = k then o.b k else y j, hy.set k (o.b k) (fun _ _ => rfl), fun j hj => (if_neg (show ¬ j = k by omega)).trans (HYK.out j hj), if_pos rfl⟩
      rw [HLD.out k hlt] at hc HS
      clear hs hwo hc0 hbo hy hyk HO HYK
      generalize o.b k = bk at *
      go_wp2_with fail
      clear hc c1 hcb hcl hfr
      go_loopw [43] (fun s43 wx => ∃ i : Nat, i ≤ n ∧ s43 = .int .i64 (i : Int) ∧ Hid (∃ y', MineI W1 B o.m y' wx ∧ (∀ j, j < k → y' j = z j) ∧ y' k = MM.scoP o x k i)) (fun s43 _ => n - (RowKit.intOf s43).toNat)
      case atStart => exact ⟨0, Nat.zero_le _, rfl, HN⟩
      case round =>
        clear HN
        obtain ⟨i, hi, rfl, HJ⟩ := hrel
        obtain ⟨y, hy, hyk, hye⟩ := HJ.out
        by_cases hli : i < n
        · obtain ⟨rd, rfl, hcr⟩ := (HS.out.below hy.below).at_ hli
          obtain ⟨xd, rfl, hcx⟩ := (HX.out.below hy.below).at_ hli
          have hcl := hy.cell hlt
          have hfr := hy.free k
          rw [hye] at hcl
          have hle := MM.scoP_le (o := o) (x := x) (k := k) (HBD.out k hlt) i fun j hj => HFX.out k j hlt (by omega)
          have hml := MM.mul_le_20 (HFX.out k i hlt hli).1 (HFX.out k i hlt hli).2
          have HE : Hid (MM.scoP o x k (i + 1) = MM.scoP o x k i + o.F k i * x i) := Lib.hid rfl
          have HYK := Lib.hid hyk
          have HN : Hid (∀ nd, ∃ y', MineI W1 B o.m y' ((wr.drewN nd).setCell ⟨B, k, none⟩ (.int .i64 (MM.scoP o x k i + o.F k i * x i))) ∧ (∀ j, j < k → y' j = z j) ∧ y' k = MM.scoP o x k (i + 1)) := Lib.hid fun nd => ⟨fun j => if j = k then MM.scoP o x k i + o.F k i * x i else y j, (hy.drewN nd).set k _ (fun _ _ => rfl), fun j hj => (if_neg (show ¬ j = k by omega)).trans (HYK.out j hj), if_pos rfl⟩
          generalize MM.scoP o x k i = si at *
          obtain ⟨t, ht⟩ : ∃ t, o.F k i * x i = t := ⟨_, rfl⟩
          rw [ht] at HN hml
          have hwm : wrap64 (o.F k i * x i) = t := by rw [ht, IntWalk.wrap64_in _ (by omega)]
          have hwa : wrap64 (si + t) = si + t := IntWalk.wrap64_in _ (by omega)
          have hi0 : (0 : Int) ≤ (i : Int) := Int.natCast_nonneg _
          have hi1 : (i : Int) < (n : Int) := by omega
          clear hy hyk hye HE ht HJ HYK hml
          generalize o.F k i = fi at *
          generalize x i = xi at *
          generalize hso : si + t = so at *
          go_upto_region 11 with fail
          refine QT.region 11 (by kernel_rfl) (by kernel_rfl) ?_
          simp only [List.take_succ_cons, List.take_zero, List.drop_succ_cons, List.drop_zero]
          repeat (quiet_step (fail))
          refine wpQuiet_nil ?_
          intro nq
          go_wp2_with fail
          go_roundw
          case rel => exact ⟨i + 1, by omega, by go_num, Lib.hid (HN.out nq)⟩
          case measure => simp [RowKit.intOf]; omega
        · obtain rfl : i = n := by omega
          have HN : Hid (∃ y, MineI W1 B o.m y wr ∧ ∀ j, j < k + 1 → y j = z j) := Lib.hid ⟨y, hy, fun j hj => by
            by_cases e : j = k
            · subst e; rw [hye, HZ.out]
            · exact hyk j (by omega)⟩
          clear hy hyk hye
          go_wp2_with fail
          go_roundw
          case rel => exact ⟨k + 1, by omega, by go_num, HN⟩
          case measure => simp [RowKit.intOf]; omega
    · obtain rfl : k = o.m := by omega
      go_wp2_with fail
      go_ret
      obtain ⟨y, hy, hyk⟩ := HO.out
      exact ⟨B, rfl, (hy.congr hyk).base HB1.out⟩
set_option maxRecDepth 100000 in
set_option maxHeartbeats 4000000 in
theorem scores_any (p : Pm) (v : MoV) (o : MM.Mo) (ok : MoOk o) (ao : Option Addr) (n c : Nat) (x : Nat → Int) (hn : n ≤ 9223372036854775807) (W : World) (hr : MoAt W v o) (hx : IRow W ao n c x) :
    Calls Try.prog 16 #[.agg p.cells, .agg (v.cells o), .slice ao n c] W fun e w' => ∃ u, e = .returned u ∧ NewI W.heap.size w' u (MM.scoN p o n x) (MM.scoZ p o x) ∧ Below W.heap.size W w' := by
  by_cases hv : MM.Valid p o
  · by_cases hq : MM.qryE p n x = 0
    · refine (scores_valid p v o ok ao n c x hn hv hq W hr hx).mono ?_
      rintro e w' ⟨B, rfl, hm⟩
      have e1 : MM.scoN p o n x = p.K.toNat := if_pos ⟨hv, hq⟩
      rw [e1]
      exact ⟨_, rfl, hm.newI, hm.below⟩
    · have e1 : MM.scoN p o n x = 0 := if_neg fun h => hq h.2
      rw [e1]
      obtain ⟨wo, wc, bo, bc⟩ := v
      have hI0 := InM.new W p ⟨wo, wc, bo, bc⟩ o hr
      obtain ⟨g, hg⟩ : ∃ g, W.heap.size = g := ⟨_, rfl⟩
      obtain ⟨h, hh⟩ : ∃ h, g + 1 = h := ⟨_, rfl⟩
      rw [hg, hh] at hI0
      have HI := Lib.hid hI0
      have HX := Lib.hid hx
      have HMY : Hid (∀ (u : World) (_ : MoAt u ⟨wo, wc, bo, bc⟩ o), Calls Try.prog 14 #[.agg p.cells, .agg (MoV.cells ⟨wo, wc, bo, bc⟩ o)] u fun e w' => e = .returned (.bool true) ∧ Below u.heap.size u w') := Lib.hid fun u hu => by
        have := may_any p _ o ok u hu
        rwa [decide_eq_true hv] at this
      have HQY := Lib.hid (fun (u : World) (hu : IRow u ao n c x) => query_any p ao n c x hn u hu)
      have hqb : (MM.qryE p n x != 0) = true := by simp [hq]
      generalize MM.qryE p n x = eq at *
      have HG := Lib.hid hg
      clear hr hv ok hI0 hx hq
      go_enter Try.func16, Try.ntmps16
      go_wp2_with (first
        | (refine load_pm ?_ _ rfl g rfl p HI.out.box ?_; first | rfl | (simp [Region.wanted, yielded]; done))
        | (refine load_mo ?_ _ rfl h rfl ⟨wo, wc, bo, bc⟩ o HI.out.mod ?_; first | rfl | (simp [Region.wanted, yielded]; done))
        | (go_at_call 14; (with_reducible refine (HMY.out _ HI.out.mat).mono ?_); rintro e w1 ⟨rfl, hb⟩; replace HI := Lib.hid (HI.out.step hb); clear hb)
        | (go_at_call 17; (with_reducible refine (HQY.out _ (HX.out.below HI.out.below)).mono ?_); rintro e w1 ⟨rfl, hb⟩; replace HI := Lib.hid (HI.out.step hb); clear hb))
      go_ret
      exact ⟨_, rfl, .inl ⟨rfl, rfl⟩, HI.out.below⟩
  · have e1 : MM.scoN p o n x = 0 := if_neg fun h => hv h.1
    rw [e1]
    obtain ⟨wo, wc, bo, bc⟩ := v
    have hI0 := InM.new W p ⟨wo, wc, bo, bc⟩ o hr
    obtain ⟨g, hg⟩ : ∃ g, W.heap.size = g := ⟨_, rfl⟩
    obtain ⟨h, hh⟩ : ∃ h, g + 1 = h := ⟨_, rfl⟩
    rw [hg, hh] at hI0
    have HI := Lib.hid hI0
    have HX := Lib.hid hx
    have HMY : Hid (∀ (u : World) (_ : MoAt u ⟨wo, wc, bo, bc⟩ o), Calls Try.prog 14 #[.agg p.cells, .agg (MoV.cells ⟨wo, wc, bo, bc⟩ o)] u fun e w' => e = .returned (.bool false) ∧ Below u.heap.size u w') := Lib.hid fun u hu => by
      have := may_any p _ o ok u hu
      rwa [decide_eq_false hv] at this
    have HG := Lib.hid hg
    clear hr hv ok hI0 hx
    go_enter Try.func16, Try.ntmps16
    go_wp2_with (first
      | (refine load_pm ?_ _ rfl g rfl p HI.out.box ?_; first | rfl | (simp [Region.wanted, yielded]; done))
      | (refine load_mo ?_ _ rfl h rfl ⟨wo, wc, bo, bc⟩ o HI.out.mod ?_; first | rfl | (simp [Region.wanted, yielded]; done))
      | (go_at_call 14; (with_reducible refine (HMY.out _ HI.out.mat).mono ?_); rintro e w1 ⟨rfl, hb⟩; replace HI := Lib.hid (HI.out.step hb); clear hb))
    go_ret
    exact ⟨_, rfl, .inl ⟨rfl, rfl⟩, HI.out.below⟩
end M
end Go.Proofs.Ytdblijpoelcghaa
