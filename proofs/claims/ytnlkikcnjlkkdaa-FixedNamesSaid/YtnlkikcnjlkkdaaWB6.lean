/- The texts FixW6, FixW7, FixW8, one behind the other. -/
import Derived.Test.YtnlkikcnjlkkdaaWB5
import Derived.Test.YtnlkikcnjlkkdaaWB4
/- The walk of the scores, as the program has them. -/
namespace Go.Proofs.Ytnlkikcnjlkkdaa
open Go Go.RowKit Go.Lib
namespace M
attribute [local go_sem] Oper.semAt_some
theorem qryE_zero {p : Pm} {n : Nat} {x : Nat → Int} (h : MM.qryE p n x = 0) : MM.Fit p ∧ (n : Int) = p.D ∧ MM.Wi p.X n x := by
  unfold MM.qryE at h
  by_cases h1 : MM.Fit p ∧ (n : Int) = p.D
  · rw [if_pos h1] at h
    by_cases h2 : MM.Wi p.X n x
    · exact ⟨h1.1, h1.2, h2⟩
    · rw [if_neg h2] at h; omega
  · rw [if_neg h1] at h; omega
set_option maxRecDepth 100000 in
set_option maxHeartbeats 8000000 in
theorem scores_valid (p : Pm) (v : MoV) (o : MM.Mo) (ok : MoOk o) (ao : Option Addr) (n c : Nat) (x : Nat → Int) (hn : n ≤ 9223372036854775807) (hv : MM.Valid p o) (hq : MM.qryE p n x = 0) (W : World) (hr : MoAt W v o) (hx : IRow W ao n c x) :
    Calls Try.prog 10 #[.agg p.cells, .agg (v.cells o), .slice ao n c] W fun e w' => ∃ B, e = .returned (.slice (some ⟨B, 0, none⟩) p.K.toNat p.K.toNat) ∧ MineI W B p.K.toNat (MM.scoZ p o x) w' := by
  obtain ⟨wo, wc, bo, bc⟩ := v
  have hI0 := InM.new W p ⟨wo, wc, bo, bc⟩ o hr
  obtain ⟨W1, hW1⟩ : ∃ W1, (W.alloc (.cells p.cells 31)).alloc (.cells (MoV.cells ⟨wo, wc, bo, bc⟩ o) 36) = W1 := ⟨_, rfl⟩
  obtain ⟨g, hg⟩ : ∃ g, W.heap.size = g := ⟨_, rfl⟩
  obtain ⟨h, hh⟩ : ∃ h, g + 1 = h := ⟨_, rfl⟩
  rw [hW1, hg, hh] at hI0
  have HB1 : Hid (Below W.heap.size W W1) := Lib.hid hI0.below
  have HM1 : Hid (InM W1 g h p ⟨wo, wc, bo, bc⟩ o W1) := Lib.hid ⟨hI0.box, hI0.mod, hI0.mat, Below.refl _ _⟩
  have HI := HM1
  have HX : Hid (IRow W1 ao n c x) := Lib.hid (hx.below HB1.out)
  have HMY : Hid (∀ (u : World) (_ : MoAt u ⟨wo, wc, bo, bc⟩ o), Calls Try.prog 8 #[.agg p.cells, .agg (MoV.cells ⟨wo, wc, bo, bc⟩ o)] u fun e w' => e = .returned (.bool true) ∧ Below u.heap.size u w') := Lib.hid fun u hu => by
    have := may_any p _ o ok u hu
    rwa [decide_eq_true hv] at this
  have HQY : Hid (∀ (u : World) (_ : IRow u ao n c x), Calls Try.prog 11 #[.agg p.cells, .slice ao n c] u fun e w' => e = .returned (.int .i64 0) ∧ Below u.heap.size u w') := Lib.hid fun u hu => by
    have := query_any p ao n c x hn u hu
    rwa [hq] at this
  obtain ⟨hf, hmK, hnK, hL, hWF, hWb⟩ := hv
  obtain ⟨_, hnD, hWx⟩ := qryE_zero hq
  have hd : p.D = (n : Int) := hnD.symm
  have hd4 : n ≤ 4 := by have := hf.2.2.2.1; omega
  have hdN : p.D.toNat = n := by omega
  have hm2 : o.m ≤ 2 := by have := hf.2.1; omega
  have hKN : p.K.toNat = o.m := by omega
  have hnm : o.n = o.m := by omega
  have hM := hf.2.2.2.2.2.1
  have hX := hf.2.2.2.2.2.2.2
  have HLD : Hid (∀ i, i < o.m → o.L i = n) := Lib.hid fun i hi => by have := hL i hi; omega
  have HBD : Hid (∀ k, k < o.m → -1048576 ≤ o.b k ∧ o.b k ≤ 1048576) := Lib.hid fun k hk => by have := hWb k (by omega); omega
  have HFX : Hid (∀ k j, k < o.m → j < n → (-1048576 ≤ o.F k j ∧ o.F k j ≤ 1048576) ∧ (-1048576 ≤ x j ∧ x j ≤ 1048576)) := Lib.hid fun k j hk hj => by
    have h1 := hWF k hk j (by have := hL k hk; omega)
    have h2 := hWx j (by omega)
    omega
  have HKM := Lib.hid hmK.symm
  obtain ⟨z, hz⟩ : ∃ z, MM.scoZ p o x = z := ⟨_, rfl⟩
  have HZ : Hid (∀ k, z k = MM.scoP o x k n) := Lib.hid fun k => by rw [← hz, ← hdN]; rfl
  rw [hKN, hz]
  have HD := Lib.hid hd
  clear hr hf hz hL hI0 ok hmK hnK hKN hWF hWb hWx hnD hx hM hX hq hd
  go_enter Try.func10, Try.ntmps10
  go_upto_region 3 with (first
    | (refine load_pm ?_ _ rfl g rfl p HI.out.box ?_; first | rfl | (simp [Region.wanted, yielded]; done))
    | (refine load_mo ?_ _ rfl h rfl ⟨wo, wc, bo, bc⟩ o HI.out.mod ?_; first | rfl | (simp [Region.wanted, yielded]; done))
    | (go_at_call 8; (with_reducible refine (HMY.out _ HI.out.mat).mono ?_); rintro e w1 ⟨rfl, hb⟩; replace HI := Lib.hid (HI.out.step hb); clear hb)
    | (go_at_call 11; (with_reducible refine (HQY.out _ (HX.out.below HI.out.below)).mono ?_); rintro e w1 ⟨rfl, hb⟩; replace HI := Lib.hid (HI.out.step hb); clear hb))
  have k7 := HI.out.toP.cK HKM.out
  have HO0 : Hid (MineI W1 w1.heap.size o.m (fun _ => 0) (w1.alloc (.cells (madeCells (Value.int .i64 0).cells (o.m * 1)) 2))) := Lib.hid ((MineI.made w1 o.m).base HI.out.below)
  have hmk := run_madeI o.m (by omega) w1
  have c02 := (HI.out.mod.below (below_box w1 (.cells (madeCells (Value.int .i64 0).cells (o.m * 1)) 2))).cell 0
  generalize w1.alloc (.cells (madeCells (Value.int .i64 0).cells (o.m * 1)) 2) = W2 at *
  generalize w1.heap.size = B at *
  clear HI
  go_wp2_with fail
  clear hmk k7
  go_loopw [28] (fun s28 wx => ∃ k : Nat, k ≤ o.m ∧ s28 = .int .i64 (k : Int) ∧ Hid (∃ y, MineI W1 B o.m y wx ∧ ∀ j, j < k → y j = z j)) (fun s28 _ => o.m - (RowKit.intOf s28).toNat)
  case atStart => exact ⟨0, Nat.zero_le _, rfl, Lib.hid ⟨_, HO0.out, fun j h => absurd h (by omega)⟩⟩
  case round =>
    clear HO0 c02
    obtain ⟨k, hk, rfl, HO⟩ := hrel
    by_cases hlt : k < o.m
    · obtain ⟨y, hy, hyk⟩ := HO.out
      have HYK := Lib.hid hyk
      obtain ⟨ad, bo', c', hwo, hc0, hs⟩ := HM1.out.mat.mat k hlt
      have hwo' : wo = some ad := hwo
      subst hwo'
      have HS := Lib.hid hs
      have hc := (hy.below.cell (World.block_lt_of_cell? W1 _ hc0)).trans hc0
      have c1 : wr.cell? ⟨h, 1, none⟩ = some (.slice bo o.n bc) := (HM1.out.step hy.below).mod.cell 1
      obtain ⟨bd, hbo, hcb⟩ := (HM1.out.step hy.below).mat.bias.at_ (k := k) (by omega)
      have hbo' : bo = some bd := hbo
      subst hbo'
      have hcl := hy.cell hlt
      have hfr := hy.free k
      have hk0 : (0 : Int) ≤ (k : Int) := Int.natCast_nonneg _
      have hk1 : (k : Int) < (o.m : Int) := by omega
      have hk2 : (k : Int) < (o.n : Int) := by omega
      have HN : Hid (∃ y', MineI W1 B o.m y' (wr.setCell ⟨B, k, none⟩ (.int .i64 (o.b k))) ∧ (∀ j, j < k → y' j = z j) ∧ y' k = MM.scoP o x k 0) := Lib.hid ⟨fun j => if j = k then o.b k else y j, hy.set k (o.b k) (fun _ _ => rfl), fun j hj => (if_neg (show ¬ j = k by omega)).trans (HYK.out j hj), if_pos rfl⟩
      rw [HLD.out k hlt] at hc HS
      clear hs hwo hc0 hbo hy hyk HO HYK
      generalize o.b k = bk at *
      go_wp2_with fail
      clear hc c1 hcb hcl hfr
      go_loopw [43] (fun s43 wx => ∃ i : Nat, i ≤ n ∧ s43 = .int .i64 (i : Int) ∧ Hid (∃ y', MineI W1 B o.m y' wx ∧ (∀ j, j < k → y' j = z j) ∧ y' k = MM.scoP o x k i)) (fun s43 _ => n - (RowKit.intOf s43).toNat)
      case atStart => exact ⟨0, Nat.zero_le _, rfl, HN⟩
      case round =>
        clear HN
        obtain ⟨i, hi, rfl, HJ⟩ := hrel
        obtain ⟨y, hy, hyk, hye⟩ := HJ.out
        by_cases hli : i < n
        · obtain ⟨rd, rfl, hcr⟩ := (HS.out.below hy.below).at_ hli
          obtain ⟨xd, rfl, hcx⟩ := (HX.out.below hy.below).at_ hli
          have hcl := hy.cell hlt
          have hfr := hy.free k
          rw [hye] at hcl
          have hle := MM.scoP_le (o := o) (x := x) (k := k) (HBD.out k hlt) i fun j hj => HFX.out k j hlt (by omega)
          have hml := MM.mul_le_20 (HFX.out k i hlt hli).1 (HFX.out k i hlt hli).2
          have HE : Hid (MM.scoP o x k (i + 1) = MM.scoP o x k i + o.F k i * x i) := Lib.hid rfl
          have HYK := Lib.hid hyk
          have HN : Hid (∀ nd, ∃ y', MineI W1 B o.m y' ((wr.drewN nd).setCell ⟨B, k, none⟩ (.int .i64 (MM.scoP o x k i + o.F k i * x i))) ∧ (∀ j, j < k → y' j = z j) ∧ y' k = MM.scoP o x k (i + 1)) := Lib.hid fun nd => ⟨fun j => if j = k then MM.scoP o x k i + o.F k i * x i else y j, (hy.drewN nd).set k _ (fun _ _ => rfl), fun j hj => (if_neg (show ¬ j = k by omega)).trans (HYK.out j hj), if_pos rfl⟩
          generalize MM.scoP o x k i = si at *
          obtain ⟨t, ht⟩ : ∃ t, o.F k i * x i = t := ⟨_, rfl⟩
          rw [ht] at HN hml
          have hwm : wrap64 (o.F k i * x i) = t := by rw [ht, IntWalk.wrap64_in _ (by omega)]
          have hwa : wrap64 (si + t) = si + t := IntWalk.wrap64_in _ (by omega)
          have hi0 : (0 : Int) ≤ (i : Int) := Int.natCast_nonneg _
          have hi1 : (i : Int) < (n : Int) := by omega
          clear hy hyk hye HE ht HJ HYK hml
          generalize o.F k i = fi at *
          generalize x i = xi at *
          generalize hso : si + t = so at *
          go_upto_region 11 with fail
          refine QT.region 11 (by kernel_rfl) (by kernel_rfl) ?_
          simp only [List.take_succ_cons, List.take_zero, List.drop_succ_cons, List.drop_zero]
          repeat (quiet_step (fail))
          refine wpQuiet_nil ?_
          intro nq
          go_wp2_with fail
          go_roundw
          case rel => exact ⟨i + 1, by omega, by go_num, Lib.hid (HN.out nq)⟩
          case measure => simp [RowKit.intOf]; omega
        · obtain rfl : i = n := by omega
          have HN : Hid (∃ y, MineI W1 B o.m y wr ∧ ∀ j, j < k + 1 → y j = z j) := Lib.hid ⟨y, hy, fun j hj => by
            by_cases e : j = k
            · subst e; rw [hye, HZ.out]
            · exact hyk j (by omega)⟩
          clear hy hyk hye
          go_wp2_with fail
          go_roundw
          case rel => exact ⟨k + 1, by omega, by go_num, HN⟩
          case measure => simp [RowKit.intOf]; omega
    · obtain rfl : k = o.m := by omega
      go_wp2_with fail
      go_ret
      obtain ⟨y, hy, hyk⟩ := HO.out
      exact ⟨B, rfl, (hy.congr hyk).base HB1.out⟩
set_option maxRecDepth 100000 in
set_option maxHeartbeats 4000000 in
theorem scores_any (p : Pm) (v : MoV) (o : MM.Mo) (ok : MoOk o) (ao : Option Addr) (n c : Nat) (x : Nat → Int) (hn : n ≤ 9223372036854775807) (W : World) (hr : MoAt W v o) (hx : IRow W ao n c x) :
    Calls Try.prog 10 #[.agg p.cells, .agg (v.cells o), .slice ao n c] W fun e w' => ∃ u, e = .returned u ∧ NewI W.heap.size w' u (MM.scoN p o n x) (MM.scoZ p o x) ∧ Below W.heap.size W w' := by
  by_cases hv : MM.Valid p o
  · by_cases hq : MM.qryE p n x = 0
    · refine (scores_valid p v o ok ao n c x hn hv hq W hr hx).mono ?_
      rintro e w' ⟨B, rfl, hm⟩
      have e1 : MM.scoN p o n x = p.K.toNat := if_pos ⟨hv, hq⟩
      rw [e1]
      exact ⟨_, rfl, hm.newI, hm.below⟩
    · have e1 : MM.scoN p o n x = 0 := if_neg fun h => hq h.2
      rw [e1]
      obtain ⟨wo, wc, bo, bc⟩ := v
      have hI0 := InM.new W p ⟨wo, wc, bo, bc⟩ o hr
      obtain ⟨g, hg⟩ : ∃ g, W.heap.size = g := ⟨_, rfl⟩
      obtain ⟨h, hh⟩ : ∃ h, g + 1 = h := ⟨_, rfl⟩
      rw [hg, hh] at hI0
      have HI := Lib.hid hI0
      have HX := Lib.hid hx
      have HMY : Hid (∀ (u : World) (_ : MoAt u ⟨wo, wc, bo, bc⟩ o), Calls Try.prog 8 #[.agg p.cells, .agg (MoV.cells ⟨wo, wc, bo, bc⟩ o)] u fun e w' => e = .returned (.bool true) ∧ Below u.heap.size u w') := Lib.hid fun u hu => by
        have := may_any p _ o ok u hu
        rwa [decide_eq_true hv] at this
      have HQY := Lib.hid (fun (u : World) (hu : IRow u ao n c x) => query_any p ao n c x hn u hu)
      have hqb : (MM.qryE p n x != 0) = true := by simp [hq]
      generalize MM.qryE p n x = eq at *
      have HG := Lib.hid hg
      clear hr hv ok hI0 hx hq
      go_enter Try.func10, Try.ntmps10
      go_wp2_with (first
        | (refine load_pm ?_ _ rfl g rfl p HI.out.box ?_; first | rfl | (simp [Region.wanted, yielded]; done))
        | (refine load_mo ?_ _ rfl h rfl ⟨wo, wc, bo, bc⟩ o HI.out.mod ?_; first | rfl | (simp [Region.wanted, yielded]; done))
        | (go_at_call 8; (with_reducible refine (HMY.out _ HI.out.mat).mono ?_); rintro e w1 ⟨rfl, hb⟩; replace HI := Lib.hid (HI.out.step hb); clear hb)
        | (go_at_call 11; (with_reducible refine (HQY.out _ (HX.out.below HI.out.below)).mono ?_); rintro e w1 ⟨rfl, hb⟩; replace HI := Lib.hid (HI.out.step hb); clear hb))
      go_ret
      exact ⟨_, rfl, .inl ⟨rfl, rfl⟩, HI.out.below⟩
  · have e1 : MM.scoN p o n x = 0 := if_neg fun h => hv h.1
    rw [e1]
    obtain ⟨wo, wc, bo, bc⟩ := v
    have hI0 := InM.new W p ⟨wo, wc, bo, bc⟩ o hr
    obtain ⟨g, hg⟩ : ∃ g, W.heap.size = g := ⟨_, rfl⟩
    obtain ⟨h, hh⟩ : ∃ h, g + 1 = h := ⟨_, rfl⟩
    rw [hg, hh] at hI0
    have HI := Lib.hid hI0
    have HX := Lib.hid hx
    have HMY : Hid (∀ (u : World) (_ : MoAt u ⟨wo, wc, bo, bc⟩ o), Calls Try.prog 8 #[.agg p.cells, .agg (MoV.cells ⟨wo, wc, bo, bc⟩ o)] u fun e w' => e = .returned (.bool false) ∧ Below u.heap.size u w') := Lib.hid fun u hu => by
      have := may_any p _ o ok u hu
      rwa [decide_eq_false hv] at this
    have HG := Lib.hid hg
    clear hr hv ok hI0 hx
    go_enter Try.func10, Try.ntmps10
    go_wp2_with (first
      | (refine load_pm ?_ _ rfl g rfl p HI.out.box ?_; first | rfl | (simp [Region.wanted, yielded]; done))
      | (refine load_mo ?_ _ rfl h rfl ⟨wo, wc, bo, bc⟩ o HI.out.mod ?_; first | rfl | (simp [Region.wanted, yielded]; done))
      | (go_at_call 8; (with_reducible refine (HMY.out _ HI.out.mat).mono ?_); rintro e w1 ⟨rfl, hb⟩; replace HI := Lib.hid (HI.out.step hb); clear hb))
    go_ret
    exact ⟨_, rfl, .inl ⟨rfl, rfl⟩, HI.out.below⟩
end M
end Go.Proofs.Ytnlkikcnjlkkdaa
/- The walk of what adds a product to a sum, as the program has it: the closure, and what makes it. -/
namespace Go.Proofs.Ytnlkikcnjlkkdaa
open Go Go.RowKit Go.Lib
namespace M
attribute [local go_sem] Oper.semAt_some
/-- What the closure holds: three cells. -/
structure Held (w : World) (a0 a1 a2 : Nat) (lo : Option Addr) (ln lc off q : Nat) : Prop where
  off : w.cell? ⟨a0, 0, none⟩ = some (.int .i64 (off : Int))
  vals : w.cell? ⟨a1, 0, none⟩ = some (.slice lo ln lc)
  q : w.cell? ⟨a2, 0, none⟩ = some (.int .u64 (q : Int))
set_option maxHeartbeats 4000000 in
theorem add1_any (a0 a1 a2 : Nat) (lo : Option Addr) (ln lc off q s i n : Nat) (l : Nat → Nat) (hl : ∀ j, l j < 18446744073709551616) (hn : n < 18446744073709551616) (ho : off ≤ 1000) (hi : i ≤ 1000) (W : World) (hh : Held W a0 a1 a2 lo ln lc off q) (hr : Rd W lo ln l) :
    Calls Try.prog 26 #[.int .u64 (s : Int), .int .i64 (i : Int), .int .u64 (n : Int), .pointer (some ⟨a0, 0, none⟩), .pointer (some ⟨a1, 0, none⟩), .pointer (some ⟨a2, 0, none⟩)] W fun e w' => e = .returned (.int .u64 ((if off + i < ln then MM.addU s (MM.mulU (l (off + i)) n q) q else s : Nat) : Int)) ∧ ∃ m, w' = W.drewN m := by
  obtain ⟨h0, h1, h2⟩ := hh
  have hw : IntKind.i64.wrap ((off : Int) + (i : Int)) = ((off + i : Nat) : Int) := by rw [IntWalk.i64_in _ (by omega)]; rfl
  obtain ⟨t, ht⟩ : ∃ t, off + i = t := ⟨_, rfl⟩
  rw [ht] at hw ⊢
  clear ht
  by_cases hlt : t < ln
  · rw [if_pos hlt]
    obtain ⟨ad, rfl, hc⟩ := hr.at_ hlt
    have HM := ret_mulU (l t) n q (hl t) hn
    have HA := ret_addU s (MM.mulU (l t) n q) q
    generalize MM.mulU (l t) n q = x1 at *
    generalize MM.addU s x1 q = x2 at *
    generalize l t = lt at *
    have ht0 : (0 : Int) ≤ (t : Int) := Int.natCast_nonneg _
    have htI : (t : Int) < (ln : Int) := by omega
    clear hr hl
    go_enter Try.func26, Try.ntmps26
    go_upto_region 3 with fail
    go_quiet (first | (go_at_call 27; exact (HM).quiet) | (go_at_call 19; exact (HA).quiet))
    go_wp2_with fail
    go_ret
    exact ⟨rfl, _, rfl⟩
  · rw [if_neg hlt]
    have htI : ¬ (t : Int) < (ln : Int) := by omega
    clear hr hl
    go_enter Try.func26, Try.ntmps26
    go_wp2_with fail
    go_ret
    exact ⟨rfl, 0, rfl⟩
/-- What a call of adder hands back. -/
def Adder (W : World) (lo : Option Addr) (ln lc off q : Nat) (e : Ending) (w' : World) : Prop := ∃ a0 a1 a2, e = .returned (.func (Fn.func 26) #[] #[.pointer (some ⟨a0, 0, none⟩), .pointer (some ⟨a1, 0, none⟩), .pointer (some ⟨a2, 0, none⟩)]) ∧
  Held w' a0 a1 a2 lo ln lc off q ∧ W.heap.size ≤ a0 ∧ W.heap.size ≤ a1 ∧ W.heap.size ≤ a2 ∧ Below W.heap.size W w'
theorem adder_any (lo : Option Addr) (ln lc off q : Nat) (W : World) : Calls Try.prog 22 #[.slice lo ln lc, .int .i64 (off : Int), .int .u64 (q : Int)] W (Adder W lo ln lc off q) := by
  have b1 := below_box W (.cells #[.slice lo ln lc] 39)
  have n1 := heap_alloc_new W (.cells #[.slice lo ln lc] 39)
  obtain ⟨W1, hW1⟩ : ∃ W1, W.alloc (.cells #[.slice lo ln lc] 39) = W1 := ⟨_, rfl⟩
  have s1 : W1.heap.size = W.heap.size + 1 := by rw [← hW1, World.size_alloc]
  have b2 := below_box W1 (.cells #[.int .i64 (off : Int)] 3)
  have n2 := heap_alloc_new W1 (.cells #[.int .i64 (off : Int)] 3)
  obtain ⟨W2, hW2⟩ : ∃ W2, W1.alloc (.cells #[.int .i64 (off : Int)] 3) = W2 := ⟨_, rfl⟩
  have s2 : W2.heap.size = W1.heap.size + 1 := by rw [← hW2, World.size_alloc]
  have b3 := below_box W2 (.cells #[.int .u64 (q : Int)] 23)
  have n3 := heap_alloc_new W2 (.cells #[.int .u64 (q : Int)] 23)
  obtain ⟨W3, hW3⟩ : ∃ W3, W2.alloc (.cells #[.int .u64 (q : Int)] 23) = W3 := ⟨_, rfl⟩
  rw [hW1] at b1 n1
  rw [hW2, s1] at n2
  rw [hW2] at b2
  rw [hW3] at b3
  rw [hW3, s2, s1] at n3
  have HE : Hid (Adder W lo ln lc off q (.returned (.func (Fn.func 26) #[] #[.pointer (some ⟨W.heap.size + 1, 0, none⟩), .pointer (some ⟨W.heap.size, 0, none⟩), .pointer (some ⟨W.heap.size + 1 + 1, 0, none⟩)])) W3) := Lib.hid (by
    have n2' := (b3.block _ (row_lt n2)).trans n2
    have n1' := (b3.block _ (by have := row_lt n1; omega)).trans ((b2.block _ (row_lt n1)).trans n1)
    exact ⟨_, _, _, rfl, ⟨(cell_of_row W3 _ 0 _ _ _ n2').trans rfl, (cell_of_row W3 _ 0 _ _ _ n1').trans rfl, (cell_of_row W3 _ 0 _ _ _ n3).trans rfl⟩, by omega, by omega, by omega, b1.trans ((b2.mono (by omega)).trans (b3.mono (by omega)))⟩)
  subst hW3; subst hW2; subst hW1
  clear b1 n1 b2 n2 b3 n3 s1 s2
  go_enter Try.func22, Try.ntmps22
  go_wp2_with fail
  go_ret
  exact HE.out
theorem Kept.trans {B : Nat} {W w w' : World} (h : Kept B W w) (h' : Kept B w w') (hs : W.heap.size ≤ w.heap.size) : Kept B W w' := fun k a b => (h' k (by omega) b).trans (h k a b)
theorem Held.kept {w w' : World} {a0 a1 a2 B : Nat} {lo : Option Addr} {ln lc off q : Nat} (h : Held w a0 a1 a2 lo ln lc off q) (hk : Kept B w w') (h0 : a0 ≠ B) (h1 : a1 ≠ B) (h2 : a2 ≠ B) : Held w' a0 a1 a2 lo ln lc off q := by
  have st : ∀ (a : Nat) (v : Value), a ≠ B → w.cell? ⟨a, 0, none⟩ = some v → w'.cell? ⟨a, 0, none⟩ = some v := fun a v hn hc => by
    have hlt : a < w.heap.size := World.block_lt_of_cell? w _ hc
    rw [← hc]
    unfold World.cell?
    simp only [hk a hlt hn]
  exact ⟨st _ _ h0 h.off, st _ _ h1 h.vals, st _ _ h2 h.q⟩
theorem Mine.kept {w0 w w' : World} {B B2 n : Nat} {z : Nat → Nat} (h : Mine w0 B2 n z w) (hk : Kept B w w') (hne : B2 ≠ B) (hb : Below w0.heap.size w0 w') : Mine w0 B2 n z w' :=
  ⟨by obtain ⟨cs, h1, h2⟩ := h.block; exact ⟨cs, (hk B2 (row_lt h1) hne).trans h1, h2⟩, h.low, hb⟩
end M
end Go.Proofs.Ytnlkikcnjlkkdaa
/- The walk of the products, as the program has them. -/
namespace Go.Proofs.Ytnlkikcnjlkkdaa
open Go Go.RowKit Go.Lib
namespace M
attribute [local go_sem] Oper.semAt_some
theorem load_boxp {w : World} {g : Nat} {p : Pm} (h : PBox w g p) {o : Oper} {ev : Operand → Value} {x : Operand} (ho : o.op = .load 31 x) (hx : ev x = .pointer (some ⟨g, 0, none⟩)) : (execOp ev o).run Try.prog w = .ok (.value (.agg p.cells)) w := by
  unfold execOp
  simp only [ho, hx, Instr.loadAt, Instr.sureAddr, Sem.run_bind, Sem.run_pure, Result.andThen_ok, run_loadVar_row w g 31 31 p.cells (0, 0) _ h Try.underlying31 rfl info_pm]
set_option maxRecDepth 100000 in
set_option maxHeartbeats 8000000 in
theorem dot_fit (p : Pm) (lo : Option Addr) (ln lc : Nat) (l : Nat → Nat) (ao : Option Addr) (n c : Nat) (x : Nat → Int) (hl : ∀ j, l j < 18446744073709551616) (hx : ∀ j, -9223372036854775808 ≤ x j ∧ x j ≤ 9223372036854775807) (hf : MM.Fit p) (W : World) (hrl : Rd W lo ln l) (hr : IRow W ao n c x) :
    Calls Try.prog 13 #[.agg p.cells, .slice lo ln lc, .slice ao n c] W fun e w' => ∃ B, e = .returned (.slice (some ⟨B, 0, none⟩) p.K.toNat p.K.toNat) ∧ Mine W B p.K.toNat (MM.dotZ p ln l n x) w' := by
  obtain ⟨W1, hW1⟩ : ∃ W1, W.alloc (.cells p.cells 31) = W1 := ⟨_, rfl⟩
  obtain ⟨g, hg⟩ : ∃ g, W.heap.size = g := ⟨_, rfl⟩
  have HB1 : Hid (Below W.heap.size W W1) := Lib.hid (by rw [← hW1]; exact below_box W _)
  have HB0 : Hid (PBox W1 g p) := Lib.hid (by rw [← hW1, ← hg]; exact PBox.new W p)
  have HI : Hid (InP W1 g p W1) := Lib.hid ⟨HB0.out, Below.refl _ _⟩
  have HR : Hid (IRow W1 ao n c x) := Lib.hid (hr.below HB1.out)
  have HRL : Hid (Rd W1 lo ln l) := Lib.hid (hrl.below HB1.out)
  have HL := Lib.hid hl
  have HU := usable_any p
  rw [decide_eq_true hf] at HU
  obtain ⟨d, hd⟩ : ∃ d : Nat, p.D = (d : Int) := ⟨p.D.toNat, by have := hf.2.2.1; omega⟩
  have hd4 : d ≤ 4 := by have := hf.2.2.2.1; omega
  have hdN : p.D.toNat = d := by omega
  obtain ⟨kk, hkk⟩ : ∃ kk : Nat, p.K = (kk : Int) := ⟨p.K.toNat, by have := hf.1; omega⟩
  have hkk2 : kk ≤ 2 := by have := hf.2.1; omega
  have hkN : p.K.toNat = kk := by omega
  obtain ⟨N, hN⟩ : ∃ N, d + 1 = N := ⟨_, rfl⟩
  have HROW := Lib.hid (fun (u : World) (h : IRow u ao n c x) => row_fit p ao n c x hx hf u h)
  rw [hdN, hN] at HROW
  obtain ⟨z, hz⟩ : ∃ z, MM.dotZ p ln l n x = z := ⟨_, rfl⟩
  have HZ : Hid (∀ k, z k = MM.dotP p.Q d ln l (MM.rowZ p n x) k N) := Lib.hid fun k => by rw [← hz, ← hN, ← hdN]; rfl
  have HRZ : Hid (∀ j, MM.rowZ p n x j < 18446744073709551616) := Lib.hid fun j => by
    unfold MM.rowZ
    split
    · split
      · exact MM.numU_lt _ _
      · omega
    · exact MM.numU_lt _ _
  rw [hkN, hz]
  generalize MM.rowZ p n x = r at *
  have HD := Lib.hid hd
  have HKK := Lib.hid hkk
  clear hr hrl hl hf hz hx hd hkk
  go_enter Try.func13, Try.ntmps13
  go_upto_region 3 with (first
    | (refine load_pm ?_ _ rfl g rfl p HI.out.box ?_; first | rfl | (simp [Region.wanted, yielded]; done))
    | (go_at_call 20; (with_reducible refine (HU.at _).mono ?_); rintro e w1 ⟨rfl, hb⟩; replace HI := Lib.hid (HI.out.step hb); clear hb))
  have hbw := HI.out.below
  refine RK.cut (fun a a' u => ∃ B B2, (B ≠ B2 ∧ Mine W1 B kk (fun _ => 0) u ∧ Mine W1 B2 N r u) ∧ a' = { a with tmps := (((((((a.tmps.setIfInBounds 16 (.pointer (some ⟨g, 7, none⟩))).setIfInBounds 17 (.int .i64 (kk : Int))).setIfInBounds 19 (.agg p.cells)).setIfInBounds 20 (.slice ao n c)).setIfInBounds 18 (.slice (some ⟨B, 0, none⟩) kk kk)).setIfInBounds 21 (.slice (some ⟨B2, 0, none⟩) N N)).setIfInBounds 7 (.slice (some ⟨B, 0, none⟩) kk kk)).setIfInBounds 8 (.slice (some ⟨B2, 0, none⟩) N N) }) (RK.region (Below W1.heap.size W1) 100 (by kernel_rfl) ?_) ?_
  · have HS0 : Below W1.heap.size W1 w1.drew := hbw.trans (below_drewN' w1 1 _)
    refine RK.Any.take 0 16 (.pointer (some ⟨g, 7, none⟩)) rfl rfl (by kernel_rfl) (by kernel_rfl) (by kernel_rfl) (by kernel_rfl) (fun _ _ _ h => by cases h.1) (by rfl) (fun W' hb => ?_) HS0 ?_
    · go_simp
    simp only [List.setIfInBounds_toArray, List.set_cons_zero, List.set_cons_succ]
    refine RK.Any.take 1 17 (.int .i64 (kk : Int)) rfl rfl (by kernel_rfl) (by kernel_rfl) (by kernel_rfl) (by kernel_rfl) (fun _ _ _ h => by cases h.1) (by rfl) (fun W' hb => ?_) HS0 ?_
    · have cc := InP.cK ⟨HB0.out.below hb, hb⟩ HKK.out; go_simp
    simp only [List.setIfInBounds_toArray, List.set_cons_zero, List.set_cons_succ]
    refine RK.Any.take 3 19 (.agg p.cells) rfl rfl (by kernel_rfl) (by kernel_rfl) (by kernel_rfl) (by kernel_rfl) (fun _ _ _ h => by cases h.1) (by rfl) (fun W' hb => ?_) HS0 ?_
    · exact load_boxp (HB0.out.below hb) rfl rfl
    simp only [List.setIfInBounds_toArray, List.set_cons_zero, List.set_cons_succ]
    refine RK.Any.take 4 20 (.slice ao n c) rfl rfl (by kernel_rfl) (by kernel_rfl) (by kernel_rfl) (by kernel_rfl) (fun _ _ _ h => by cases h.1) (by rfl) (fun W' hb => ?_) HS0 ?_
    · go_simp
    simp only [List.setIfInBounds_toArray, List.set_cons_zero, List.set_cons_succ]
    generalize w1.drew = w0 at *
    have hmk := fun u => run_made kk (by omega) u
    have hMk := fun u => Mine.made u kk
    generalize Obj.cells (madeCells (Value.int .u64 0).cells (kk * 1)) 23 = An at hmk hMk
    refine RK.Any.each [2, 5] (by kernel_rfl) (by simp) fun y hy => ?_
    simp only [List.mem_cons, List.not_mem_nil, or_false] at hy
    rcases hy with rfl | rfl
    · have hmk0 := hmk w0
      refine RK.wpOp_exec (t := 18) (v := .slice (some ⟨w0.heap.size, 0, none⟩) kk kk) (w1 := w0.alloc An) rfl rfl (by rfl) (by go_simp) ?_
      have HS1 : Below W1.heap.size W1 (w0.alloc An) := HS0.trans ((below_box _ _).mono HS0.size)
      refine ⟨fun _ => HS1, ?_⟩
      simp only [List.setIfInBounds_toArray, List.set_cons_zero, List.set_cons_succ]
      refine RK.Any.call 5 21 12 #[.agg p.cells, .slice ao n c] (by kernel_rfl) rfl rfl (by rfl) (by go_simp) (Calls.mono (HROW.out _ (HR.out.below HS1)) ?_)
      rintro e w2 ⟨B2, rfl, hm2⟩
      have hs2 := hm2.low
      rw [World.size_alloc] at hs2
      have HS2 : Below W1.heap.size W1 w2 := HS1.trans (hm2.below.mono HS1.size)
      have hm1 := ((hMk w0).step hm2.below).base HS0
      refine ⟨_, rfl, fun _ => HS2, ?_⟩
      simp only [List.setIfInBounds_toArray, List.set_cons_zero, List.set_cons_succ]
      refine RK.Any.take 6 7 (.slice (some ⟨w0.heap.size, 0, none⟩) kk kk) rfl rfl (by kernel_rfl) (by kernel_rfl) (by kernel_rfl) (by kernel_rfl) (fun _ _ _ h => by cases h.1) (by rfl) (fun W' hb => ?_) HS2 ?_
      · go_simp
      simp only [List.setIfInBounds_toArray, List.set_cons_zero, List.set_cons_succ]
      refine RK.Any.take 7 8 (.slice (some ⟨B2, 0, none⟩) N N) rfl rfl (by kernel_rfl) (by kernel_rfl) (by kernel_rfl) (by kernel_rfl) (fun _ _ _ h => by cases h.1) (by rfl) (fun W' hb => ?_) HS2 ?_
      · go_simp
      simp only [List.setIfInBounds_toArray, List.set_cons_zero, List.set_cons_succ]
      refine RK.Any.done (by kernel_rfl) ?_
      exact ⟨rfl, w0.heap.size, B2, ⟨by omega, hm1, hm2.base HS1⟩, rfl⟩
    · refine RK.wpOp_call (t := 21) (g := 12) (args := #[.agg p.cells, .slice ao n c]) rfl rfl (by rfl) (by go_simp) (Calls.mono (HROW.out _ (HR.out.below HS0)) ?_)
      rintro e w2 ⟨B2, rfl, hm2⟩
      have hl2 := hm2.lt
      have HS2 : Below W1.heap.size W1 w2 := HS0.trans (hm2.below.mono HS0.size)
      refine ⟨_, rfl, fun _ => HS2, ?_⟩
      simp only [List.setIfInBounds_toArray, List.set_cons_zero, List.set_cons_succ]
      have hmk0 := hmk w2
      have hm1 := (hMk w2).base HS2
      have hm3 := (hm2.step (below_box w2 An)).base HS0
      refine RK.Any.exec 2 18 (.slice (some ⟨w2.heap.size, 0, none⟩) kk kk) (w1 := w2.alloc An) (by kernel_rfl) rfl rfl (by rfl) (by go_simp) hm1.below ?_
      simp only [List.setIfInBounds_toArray, List.set_cons_zero, List.set_cons_succ]
      refine RK.Any.take 6 7 (.slice (some ⟨w2.heap.size, 0, none⟩) kk kk) rfl rfl (by kernel_rfl) (by kernel_rfl) (by kernel_rfl) (by kernel_rfl) (fun _ _ _ h => by cases h.1) (by rfl) (fun W' hb => ?_) hm1.below ?_
      · go_simp
      simp only [List.setIfInBounds_toArray, List.set_cons_zero, List.set_cons_succ]
      refine RK.Any.take 7 8 (.slice (some ⟨B2, 0, none⟩) N N) rfl rfl (by kernel_rfl) (by kernel_rfl) (by kernel_rfl) (by kernel_rfl) (fun _ _ _ h => by cases h.1) (by rfl) (fun W' hb => ?_) hm1.below ?_
      · go_simp
      simp only [List.setIfInBounds_toArray, List.set_cons_zero, List.set_cons_succ]
      refine RK.Any.done (by kernel_rfl) ?_
      exact ⟨rfl, w2.heap.size, B2, ⟨by omega, hm1, hm3⟩, rfl⟩
  rintro a1 W7 ⟨B, B2, ⟨hBB, hm1, hm2⟩, rfl⟩
  simp only [List.setIfInBounds_toArray, List.set_cons_zero, List.set_cons_succ]
  have HM10 := Lib.hid hm1
  have HM20 := Lib.hid hm2
  have HBB := Lib.hid hBB
  clear hm1 hm2 hBB HI hbw HROW HU
  go_wp2_with fail
  go_loopw [24] (fun s24 wx => ∃ k : Nat, k ≤ kk ∧ s24 = .int .i64 (k : Int) ∧ Hid (∃ y, Mine W1 B kk y wx ∧ (∀ j, j < k → y j = z j) ∧ ∀ j, k ≤ j → y j = 0) ∧ Hid (Mine W1 B2 N r wx)) (fun s24 _ => kk - (RowKit.intOf s24).toNat)
  case atStart => exact ⟨0, Nat.zero_le _, rfl, Lib.hid ⟨_, HM10.out, fun j h => absurd h (by omega), fun _ _ => rfl⟩, HM20⟩
  case round =>
    clear HM10 HM20
    obtain ⟨k, hk, rfl, HM, HM2⟩ := hrel
    by_cases hlt : k < kk
    · obtain ⟨a, ha⟩ : ∃ a, k * N = a := ⟨_, rfl⟩
      have ha10 : a ≤ 10 := by rw [← ha]; exact Nat.le_trans (Nat.mul_le_mul (show k ≤ 2 by omega) (show N ≤ 5 by omega)) (by omega)
      have hwa : IntKind.i64.wrap ((k : Int) * (N : Int)) = (a : Int) := by rw [show (k : Int) * (N : Int) = ((a : Nat) : Int) by rw [← ha]; rfl, IntWalk.i64_in _ (by omega)]
      have HA := Lib.hid ha
      have HAD := Lib.hid (adder_any lo ln lc a p.Q wr)
      have hq : wr.cell? ⟨g, 1, none⟩ = some (.int .u64 (p.Q : Int)) := InP.cQ ⟨HB0.out.below HM2.out.below, HM2.out.below⟩
      have hk0 : (0 : Int) ≤ (k : Int) := Int.natCast_nonneg _
      clear ha
      obtain ⟨wo, hwo⟩ : ∃ wo : World, wo = wr := ⟨_, rfl⟩
      subst hwo
      go_wp2_with (go_at_call 22; (with_reducible refine HAD.out.mono ?_); rintro e w2 ⟨a0, a1, a2, rfl, hh, h0, h1, h2, hb⟩)
      have hbl := HM2.out.below.size
      have HH := Lib.hid hh
      have HM2 := Lib.hid (HM2.out.step hb)
      have HN0 : Hid (∃ y, Mine W1 B kk y w2 ∧ (∀ j, j < k → y j = z j) ∧ (∀ j, k + 1 ≤ j → y j = 0) ∧ y k = MM.dotP p.Q d ln l r k 0) := by
        obtain ⟨y, hy, h3, h4⟩ := HM.out
        exact Lib.hid ⟨y, hy.step hb, h3, fun j hj => h4 j (by omega), h4 k (Nat.le_refl _)⟩
      have hB : B < wo.heap.size := by obtain ⟨y, hy, _⟩ := HM.out; exact hy.lt
      have hn0 : a0 ≠ B := by omega
      have hn1 : a1 ≠ B := by omega
      have hn2 : a2 ≠ B := by omega
      clear HM HAD hh hb h0 h1 h2 hq hbl
      go_loopw [37] (fun s37 wx => ∃ i : Nat, i ≤ N ∧ s37 = .int .i64 (i : Int) ∧ Hid (∃ y, Mine W1 B kk y wx ∧ (∀ j, j < k → y j = z j) ∧ (∀ j, k + 1 ≤ j → y j = 0) ∧ y k = MM.dotP p.Q d ln l r k i) ∧ Hid (Kept B w2 wx)) (fun s37 _ => N - (RowKit.intOf s37).toNat)
      case atStart => exact ⟨0, Nat.zero_le _, rfl, HN0, Lib.hid (Kept.refl _ _)⟩
      case round =>
        clear HN0
        obtain ⟨i, hi, rfl, HM, HK⟩ := hrel
        obtain ⟨y, hy, h3, h4, h5⟩ := HM.out
        have HMR := HM2.out.kept HK.out (fun e => HBB.out e.symm) hy.below
        by_cases hli : i < N
        · have hcr := HMR.cell hli
          have hcl := hy.cell hlt
          have hfr := hy.free k
          rw [h5] at hcl
          have HRL1 := HRL.out.below hy.below
          have HC := add1_any a0 a1 a2 lo ln lc a p.Q (MM.dotP p.Q d ln l r k i) i (r i) l HL.out (HRZ.out i) (by omega) (by omega) wr (HH.out.kept HK.out hn0 hn1 hn2) HRL1
          have HE : (if a + i < ln then MM.addU (MM.dotP p.Q d ln l r k i) (MM.mulU (l (a + i)) (r i) p.Q) p.Q else MM.dotP p.Q d ln l r k i) = MM.dotP p.Q d ln l r k (i + 1) := by
            rw [MM.dotP, hN, HA.out]
          rw [HE] at HC
          have HN : Hid (∀ nd, ∃ y', Mine W1 B kk y' ((wr.drewN nd).setCell ⟨B, k, none⟩ (.int .u64 ((MM.dotP p.Q d ln l r k (i + 1) : Nat) : Int))) ∧ (∀ j, j < k → y' j = z j) ∧ (∀ j, k + 1 ≤ j → y' j = 0) ∧ y' k = MM.dotP p.Q d ln l r k (i + 1)) := by
            have H3 := Lib.hid h3
            have H4 := Lib.hid h4
            exact Lib.hid fun nd => ⟨fun j => if j = k then MM.dotP p.Q d ln l r k (i + 1) else y j, (hy.drewN nd).set k _ (fun _ _ => rfl), fun j hj => (if_neg (show ¬ j = k by omega)).trans (H3.out j hj), fun j hj => (if_neg (show ¬ j = k by omega)).trans (H4.out j hj), if_pos rfl⟩
          have HKN : Hid (∀ nd, Kept B w2 ((wr.drewN nd).setCell ⟨B, k, none⟩ (.int .u64 ((MM.dotP p.Q d ln l r k (i + 1) : Nat) : Int)))) := Lib.hid fun nd => (HK.out.drewN nd).setCell k _
          have HCC := Lib.hid HC
          have hi0 : (0 : Int) ≤ (i : Int) := Int.natCast_nonneg _
          have hiI : (i : Int) < (N : Int) := by omega
          have hk0 : (0 : Int) ≤ (k : Int) := Int.natCast_nonneg _
          have hkI : (k : Int) < (kk : Int) := by omega
          clear hy h3 h4 h5 HMR HM HRL1 HC HE
          generalize hs1 : MM.dotP p.Q d ln l r k (i + 1) = s1 at *
          have HS1 := Lib.hid hs1
          clear hs1
          generalize MM.dotP p.Q d ln l r k i = s0 at *
          generalize r i = ri at *
          go_wp2_with (go_at_call 26; (with_reducible refine HCC.out.mono ?_); rintro e w' ⟨rfl, nd, rfl⟩)
          go_roundw
          case rel => exact ⟨i + 1, by omega, by go_num, Lib.hid (by rw [HS1.out]; exact HN.out nd), Lib.hid (HKN.out nd)⟩
          case measure => simp [RowKit.intOf]; omega
        · obtain rfl : i = N := by omega
          have HN : Hid (∃ y, Mine W1 B kk y wr ∧ (∀ j, j < k + 1 → y j = z j) ∧ ∀ j, k + 1 ≤ j → y j = 0) := Lib.hid ⟨y, hy, fun j hj => by
            by_cases e : j = k
            · subst e; rw [h5, HZ.out]
            · exact h3 j (by omega), h4⟩
          have HM3 := Lib.hid HMR
          clear hy h3 h4 h5 HMR HM HK
          go_wp2_with fail
          go_roundw
          case rel => exact ⟨k + 1, by omega, by go_num, HN, HM3⟩
          case measure => simp [RowKit.intOf]; omega
    · obtain rfl : k = kk := by omega
      go_wp2_with fail
      go_ret
      obtain ⟨y, hy, h3, _⟩ := HM.out
      exact ⟨B, rfl, (hy.congr h3).base HB1.out⟩
theorem dot_any (p : Pm) (lo : Option Addr) (ln lc : Nat) (l : Nat → Nat) (ao : Option Addr) (n c : Nat) (x : Nat → Int) (hl : ∀ j, l j < 18446744073709551616) (hx : ∀ j, -9223372036854775808 ≤ x j ∧ x j ≤ 9223372036854775807) (W : World) (hrl : Rd W lo ln l) (hr : IRow W ao n c x) :
    Calls Try.prog 13 #[.agg p.cells, .slice lo ln lc, .slice ao n c] W fun e w' => ∃ v, e = .returned v ∧ NewU W.heap.size w' v (MM.dotN p) (MM.dotZ p ln l n x) ∧ Below W.heap.size W w' := by
  by_cases hf : MM.Fit p
  · refine (dot_fit p lo ln lc l ao n c x hl hx hf W hrl hr).mono ?_
    rintro e w' ⟨B, rfl, hm⟩
    have e1 : MM.dotN p = p.K.toNat := if_pos hf
    rw [e1]
    exact ⟨_, rfl, hm.newU, hm.below⟩
  · have e1 : MM.dotN p = 0 := if_neg hf
    have HI : Hid (InP W W.heap.size p (W.alloc (.cells p.cells 31))) := Lib.hid (InP.new W p)
    have HU := usable_any p
    rw [decide_eq_false hf] at HU
    rw [e1]
    clear hr hf hx hl hrl
    go_enter Try.func13, Try.ntmps13
    go_wp2_with (first
      | (refine load_pm ?_ _ rfl W.heap.size rfl p HI.out.box ?_; first | rfl | (simp [Region.wanted, yielded]; done))
      | (go_at_call 20; (with_reducible refine (HU.at _).mono ?_); rintro e w1 ⟨rfl, hb⟩; replace HI := Lib.hid (HI.out.step hb); clear hb))
    go_ret
    exact ⟨_, rfl, .inl ⟨rfl, rfl⟩, HI.out.below⟩
end M
end Go.Proofs.Ytnlkikcnjlkkdaa
