/- The document's own: a model's secrets. -/
import Derived.Test.YtdblijpoelcghaaFixR5
import Derived.Test.YtdblijpoelcghaaFixW5
namespace Go.Proofs.Ytdblijpoelcghaa
open Go Go.RowKit Go.Lib
namespace M
attribute [local go_sem] Oper.semAt_some
set_option maxRecDepth 100000 in
set_option maxHeartbeats 8000000 in
theorem rsecrets_valid (p : Pm) (v : MoV) (o : MM.Mo) (ok : MoOk o) (hv : MM.Valid p o) (W : World) (hr : MoAt W v o) :
    Calls Try.prog 26 #[.agg p.cells, .agg (v.cells o)] W fun e w' => ∃ u B, e = .returned u ∧ Own W B u (p.K.toNat * (p.D.toNat + 1)) (MM.secZ p o) w' := by
  obtain ⟨wo, wc, bo, bc⟩ := v
  have hI0 := InM.new W p ⟨wo, wc, bo, bc⟩ o hr
  obtain ⟨W1, hW1⟩ : ∃ W1, (W.alloc (.cells p.cells 31)).alloc (.cells (MoV.cells ⟨wo, wc, bo, bc⟩ o) 36) = W1 := ⟨_, rfl⟩
  obtain ⟨g, hg⟩ : ∃ g, W.heap.size = g := ⟨_, rfl⟩
  obtain ⟨h, hh⟩ : ∃ h, g + 1 = h := ⟨_, rfl⟩
  rw [hW1, hg, hh] at hI0
  have HB1 : Hid (Below W.heap.size W W1) := Lib.hid hI0.below
  have HM1 : Hid (InM W1 g h p ⟨wo, wc, bo, bc⟩ o W1) := Lib.hid ⟨hI0.box, hI0.mod, hI0.mat, Below.refl _ _⟩
  have HI := HM1
  have HMY : Hid (∀ (u : World) (_ : MoAt u ⟨wo, wc, bo, bc⟩ o), Calls Try.prog 31 #[.agg p.cells, .agg (MoV.cells ⟨wo, wc, bo, bc⟩ o)] u fun e w' => e = .returned (.bool true) ∧ Below u.heap.size u w') := Lib.hid fun u hu => by
    have := rmay_any p _ o u hu
    rwa [decide_eq_true hv] at this
  obtain ⟨hf, hmK, hnK, hL, _, _⟩ := hv
  obtain ⟨d, hd⟩ : ∃ d : Nat, p.D = (d : Int) := ⟨p.D.toNat, by have := hf.2.2.1; omega⟩
  have hd4 : d ≤ 4 := by have := hf.2.2.2.1; omega
  have hdN : p.D.toNat = d := by omega
  have hm2 : o.m ≤ 2 := by have := hf.2.1; omega
  have hKN : p.K.toNat = o.m := by omega
  have hnm : o.n = o.m := by omega
  have HLD : Hid (∀ i, i < o.m → o.L i = d) := Lib.hid fun i hi => by have := hL i hi; omega
  obtain ⟨z, hz⟩ : ∃ z, MM.secZ p o = z := ⟨_, rfl⟩
  obtain ⟨N, hN⟩ : ∃ N, d + 1 = N := ⟨_, rfl⟩
  have HZ1 : Hid (∀ k j, j < d → Ret 23 #[.int .i64 (o.F k j), .int .u64 (p.Q : Int)] (.int .u64 ((z (k * N + j) : Nat) : Int))) := Lib.hid fun k j h1 => by
    rw [← hz, ← hN, MM.secZ_row hdN h1]; exact rnum_any _ _ (ok.F k j)
  have HZ2 : Hid (∀ k, Ret 23 #[.int .i64 (o.b k), .int .u64 (p.Q : Int)] (.int .u64 ((z (k * N + d) : Nat) : Int))) := Lib.hid fun k => by
    rw [← hz, ← hN, MM.secZ_end hdN]; exact rnum_any _ _ (ok.b k)
  obtain ⟨C, hC⟩ : ∃ C, o.m * N = C := ⟨_, rfl⟩
  have hC10 : C ≤ 10 := by rw [← hC]; exact Nat.le_trans (Nat.mul_le_mul hm2 (show N ≤ 5 by omega)) (by omega)
  rw [hKN, hdN, hz, hN, hC]
  have HKM := Lib.hid hmK.symm
  have HD := Lib.hid hd
  clear hr hf hz hL hI0 ok hmK hnK hKN hd
  go_enter Try.func26, Try.ntmps26
  go_upto_region 3 with (first
    | (refine load_pm ?_ _ rfl g rfl p HI.out.box ?_; first | rfl | (simp [Region.wanted, yielded]; done))
    | (refine load_mo ?_ _ rfl h rfl ⟨wo, wc, bo, bc⟩ o HI.out.mod ?_; first | rfl | (simp [Region.wanted, yielded]; done))
    | (go_at_call 31; (with_reducible refine (HMY.out _ HI.out.mat).mono ?_); rintro e w1 ⟨rfl, hb⟩; replace HI := Lib.hid (HI.out.step hb); clear hb))
  have HO0 : Hid (Own W1 w1.heap.size (.slice none 0 0) 0 z w1) := Lib.hid ((Own.start w1 z).base HI.out.below)
  generalize w1.heap.size = B at *
  clear HI
  go_wp2_with fail
  go_loopw [5, 6] (fun s5 s6 wx => ∃ k : Nat, k ≤ o.m ∧ s6 = .int .i64 (k : Int) ∧ Hid (Own W1 B s5 (k * N) z wx)) (fun _ s6 _ => o.m - (RowKit.intOf s6).toNat)
  case atStart => exact ⟨0, Nat.zero_le _, rfl, by rw [Nat.zero_mul]; exact HO0⟩
  case round =>
    clear HO0
    obtain ⟨k, hk, rfl, HO⟩ := hrel
    obtain ⟨a, ha⟩ : ∃ a, k * N = a := ⟨_, rfl⟩
    have ha1 : (k + 1) * N = a + N := by rw [Nat.succ_mul, ha]
    have haC : k < o.m → a + N ≤ C := fun h => by rw [← ha1, ← hC]; exact Nat.mul_le_mul_right N h
    have HA := Lib.hid ha
    have HA1 := Lib.hid ha1
    rw [ha] at HO
    clear ha ha1
    have k7 := (HM1.out.step HO.out.below).toP.cK HKM.out
    have hk0 : (0 : Int) ≤ (k : Int) := Int.natCast_nonneg _
    by_cases hlt : k < o.m
    · have haC' := haC hlt
      clear haC
      have hkI : (k : Int) < (o.m : Int) := by omega
      have hk1 : (k : Int) < (o.n : Int) := by omega
      obtain ⟨ad, ro, rc, hwo, hc, hs⟩ := HM1.out.mat.mat k hlt
      have hwo' : wo = some ad := hwo
      subst hwo'
      rw [HLD.out k hlt] at hc hs
      have HS := Lib.hid hs
      clear hs hwo
      go_wp2_with fail
      clear k7
      go_loopw [5, 7] (fun s5 s7 wx => ∃ j : Nat, j ≤ d ∧ s7 = .int .i64 (j : Int) ∧ Hid (Own W1 B s5 (a + j) z wx)) (fun _ s7 _ => d - (RowKit.intOf s7).toNat)
      case atStart => exact ⟨0, Nat.zero_le _, rfl, HO⟩
      case round =>
        obtain ⟨j, hj, rfl, HP⟩ := hrel
        have k8 := (HM1.out.step HP.out.below).toP.cD HD.out
        have hj0 : (0 : Int) ≤ (j : Int) := Int.natCast_nonneg _
        have hq := HM1.out.toP.cQ
        by_cases hlj : j < d
        · have hjI : (j : Int) < (d : Int) := by omega
          obtain ⟨bd, rfl, hcb⟩ := HS.out.at_ hlj
          have HN := HZ1.out k j hlj
          rw [HA.out] at HN
          have c0 : W1.cell? ⟨h, 0, none⟩ = some (.slice (some ad) o.m wc) := HM1.out.mod.cell 0
          generalize o.F k j = xj at *
          go_upto_region 10 with fail
          clear k8
          obtain ⟨uo, uc, rfl, _⟩ := HP.out.rd
          refine RK.region (Below W1.heap.size W1) 100 (by kernel_rfl) ?_
          have HP1 : Hid (Own W1 B (.slice uo (a + j) uc) (a + j) z wr.drew) := Lib.hid (HP.out.drewN 1)
          have HS0 : Below W1.heap.size W1 wr.drew := HP1.out.below
          have LC0 : (⟨h, 0, none⟩ : Addr).block < W1.heap.size := World.block_lt_of_cell? W1 _ c0
          have LCR : (ad.add k).block < W1.heap.size := World.block_lt_of_cell? W1 _ hc
          have LCB : (bd.add j).block < W1.heap.size := World.block_lt_of_cell? W1 _ hcb
          have LCQ : (⟨g, 1, none⟩ : Addr).block < W1.heap.size := World.block_lt_of_cell? W1 _ hq
          refine RK.Any.take 0 24 (.slice uo (a + j) uc) rfl rfl (by kernel_rfl) (by kernel_rfl) (by kernel_rfl) (by kernel_rfl) (fun _ _ _ h => h) (by rfl) (fun W' hb => ?_) HS0 ?_
          · go_simp
          simp only [List.setIfInBounds_toArray, List.set_cons_zero, List.set_cons_succ]
          refine RK.Any.take 1 25 (.pointer (some ⟨h, 0, none⟩)) rfl rfl (by kernel_rfl) (by kernel_rfl) (by kernel_rfl) (by kernel_rfl) (fun _ _ _ h => h) (by rfl) (fun W' hb => ?_) HS0 ?_
          · go_simp
          simp only [List.setIfInBounds_toArray, List.set_cons_zero, List.set_cons_succ]
          refine RK.Any.take 2 26 (.slice (some ad) o.m wc) rfl rfl (by kernel_rfl) (by kernel_rfl) (by kernel_rfl) (by kernel_rfl) (fun _ _ _ h => h) (by rfl) (fun W' hb => ?_) HS0 ?_
          · have cc := (hb.cell LC0).trans c0; go_simp
          simp only [List.setIfInBounds_toArray, List.set_cons_zero, List.set_cons_succ]
          refine RK.Any.take 3 27 (.int .i64 (k : Int)) rfl rfl (by kernel_rfl) (by kernel_rfl) (by kernel_rfl) (by kernel_rfl) (fun _ _ _ h => h) (by rfl) (fun W' hb => ?_) HS0 ?_
          · go_simp
          simp only [List.setIfInBounds_toArray, List.set_cons_zero, List.set_cons_succ]
          refine RK.Any.take 4 28 (.pointer (some (ad.add k))) rfl rfl (by kernel_rfl) (by kernel_rfl) (by kernel_rfl) (by kernel_rfl) (fun _ _ _ h => h) (by rfl) (fun W' hb => ?_) HS0 ?_
          · go_simp
          simp only [List.setIfInBounds_toArray, List.set_cons_zero, List.set_cons_succ]
          refine RK.Any.take 5 29 (.slice (some bd) d rc) rfl rfl (by kernel_rfl) (by kernel_rfl) (by kernel_rfl) (by kernel_rfl) (fun _ _ _ h => h) (by rfl) (fun W' hb => ?_) HS0 ?_
          · have cc := (hb.cell LCR).trans hc; go_simp
          simp only [List.setIfInBounds_toArray, List.set_cons_zero, List.set_cons_succ]
          refine RK.Any.take 6 30 (.int .i64 (j : Int)) rfl rfl (by kernel_rfl) (by kernel_rfl) (by kernel_rfl) (by kernel_rfl) (fun _ _ _ h => h) (by rfl) (fun W' hb => ?_) HS0 ?_
          · go_simp
          simp only [List.setIfInBounds_toArray, List.set_cons_zero, List.set_cons_succ]
          refine RK.Any.take 7 31 (.pointer (some (bd.add j))) rfl rfl (by kernel_rfl) (by kernel_rfl) (by kernel_rfl) (by kernel_rfl) (fun _ _ _ h => h) (by rfl) (fun W' hb => ?_) HS0 ?_
          · go_simp
          simp only [List.setIfInBounds_toArray, List.set_cons_zero, List.set_cons_succ]
          refine RK.Any.take 8 32 (.int .i64 xj) rfl rfl (by kernel_rfl) (by kernel_rfl) (by kernel_rfl) (by kernel_rfl) (fun _ _ _ h => h) (by rfl) (fun W' hb => ?_) HS0 ?_
          · have cc := (hb.cell LCB).trans hcb; go_simp
          simp only [List.setIfInBounds_toArray, List.set_cons_zero, List.set_cons_succ]
          refine RK.Any.take 9 33 (.pointer (some ⟨g, 1, none⟩)) rfl rfl (by kernel_rfl) (by kernel_rfl) (by kernel_rfl) (by kernel_rfl) (fun _ _ _ h => h) (by rfl) (fun W' hb => ?_) HS0 ?_
          · go_simp
          simp only [List.setIfInBounds_toArray, List.set_cons_zero, List.set_cons_succ]
          refine RK.Any.take 10 34 (.int .u64 (p.Q : Int)) rfl rfl (by kernel_rfl) (by kernel_rfl) (by kernel_rfl) (by kernel_rfl) (fun _ _ _ h => h) (by rfl) (fun W' hb => ?_) HS0 ?_
          · have cc := (hb.cell LCQ).trans hq; go_simp
          simp only [List.setIfInBounds_toArray, List.set_cons_zero, List.set_cons_succ]
          clear c0 hc hcb hq LC0 LCR LCB LCQ
          refine RK.Any.call 11 35 23 #[.int .i64 xj, .int .u64 (p.Q : Int)] (by kernel_rfl) rfl rfl (by rfl) (by go_simp) (Calls.mono (HN.at wr.drew) ?_)
          rintro e w1 ⟨rfl, nd, rfl⟩
          refine ⟨_, rfl, fun _ => (HP1.out.drewN nd).below, ?_⟩
          simp only [List.setIfInBounds_toArray, List.set_cons_zero, List.set_cons_succ]
          obtain ⟨v2, w2, hr2, ho2⟩ := (HP1.out.drewN nd).push1 1 (by omega)
          have HO2 : Hid (Own W1 B v2 (a + (j + 1)) z w2) := Lib.hid (ho2)
          have hb1 := (HP1.out.drewN nd).below
          clear ho2 HP1 HS0
          generalize wr.drew.drewN nd = w3 at *
          have hb4 := hb1.trans ((below_box w3 (.cells #[.int .u64 ((z (a + j) : Nat) : Int)] 23)).mono hb1.size)
          obtain ⟨w4, hw4⟩ : ∃ w4, w3.alloc (.cells #[.int .u64 ((z (a + j) : Nat) : Int)] 23) = w4 := ⟨_, rfl⟩
          rw [hw4] at hr2 hb4
          refine RK.Any.exec 12 36 (.slice (some ⟨w3.heap.size, 0, none⟩) 1 1) (w1 := w4) (by kernel_rfl) rfl rfl (by rfl) (by go_simp) hb4 ?_
          simp only [List.setIfInBounds_toArray, List.set_cons_zero, List.set_cons_succ]
          refine RK.Any.exec 13 37 (v2) (w1 := w2) (by kernel_rfl) rfl rfl (by rfl) (RK.exec_append _ _ _ _ rfl _ _ rfl rfl hr2) HO2.out.below ?_
          simp only [List.setIfInBounds_toArray, List.set_cons_zero, List.set_cons_succ]
          refine RK.Any.take 14 5 (v2) rfl rfl (by kernel_rfl) (by kernel_rfl) (by kernel_rfl) (by kernel_rfl) (fun _ _ _ h => h) (by rfl) (fun W' hb => ?_) HO2.out.below ?_
          · go_simp
          simp only [List.setIfInBounds_toArray, List.set_cons_zero, List.set_cons_succ]
          refine RK.Any.done (by kernel_rfl) ?_
          clear hr2 hb4 hw4 HP hb1
          go_wp2_with fail
          go_roundw
          case rel => exact ⟨j + 1, by omega, by go_num, HO2⟩
          case measure => simp [RowKit.intOf]; omega
        · have hjI : ¬ (j : Int) < (d : Int) := by omega
          obtain rfl : j = d := by omega
          have c1 : W1.cell? ⟨h, 1, none⟩ = some (.slice bo o.n bc) := HM1.out.mod.cell 1
          obtain ⟨bd, hbo, hcb⟩ := HM1.out.mat.bias.at_ (k := k) (by omega)
          have hbo' : bo = some bd := hbo
          subst hbo'
          have HN := HZ2.out k
          rw [HA.out] at HN
          clear hbo
          generalize o.b k = xb at *
          go_upto_region 11 with fail
          clear k8 hc
          obtain ⟨uo, uc, rfl, _⟩ := HP.out.rd
          refine RK.region (Below W1.heap.size W1) 100 (by kernel_rfl) ?_
          have HP1 : Hid (Own W1 B (.slice uo (a + j) uc) (a + j) z wr.drew) := Lib.hid (HP.out.drewN 1)
          have HS0 : Below W1.heap.size W1 wr.drew := HP1.out.below
          have LC1 : (⟨h, 1, none⟩ : Addr).block < W1.heap.size := World.block_lt_of_cell? W1 _ c1
          have LCB : (bd.add k).block < W1.heap.size := World.block_lt_of_cell? W1 _ hcb
          have LCQ : (⟨g, 1, none⟩ : Addr).block < W1.heap.size := World.block_lt_of_cell? W1 _ hq
          refine RK.Any.take 0 38 (.slice uo (a + j) uc) rfl rfl (by kernel_rfl) (by kernel_rfl) (by kernel_rfl) (by kernel_rfl) (fun _ _ _ h => h) (by rfl) (fun W' hb => ?_) HS0 ?_
          · go_simp
          simp only [List.setIfInBounds_toArray, List.set_cons_zero, List.set_cons_succ]
          refine RK.Any.take 1 39 (.pointer (some ⟨h, 1, none⟩)) rfl rfl (by kernel_rfl) (by kernel_rfl) (by kernel_rfl) (by kernel_rfl) (fun _ _ _ h => h) (by rfl) (fun W' hb => ?_) HS0 ?_
          · go_simp
          simp only [List.setIfInBounds_toArray, List.set_cons_zero, List.set_cons_succ]
          refine RK.Any.take 2 40 (.slice (some bd) o.n bc) rfl rfl (by kernel_rfl) (by kernel_rfl) (by kernel_rfl) (by kernel_rfl) (fun _ _ _ h => h) (by rfl) (fun W' hb => ?_) HS0 ?_
          · have cc := (hb.cell LC1).trans c1; go_simp
          simp only [List.setIfInBounds_toArray, List.set_cons_zero, List.set_cons_succ]
          refine RK.Any.take 3 41 (.int .i64 (k : Int)) rfl rfl (by kernel_rfl) (by kernel_rfl) (by kernel_rfl) (by kernel_rfl) (fun _ _ _ h => h) (by rfl) (fun W' hb => ?_) HS0 ?_
          · go_simp
          simp only [List.setIfInBounds_toArray, List.set_cons_zero, List.set_cons_succ]
          refine RK.Any.take 4 42 (.pointer (some (bd.add k))) rfl rfl (by kernel_rfl) (by kernel_rfl) (by kernel_rfl) (by kernel_rfl) (fun _ _ _ h => h) (by rfl) (fun W' hb => ?_) HS0 ?_
          · go_simp
          simp only [List.setIfInBounds_toArray, List.set_cons_zero, List.set_cons_succ]
          refine RK.Any.take 5 43 (.int .i64 xb) rfl rfl (by kernel_rfl) (by kernel_rfl) (by kernel_rfl) (by kernel_rfl) (fun _ _ _ h => h) (by rfl) (fun W' hb => ?_) HS0 ?_
          · have cc := (hb.cell LCB).trans hcb; go_simp
          simp only [List.setIfInBounds_toArray, List.set_cons_zero, List.set_cons_succ]
          refine RK.Any.take 6 44 (.pointer (some ⟨g, 1, none⟩)) rfl rfl (by kernel_rfl) (by kernel_rfl) (by kernel_rfl) (by kernel_rfl) (fun _ _ _ h => h) (by rfl) (fun W' hb => ?_) HS0 ?_
          · go_simp
          simp only [List.setIfInBounds_toArray, List.set_cons_zero, List.set_cons_succ]
          refine RK.Any.take 7 45 (.int .u64 (p.Q : Int)) rfl rfl (by kernel_rfl) (by kernel_rfl) (by kernel_rfl) (by kernel_rfl) (fun _ _ _ h => h) (by rfl) (fun W' hb => ?_) HS0 ?_
          · have cc := (hb.cell LCQ).trans hq; go_simp
          simp only [List.setIfInBounds_toArray, List.set_cons_zero, List.set_cons_succ]
          clear c1 hcb hq LC1 LCB LCQ
          refine RK.Any.call 8 46 23 #[.int .i64 xb, .int .u64 (p.Q : Int)] (by kernel_rfl) rfl rfl (by rfl) (by go_simp) (Calls.mono (HN.at wr.drew) ?_)
          rintro e w1 ⟨rfl, nd, rfl⟩
          refine ⟨_, rfl, fun _ => (HP1.out.drewN nd).below, ?_⟩
          simp only [List.setIfInBounds_toArray, List.set_cons_zero, List.set_cons_succ]
          obtain ⟨v2, w2, hr2, ho2⟩ := (HP1.out.drewN nd).push1 1 (by omega)
          have HO2 : Hid (Own W1 B v2 ((k + 1) * N) z w2) := Lib.hid (by rw [HA1.out, ← hN]; exact ho2)
          have hb1 := (HP1.out.drewN nd).below
          clear ho2 HP1 HS0
          generalize wr.drew.drewN nd = w3 at *
          have hb4 := hb1.trans ((below_box w3 (.cells #[.int .u64 ((z (a + j) : Nat) : Int)] 23)).mono hb1.size)
          obtain ⟨w4, hw4⟩ : ∃ w4, w3.alloc (.cells #[.int .u64 ((z (a + j) : Nat) : Int)] 23) = w4 := ⟨_, rfl⟩
          rw [hw4] at hr2 hb4
          refine RK.Any.exec 9 47 (.slice (some ⟨w3.heap.size, 0, none⟩) 1 1) (w1 := w4) (by kernel_rfl) rfl rfl (by rfl) (by go_simp) hb4 ?_
          simp only [List.setIfInBounds_toArray, List.set_cons_zero, List.set_cons_succ]
          refine RK.Any.exec 10 48 (v2) (w1 := w2) (by kernel_rfl) rfl rfl (by rfl) (RK.exec_append _ _ _ _ rfl _ _ rfl rfl hr2) HO2.out.below ?_
          simp only [List.setIfInBounds_toArray, List.set_cons_zero, List.set_cons_succ]
          refine RK.Any.take 11 5 (v2) rfl rfl (by kernel_rfl) (by kernel_rfl) (by kernel_rfl) (by kernel_rfl) (fun _ _ _ h => h) (by rfl) (fun W' hb => ?_) HO2.out.below ?_
          · go_simp
          simp only [List.setIfInBounds_toArray, List.set_cons_zero, List.set_cons_succ]
          refine RK.Any.done (by kernel_rfl) ?_
          clear hr2 hb4 hw4 HP hb1
          go_wp2_with fail
          go_roundw
          case rel => exact ⟨k + 1, by omega, by go_num, HO2⟩
          case measure => simp [RowKit.intOf]; omega
    · have hkI : ¬ (k : Int) < (o.m : Int) := by omega
      obtain rfl : k = o.m := by omega
      go_wp2_with fail
      go_ret
      have h := HO.out
      rw [← HA.out, hC] at h
      first | exact ⟨_, B, rfl, h.base HB1.out⟩ | exact ⟨_, rfl, B, h.base HB1.out⟩
set_option maxRecDepth 100000 in
set_option maxHeartbeats 4000000 in
theorem rsecrets_any (p : Pm) (v : MoV) (o : MM.Mo) (ok : MoOk o) (W : World) (hr : MoAt W v o) :
    Calls Try.prog 26 #[.agg p.cells, .agg (v.cells o)] W fun e w' => ∃ u, e = .returned u ∧ NewU W.heap.size w' u (MM.secN p o) (MM.secZ p o) ∧ Below W.heap.size W w' := by
  by_cases hv : MM.Valid p o
  · refine (rsecrets_valid p v o ok hv W hr).mono ?_
    rintro e w' ⟨u, B, rfl, hm⟩
    have e1 : MM.secN p o = p.K.toNat * (p.D.toNat + 1) := if_pos hv
    rw [e1]
    exact ⟨_, rfl, hm.newU, hm.below⟩
  · have e1 : MM.secN p o = 0 := if_neg hv
    rw [e1]
    obtain ⟨wo, wc, bo, bc⟩ := v
    have hI0 := InM.new W p ⟨wo, wc, bo, bc⟩ o hr
    obtain ⟨g, hg⟩ : ∃ g, W.heap.size = g := ⟨_, rfl⟩
    obtain ⟨h, hh⟩ : ∃ h, g + 1 = h := ⟨_, rfl⟩
    rw [hg, hh] at hI0
    have HI := Lib.hid hI0
    have HMY : Hid (∀ (u : World) (_ : MoAt u ⟨wo, wc, bo, bc⟩ o), Calls Try.prog 31 #[.agg p.cells, .agg (MoV.cells ⟨wo, wc, bo, bc⟩ o)] u fun e w' => e = .returned (.bool false) ∧ Below u.heap.size u w') := Lib.hid fun u hu => by
      have := rmay_any p _ o u hu
      rwa [decide_eq_false hv] at this
    have HG := Lib.hid hg
    clear hr hv ok hI0
    go_enter Try.func26, Try.ntmps26
    go_wp2_with (first
      | (refine load_pm ?_ _ rfl g rfl p HI.out.box ?_; first | rfl | (simp [Region.wanted, yielded]; done))
      | (refine load_mo ?_ _ rfl h rfl ⟨wo, wc, bo, bc⟩ o HI.out.mod ?_; first | rfl | (simp [Region.wanted, yielded]; done))
      | (go_at_call 31; (with_reducible refine (HMY.out _ HI.out.mat).mono ?_); rintro e w1 ⟨rfl, hb⟩; replace HI := Lib.hid (HI.out.step hb); clear hb))
    go_ret
    exact ⟨_, rfl, .inl ⟨rfl, rfl⟩, HI.out.below⟩
end M
end Go.Proofs.Ytdblijpoelcghaa
