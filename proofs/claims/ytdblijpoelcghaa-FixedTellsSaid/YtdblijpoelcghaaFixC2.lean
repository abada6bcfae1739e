/- The walk of the copy. -/
import Derived.Test.YtdblijpoelcghaaFixCopy
import Derived.Test.YtdblijpoelcghaaFixR9
namespace Go.Proofs.Ytdblijpoelcghaa
open Go Go.RowKit Go.Lib
namespace M
attribute [local go_sem] Oper.semAt_some
theorem Cop.val {W w : World} {B k : Nat} {v bv : Value} {o : MM.Mo} (h : Cop W B v bv k o w) : ∃ ao c, v = .slice ao k c := by
  obtain ⟨xs, hx, ho, _⟩ := h.rows
  rcases ho.val with ⟨rfl, rfl⟩ | ⟨g, c, rfl, _⟩
  · exact ⟨none, 0, by rw [← hx]; rfl⟩
  · exact ⟨_, c, by rw [hx]⟩
theorem Cop.base {W W1 w : World} {B k : Nat} {v bv : Value} {o : MM.Mo} (h : Cop W1 B v bv k o w) (hb : Below W.heap.size W W1) : Cop W B v bv k o w := by
  obtain ⟨xs, hx, ho, hr⟩ := h.rows
  exact ⟨⟨xs, hx, ⟨ho.own, ho.size, Nat.le_trans hb.size ho.low, hb.trans (ho.below.mono hb.size)⟩, fun j hj => let ⟨u, h1, h2⟩ := hr j hj; ⟨u, h1, h2.mono hb.size⟩⟩, h.bias.mono hb.size⟩
theorem frozen_of_row (W : World) (B k : Nat) (cs : Array Value) (t : TypeId) (h : W.heap[B]? = some (.cells cs t (0, 0))) : W.frozen? ⟨B, k, none⟩ = false := by
  simp [World.frozen?, h]
set_option maxRecDepth 100000 in
set_option maxHeartbeats 8000000 in
theorem copied_any (v : MoV) (o : MM.Mo) (hm : o.m ≤ 1000) (hn : o.n ≤ 1000) (hL : ∀ i, i < o.m → o.L i ≤ 1000) (W : World) (hr : MoAt W v o) :
    Calls Try.prog 22 #[.agg (v.cells o)] W fun e w' => ∃ u : MoV, e = .returned (.agg (u.cells o)) ∧ MoAt w' u o ∧ Below W.heap.size W w' := by
  obtain ⟨wo, wc, bo, bc⟩ := v
  have hb1 := below_box W (.cells (MoV.cells ⟨wo, wc, bo, bc⟩ o) 36)
  have hx1 := BoxM.new W ⟨wo, wc, bo, bc⟩ o
  obtain ⟨g, hg⟩ : ∃ g, W.heap.size = g := ⟨_, rfl⟩
  have HL := Lib.hid hL
  have HR := Lib.hid hr
  clear hL hr
  go_enter Try.func22, Try.ntmps22
  go_upto_region 1 with fail
  have hb2 := below_box (W.alloc (.cells (MoV.cells ⟨wo, wc, bo, bc⟩ o) 36)) (.cells #[.slice none 0 0, .slice none 0 0] 36)
  have hn2 := heap_alloc_new (W.alloc (.cells (MoV.cells ⟨wo, wc, bo, bc⟩ o) 36)) (.cells #[.slice none 0 0, .slice none 0 0] 36)
  have hs1 := World.size_alloc W (.cells (MoV.cells ⟨wo, wc, bo, bc⟩ o) 36)
  generalize W.alloc (.cells (MoV.cells ⟨wo, wc, bo, bc⟩ o) 36) = Wa at *
  have hs2 := World.size_alloc Wa (.cells #[.slice none 0 0, .slice none 0 0] 36)
  generalize Wa.alloc (.cells #[.slice none 0 0, .slice none 0 0] 36) = W2 at *
  rw [hg] at hx1 hs1
  rw [hs1] at hn2 hs2
  have HB2 : Hid (Below W.heap.size W W2) := Lib.hid (hb1.trans (hb2.mono hb1.size))
  have HX2 : Hid (BoxM W2 g ⟨wo, wc, bo, bc⟩ o) := Lib.hid (hx1.below hb2)
  have HN2 := Lib.hid hn2
  have HR2 : Hid (MoAt W2 ⟨wo, wc, bo, bc⟩ o) := Lib.hid (HR.out.below HB2.out)
  clear hb1 hb2 hx1 hn2 hs1 HR
  have hm0 := OwnW.made0 W2 o.b
  rw [hs2] at hm0
  have hb3 := below_box W2 (.cells #[] 2)
  have ha3 : ∀ x, W2.alloc (.cells #[] 2) = x → x = W2.alloc (.cells #[] 2) := fun _ h => h.symm
  obtain ⟨W3, hW3⟩ : ∃ W3, W2.alloc (.cells #[] 2) = W3 := ⟨_, rfl⟩
  rw [hW3] at hm0 hb3
  obtain ⟨v4, w4, hr2, ho4⟩ := hm0.copy hn (HR2.out.bias.below hb3)
  have hc1 : W2.cell? ⟨g, 1, none⟩ = some (.slice bo o.n bc) := HX2.out.cell 1
  have hc13 : W3.cell? ⟨g, 1, none⟩ = some (.slice bo o.n bc) := (HX2.out.below hb3).cell 1
  clear ha3
  obtain ⟨bo4, bc4, rfl, _⟩ := ho4.irow
  go_upto_region 2 with (at_builtin; refine Lib.wpList_append_run _ rfl _ _ _ _ rfl _ _ rfl rfl _ _ hr2 ?_)
  have hn5 := heap_alloc_new w4 (.cells #[.slice none 0 0, .slice bo4 o.n bc4] 36)
  have hb5 := below_box w4 (.cells #[.slice none 0 0, .slice bo4 o.n bc4] 36)
  have hb45 : Below W2.heap.size W2 w4 := ho4.below
  have hni : NewI W2.heap.size w4 (.slice bo4 o.n bc4) o.n o.b := ho4.newI
  have hHl : W2.heap.size ≤ w4.heap.size := hb45.size
  generalize w4.alloc (.cells #[.slice none 0 0, .slice bo4 o.n bc4] 36) = w5 at *
  have HB5 : Hid (Below W2.heap.size W2 w5) := Lib.hid (hb45.trans (hb5.mono hHl))
  have HC5 : Hid (Cop W2 w5.heap.size (.slice none 0 0) (.slice bo4 o.n bc4) 0 o w5) := Lib.hid ⟨⟨[], rfl, ⟨⟨rfl, .inl ⟨rfl, rfl⟩⟩, Nat.le_refl _, HB5.out.size, HB5.out⟩, fun _ h => absurd h (by omega)⟩, hni.below hb5⟩
  generalize w4.heap.size = H at *
  have HN5 := Lib.hid hn5
  generalize w5.heap.size = B at HC5
  have hgH : g + 1 < H := by omega
  clear hr2 ho4 hm0 hb3 hb5 hb45 hni hn5 hW3 hc1 hc13
  go_wp2_with fail
  go_loopw [4] (fun s4 wx => ∃ k : Nat, k ≤ o.m ∧ s4 = .int .i64 (k : Int) ∧ Hid (∃ v, Cop W2 B v (.slice bo4 o.n bc4) k o wx ∧ wx.heap[H]? = some (.cells #[v, .slice bo4 o.n bc4] 36 (0, 0)))) (fun s4 _ => o.m - (RowKit.intOf s4).toNat)
  case atStart => exact ⟨0, Nat.zero_le _, rfl, Lib.hid ⟨_, HC5.out, HN5.out⟩⟩
  case round =>
    clear HC5 HN5 HB5
    obtain ⟨k, hk, rfl, HJ⟩ := hrel
    obtain ⟨v, hcop, hbox⟩ := HJ.out
    have k0 : wr.cell? ⟨g, 0, none⟩ = some (.slice wo o.m wc) := (HX2.out.below hcop.below).cell 0
    have hk0 : (0 : Int) ≤ (k : Int) := Int.natCast_nonneg _
    by_cases hlt : k < o.m
    · have hkI : (k : Int) < (o.m : Int) := by omega
      obtain ⟨ad, ro, rc, hwo, hc, hs⟩ := HR2.out.mat k hlt
      have hwo' : wo = some ad := hwo
      subst hwo'
      obtain ⟨ao3, c3, rfl⟩ := hcop.val
      have hlk := HL.out k hlt
      have HCOP := Lib.hid hcop
      have HBOX := Lib.hid hbox
      clear HJ hwo hcop hbox
      obtain ⟨lk, hlkE⟩ : ∃ lk, o.L k = lk := ⟨_, rfl⟩
      rw [hlkE] at hc hs hlk
      have HLK := Lib.hid hlkE
      have HS := Lib.hid hs
      clear hs hlkE
      have LCR : (ad.add k).block < W2.heap.size := World.block_lt_of_cell? W2 _ hc
      go_upto_region 5 with fail
      clear k0
      refine RK.region (fun u : World => Below W2.heap.size W2 u ∧ u.heap[H]? = some (.cells #[.slice ao3 k c3, .slice bo4 o.n bc4] 36 (0, 0))) 12 (by kernel_rfl) ?_
      have HS0 : (fun u : World => Below W2.heap.size W2 u ∧ u.heap[H]? = some (.cells #[.slice ao3 k c3, .slice bo4 o.n bc4] 36 (0, 0))) wr.drew := ⟨HCOP.out.below.trans (below_drewN' wr 1 _), ((below_drewN' wr 1 _).block H (row_lt HBOX.out)).trans HBOX.out⟩
      refine RK.Any.take 0 17 (.pointer (some ⟨H, 0, none⟩)) rfl rfl (by kernel_rfl) (by kernel_rfl) (by kernel_rfl) (by kernel_rfl) (fun _ _ _ h => h) (by rfl) (fun W' hb => ?_) HS0 ?_
      · go_simp
      simp only [List.setIfInBounds_toArray, List.set_cons_zero, List.set_cons_succ]
      refine RK.Any.take 1 18 (.slice ao3 k c3) rfl rfl (by kernel_rfl) (by kernel_rfl) (by kernel_rfl) (by kernel_rfl) (fun _ _ _ h => h) (by rfl) (fun W' hb => ?_) HS0 ?_
      · have cc : W'.cell? ⟨H, 0, none⟩ = some (.slice ao3 k c3) := cell_of_row W' H 0 _ _ _ hb.2; go_simp
      simp only [List.setIfInBounds_toArray, List.set_cons_zero, List.set_cons_succ]
      refine RK.Any.take 3 20 (.pointer (some ⟨g, 0, none⟩)) rfl rfl (by kernel_rfl) (by kernel_rfl) (by kernel_rfl) (by kernel_rfl) (fun _ _ _ h => h) (by rfl) (fun W' hb => ?_) HS0 ?_
      · go_simp
      simp only [List.setIfInBounds_toArray, List.set_cons_zero, List.set_cons_succ]
      refine RK.Any.take 4 21 (.slice (some ad) o.m wc) rfl rfl (by kernel_rfl) (by kernel_rfl) (by kernel_rfl) (by kernel_rfl) (fun _ _ _ h => h) (by rfl) (fun W' hb => ?_) HS0 ?_
      · have cc : W'.cell? ⟨g, 0, none⟩ = some (.slice (some ad) o.m wc) := (HX2.out.below hb.1).cell 0; go_simp
      simp only [List.setIfInBounds_toArray, List.set_cons_zero, List.set_cons_succ]
      refine RK.Any.take 5 22 (.int .i64 (k : Int)) rfl rfl (by kernel_rfl) (by kernel_rfl) (by kernel_rfl) (by kernel_rfl) (fun _ _ _ h => h) (by rfl) (fun W' hb => ?_) HS0 ?_
      · go_simp
      simp only [List.setIfInBounds_toArray, List.set_cons_zero, List.set_cons_succ]
      refine RK.Any.take 6 23 (.pointer (some (ad.add k))) rfl rfl (by kernel_rfl) (by kernel_rfl) (by kernel_rfl) (by kernel_rfl) (fun _ _ _ h => h) (by rfl) (fun W' hb => ?_) HS0 ?_
      · go_simp
      simp only [List.setIfInBounds_toArray, List.set_cons_zero, List.set_cons_succ]
      refine RK.Any.take 7 24 (.slice ro lk rc) rfl rfl (by kernel_rfl) (by kernel_rfl) (by kernel_rfl) (by kernel_rfl) (fun _ _ _ h => h) (by rfl) (fun W' hb => ?_) HS0 ?_
      · have cc : W'.cell? (ad.add k) = some (.slice ro lk rc) := (hb.1.cell LCR).trans hc; go_simp
      simp only [List.setIfInBounds_toArray, List.set_cons_zero, List.set_cons_succ]
      have hcop0 := HCOP.out.step (below_drewN' wr 1 _)
      change Cop W2 B (.slice ao3 k c3) (.slice bo4 o.n bc4) k o wr.drew at hcop0
      generalize wr.drew = w0 at *
      have ho1 := OwnW.made0 w0 (o.F k)
      have hbA := below_box w0 (.cells #[] 2)
      obtain ⟨w1, hw1'⟩ : ∃ w1, w0.alloc (.cells #[] 2) = w1 := ⟨_, rfl⟩
      rw [hw1'] at ho1 hbA
      have HS1 : (fun u : World => Below W2.heap.size W2 u ∧ u.heap[H]? = some (.cells #[.slice ao3 k c3, .slice bo4 o.n bc4] 36 (0, 0))) w1 := ⟨HS0.1.trans (hbA.mono HS0.1.size), (hbA.block H (row_lt HS0.2)).trans HS0.2⟩
      refine RK.Any.exec 2 19 (.slice (some ⟨w0.heap.size, 0, none⟩) 0 0) (w1 := w1) (by kernel_rfl) rfl rfl (by rfl) (by go_simp) HS1 ?_
      simp only [List.setIfInBounds_toArray, List.set_cons_zero, List.set_cons_succ]
      obtain ⟨v2, w2, hr2, ho2⟩ := ho1.copy hlk (HS.out.below HS1.1)
      have HS2 : (fun u : World => Below W2.heap.size W2 u ∧ u.heap[H]? = some (.cells #[.slice ao3 k c3, .slice bo4 o.n bc4] 36 (0, 0))) w2 := ⟨HS0.1.trans (ho2.below.mono HS0.1.size), (ho2.below.block H (row_lt HS0.2)).trans HS0.2⟩
      have hni2 : NewI W2.heap.size w2 v2 lk (o.F k) := ho2.newI.mono HS0.1.size
      obtain ⟨bo2, c2, rfl, _⟩ := ho2.irow
      have hni3 : NewI W2.heap.size w2 (.slice bo2 lk c2) (o.L k) (o.F k) := by rw [HLK.out]; exact hni2
      refine RK.Any.exec 8 25 (.slice bo2 lk c2) (w1 := w2) (by kernel_rfl) rfl rfl (by rfl) (RK.exec_append _ _ _ _ rfl _ _ rfl rfl hr2) HS2 ?_
      simp only [List.setIfInBounds_toArray, List.set_cons_zero, List.set_cons_succ]
      obtain ⟨v4, w4, hr4, ho4, hsame⟩ := (hcop0.step ho2.below).more 1 hni3 (by omega)
      have hb3 := below_box w2 (.cells #[.slice bo2 lk c2] 34)
      obtain ⟨w3, hw3⟩ : ∃ w3, w2.alloc (.cells #[.slice bo2 lk c2] 34) = w3 := ⟨_, rfl⟩
      rw [hw3] at hr4 hb3
      have HS3 : (fun u : World => Below W2.heap.size W2 u ∧ u.heap[H]? = some (.cells #[.slice ao3 k c3, .slice bo4 o.n bc4] 36 (0, 0))) w3 := ⟨HS2.1.trans (hb3.mono HS2.1.size), (hb3.block H (row_lt HS2.2)).trans HS2.2⟩
      refine RK.Any.exec 9 26 (.slice (some ⟨w2.heap.size, 0, none⟩) 1 1) (w1 := w3) (by kernel_rfl) rfl rfl (by rfl) (by go_simp) HS3 ?_
      simp only [List.setIfInBounds_toArray, List.set_cons_zero, List.set_cons_succ]
      have HS4 : (fun u : World => Below W2.heap.size W2 u ∧ u.heap[H]? = some (.cells #[.slice ao3 k c3, .slice bo4 o.n bc4] 36 (0, 0))) w4 := ⟨ho4.below, hsame H _ HS2.2⟩
      obtain ⟨ao4, c4, rfl⟩ := ho4.val
      refine RK.Any.exec 10 27 (.slice ao4 (k + 1) c4) (w1 := w4) (by kernel_rfl) rfl rfl (by rfl) (RK.exec_append _ _ _ _ rfl _ _ rfl rfl hr4) HS4 ?_
      simp only [List.setIfInBounds_toArray, List.set_cons_zero, List.set_cons_succ]
      refine RK.Any.take 11 28 (.pointer (some ⟨H, 0, none⟩)) rfl rfl (by kernel_rfl) (by kernel_rfl) (by kernel_rfl) (by kernel_rfl) (fun _ _ _ h => h) (by rfl) (fun W' hb => ?_) HS4 ?_
      · go_simp
      simp only [List.setIfInBounds_toArray, List.set_cons_zero, List.set_cons_succ]
      have hbx : w4.cell? ⟨H, 0, none⟩ = some (.slice ao3 k c3) := cell_of_row w4 H 0 _ _ _ HS4.2
      have hfr : w4.frozen? ⟨H, 0, none⟩ = false := frozen_of_row w4 H 0 _ _ HS4.2
      have hst := heap_setCell_same w4 H 0 _ _ (.slice ao4 (k + 1) c4) HS4.2
      have HO : Hid (Cop W2 B (.slice ao4 (k + 1) c4) (.slice bo4 o.n bc4) (k + 1) o (w4.setCell ⟨H, 0, none⟩ (.slice ao4 (k + 1) c4))) := Lib.hid (ho4.set HS4.2 hHl 0 _)
      have HT : Hid ((w4.setCell ⟨H, 0, none⟩ (.slice ao4 (k + 1) c4)).heap[H]? = some (.cells #[.slice ao4 (k + 1) c4, .slice bo4 o.n bc4] 36 (0, 0))) := Lib.hid hst
      refine RK.Any.store 12 (w1 := w4.setCell ⟨H, 0, none⟩ (.slice ao4 (k + 1) c4)) (by kernel_rfl) rfl rfl (by rfl) (by go_simp) (fun h => absurd rfl h) ?_
      refine RK.Any.done (by kernel_rfl) ?_
      clear ho1 hr2 ho2 hni2 hni3 hr4 ho4 hb3 hbA hcop0 HS0 HS1 HS2 HS3 HS4 hw3 hw1' hbx hfr hst hsame
      go_wp2_with fail
      go_roundw
      case rel => exact ⟨k + 1, by omega, by go_num, Lib.hid ⟨_, HO.out, HT.out⟩⟩
      case measure => simp [RowKit.intOf]; omega
    · have hkI : ¬ (k : Int) < (o.m : Int) := by omega
      obtain rfl : k = o.m := by omega
      obtain ⟨u, rfl, hbv, hat⟩ := hcop.at_
      simp only [Value.slice.injEq] at hbv
      obtain ⟨rfl, _, rfl⟩ := hbv
      have hxH : BoxM wr H u o := hbox
      have hres := (hcop.below.block (g + 1) (row_lt HN2.out)).trans HN2.out
      have hbw := HB2.out.trans (hcop.below.mono HB2.out.size)
      have HAT := Lib.hid hat
      have HBW := Lib.hid hbw
      have HRES := Lib.hid hres
      have e0 : wr.cell? ⟨g + 1, 0, none⟩ = some (.slice none 0 0) := cell_of_row wr (g + 1) 0 _ _ _ hres
      have f0 : wr.frozen? ⟨g + 1, 0, none⟩ = false := frozen_of_row wr (g + 1) 0 _ _ hres
      have hA : (wr.setCell ⟨g + 1, 0, none⟩ (.slice u.wo o.m u.wc)).heap[g + 1]? = some (.cells #[.slice u.wo o.m u.wc, .slice none 0 0] 36 (0, 0)) := heap_setCell_same wr (g + 1) 0 _ _ _ hres
      have e1 : (wr.setCell ⟨g + 1, 0, none⟩ (.slice u.wo o.m u.wc)).cell? ⟨g + 1, 1, none⟩ = some (.slice none 0 0) := cell_of_row _ (g + 1) 1 _ _ _ hA
      have f1 : (wr.setCell ⟨g + 1, 0, none⟩ (.slice u.wo o.m u.wc)).frozen? ⟨g + 1, 1, none⟩ = false := frozen_of_row _ (g + 1) 1 _ _ hA
      have hB : ((wr.setCell ⟨g + 1, 0, none⟩ (.slice u.wo o.m u.wc)).setCell ⟨g + 1, 1, none⟩ (.slice u.bo o.n u.bc)).heap[g + 1]? = some (.cells (u.cells o) 36 (0, 0)) := heap_setCell_same _ (g + 1) 1 _ _ _ hA
      have hb4 : Below g wr ((wr.setCell ⟨g + 1, 0, none⟩ (.slice u.wo o.m u.wc)).setCell ⟨g + 1, 1, none⟩ (.slice u.bo o.n u.bc)) := ((Below.refl g wr).setCell (p := ⟨g + 1, 0, none⟩) (Nat.le_succ _) _).setCell (p := ⟨g + 1, 1, none⟩) (Nat.le_succ _) _
      have HHB := Lib.hid hB
      have hbw' := hbw
      rw [hg] at hbw'
      have hbf := hbw'.trans hb4
      have HAT : Hid (MoAt ((wr.setCell ⟨g + 1, 0, none⟩ (.slice u.wo o.m u.wc)).setCell ⟨g + 1, 1, none⟩ (.slice u.bo o.n u.bc)) u o) := Lib.hid (by
        have c0 := hcop.base HB2.out
        have c1 := c0.set hres (by omega) 0 (.slice u.wo o.m u.wc)
        have c2 := c1.set hA (by omega) 1 (.slice u.bo o.n u.bc)
        obtain ⟨u', e1', e2', h'⟩ := c2.at_
        have e3 : u' = u := by
          cases u; cases u'
          simp only [Value.slice.injEq] at e1' e2'
          simp only [MoV.mk.injEq]
          exact ⟨e1'.1.symm, e1'.2.2.symm, e2'.1.symm, e2'.2.2.symm⟩
        rw [e3] at h'
        exact h')
      have HBF := Lib.hid hbf
      clear hcop hbox hat hbw HJ HX2 HR2 hA hB hb4 hbf hres HBW HRES
      go_wp2_with (refine load_mo ?_ _ rfl H rfl u o hxH ?_; first | rfl | (simp [Region.wanted, yielded]; done))
      exact bodyPost_ret (results_cell_row rfl _ _ (g + 1) 36 (u.cells o) (0, 0) _ rfl HHB.out Try.underlying36 rfl info_mo) rfl ⟨u, rfl, HAT.out, HBF.out⟩
end M
end Go.Proofs.Ytdblijpoelcghaa
