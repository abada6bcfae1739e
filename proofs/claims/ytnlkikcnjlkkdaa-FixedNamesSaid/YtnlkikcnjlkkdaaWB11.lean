/- The texts FixC2, FixR4, FixEnd, one behind the other. -/
import Derived.Test.YtnlkikcnjlkkdaaWB10
import Derived.Test.YtnlkikcnjlkkdaaWB4
import Derived.Test.YtnlkikcnjlkkdaaWB5
import Derived.Test.YtnlkikcnjlkkdaaWB9
/- The walk of the copy. -/
namespace Go.Proofs.Ytnlkikcnjlkkdaa
open Go Go.RowKit Go.Lib
namespace M
attribute [local go_sem] Oper.semAt_some
theorem Cop.val {W w : World} {B k : Nat} {v bv : Value} {o : MM.Mo} (h : Cop W B v bv k o w) : ∃ ao c, v = .slice ao k c := by
  obtain ⟨xs, hx, ho, _⟩ := h.rows
  rcases ho.val with ⟨rfl, rfl⟩ | ⟨g, c, rfl, _⟩
  · exact ⟨none, 0, by rw [← hx]; rfl⟩
  · exact ⟨_, c, by rw [hx]⟩
theorem Cop.base {W W1 w : World} {B k : Nat} {v bv : Value} {o : MM.Mo} (h : Cop W1 B v bv k o w) (hb : Below W.heap.size W W1) : Cop W B v bv k o w := by
  obtain ⟨xs, hx, ho, hr⟩ := h.rows
  exact ⟨⟨xs, hx, ⟨ho.own, ho.size, Nat.le_trans hb.size ho.low, hb.trans (ho.below.mono hb.size)⟩, fun j hj => let ⟨u, h1, h2⟩ := hr j hj; ⟨u, h1, h2.mono hb.size⟩⟩, h.bias.mono hb.size⟩
theorem frozen_of_row (W : World) (B k : Nat) (cs : Array Value) (t : TypeId) (h : W.heap[B]? = some (.cells cs t (0, 0))) : W.frozen? ⟨B, k, none⟩ = false := by
  simp [World.frozen?, h]
set_option maxRecDepth 100000 in
set_option maxHeartbeats 8000000 in
theorem copied_any (v : MoV) (o : MM.Mo) (hm : o.m ≤ 1000) (hn : o.n ≤ 1000) (hL : ∀ i, i < o.m → o.L i ≤ 1000) (W : World) (hr : MoAt W v o) :
    Calls Try.prog 16 #[.agg (v.cells o)] W fun e w' => ∃ u : MoV, e = .returned (.agg (u.cells o)) ∧ MoAt w' u o ∧ Below W.heap.size W w' := by
  obtain ⟨wo, wc, bo, bc⟩ := v
  have hb1 := below_box W (.cells (MoV.cells ⟨wo, wc, bo, bc⟩ o) 36)
  have hx1 := BoxM.new W ⟨wo, wc, bo, bc⟩ o
  obtain ⟨g, hg⟩ : ∃ g, W.heap.size = g := ⟨_, rfl⟩
  have HL := Lib.hid hL
  have HR := Lib.hid hr
  clear hL hr
  go_enter Try.func16, Try.ntmps16
  go_upto_region 1 with fail
  have hb2 := below_box (W.alloc (.cells (MoV.cells ⟨wo, wc, bo, bc⟩ o) 36)) (.cells #[.slice none 0 0, .slice none 0 0] 36)
  have hn2 := heap_alloc_new (W.alloc (.cells (MoV.cells ⟨wo, wc, bo, bc⟩ o) 36)) (.cells #[.slice none 0 0, .slice none 0 0] 36)
  have hs1 := World.size_alloc W (.cells (MoV.cells ⟨wo, wc, bo, bc⟩ o) 36)
  generalize W.alloc (.cells (MoV.cells ⟨wo, wc, bo, bc⟩ o) 36) = Wa at *
  have hs2 := World.size_alloc Wa (.cells #[.slice none 0 0, .slice none 0 0] 36)
  generalize Wa.alloc (.cells #[.slice none 0 0, .slice none 0 0] 36) = W2 at *
  rw [hg] at hx1 hs1
  rw [hs1] at hn2 hs2
  have HB2 : Hid (Below W.heap.size W W2) := Lib.hid (hb1.trans (hb2.mono hb1.size))
  have HX2 : Hid (BoxM W2 g ⟨wo, wc, bo, bc⟩ o) := Lib.hid (hx1.below hb2)
  have HN2 := Lib.hid hn2
  have HR2 : Hid (MoAt W2 ⟨wo, wc, bo, bc⟩ o) := Lib.hid (HR.out.below HB2.out)
  clear hb1 hb2 hx1 hn2 hs1 HR
  have hm0 := OwnW.made0 W2 o.b
  rw [hs2] at hm0
  have hb3 := below_box W2 (.cells #[] 2)
  have ha3 : ∀ x, W2.alloc (.cells #[] 2) = x → x = W2.alloc (.cells #[] 2) := fun _ h => h.symm
  obtain ⟨W3, hW3⟩ : ∃ W3, W2.alloc (.cells #[] 2) = W3 := ⟨_, rfl⟩
  rw [hW3] at hm0 hb3
  obtain ⟨v4, w4, hr2, ho4⟩ := hm0.copy hn (HR2.out.bias.below hb3)
  have hc1 : W2.cell? ⟨g, 1, none⟩ = some (.slice bo o.n bc) := HX2.out.cell 1
  have hc13 : W3.cell? ⟨g, 1, none⟩ = some (.slice bo o.n bc) := (HX2.out.below hb3).cell 1
  clear ha3
  obtain ⟨bo4, bc4, rfl, _⟩ := ho4.irow
  go_upto_region 2 with (at_builtin; refine Lib.wpList_append_run _ rfl _ _ _ _ rfl _ _ rfl rfl _ _ hr2 ?_)
  have hn5 := heap_alloc_new w4 (.cells #[.slice none 0 0, .slice bo4 o.n bc4] 36)
  have hb5 := below_box w4 (.cells #[.slice none 0 0, .slice bo4 o.n bc4] 36)
  have hb45 : Below W2.heap.size W2 w4 := ho4.below
  have hni : NewI W2.heap.size w4 (.slice bo4 o.n bc4) o.n o.b := ho4.newI
  have hHl : W2.heap.size ≤ w4.heap.size := hb45.size
  generalize w4.alloc (.cells #[.slice none 0 0, .slice bo4 o.n bc4] 36) = w5 at *
  have HB5 : Hid (Below W2.heap.size W2 w5) := Lib.hid (hb45.trans (hb5.mono hHl))
  have HC5 : Hid (Cop W2 w5.heap.size (.slice none 0 0) (.slice bo4 o.n bc4) 0 o w5) := Lib.hid ⟨⟨[], rfl, ⟨⟨rfl, .inl ⟨rfl, rfl⟩⟩, Nat.le_refl _, HB5.out.size, HB5.out⟩, fun _ h => absurd h (by omega)⟩, hni.below hb5⟩
  generalize w4.heap.size = H at *
  have HN5 := Lib.hid hn5
  generalize w5.heap.size = B at HC5
  have hgH : g + 1 < H := by omega
  clear hr2 ho4 hm0 hb3 hb5 hb45 hni hn5 hW3 hc1 hc13
  go_wp2_with fail
  go_loopw [4] (fun s4 wx => ∃ k : Nat, k ≤ o.m ∧ s4 = .int .i64 (k : Int) ∧ Hid (∃ v, Cop W2 B v (.slice bo4 o.n bc4) k o wx ∧ wx.heap[H]? = some (.cells #[v, .slice bo4 o.n bc4] 36 (0, 0)))) (fun s4 _ => o.m - (RowKit.intOf s4).toNat)
  case atStart => exact ⟨0, Nat.zero_le _, rfl, Lib.hid ⟨_, HC5.out, HN5.out⟩⟩
  case round =>
    clear HC5 HN5 HB5
    obtain ⟨k, hk, rfl, HJ⟩ := hrel
    obtain ⟨v, hcop, hbox⟩ := HJ.out
    have k0 : wr.cell? ⟨g, 0, none⟩ = some (.slice wo o.m wc) := (HX2.out.below hcop.below).cell 0
    have hk0 : (0 : Int) ≤ (k : Int) := Int.natCast_nonneg _
    by_cases hlt : k < o.m
    · have hkI : (k : Int) < (o.m : Int) := by omega
      obtain ⟨ad, ro, rc, hwo, hc, hs⟩ := HR2.out.mat k hlt
      have hwo' : wo = some ad := hwo
      subst hwo'
      obtain ⟨ao3, c3, rfl⟩ := hcop.val
      have hlk := HL.out k hlt
      have HCOP := Lib.hid hcop
      have HBOX := Lib.hid hbox
      clear HJ hwo hcop hbox
      obtain ⟨lk, hlkE⟩ : ∃ lk, o.L k = lk := ⟨_, rfl⟩
      rw [hlkE] at hc hs hlk
      have HLK := Lib.hid hlkE
      have HS := Lib.hid hs
      clear hs hlkE
      have LCR : (ad.add k).block < W2.heap.size := World.block_lt_of_cell? W2 _ hc
      go_upto_region 5 with fail
      clear k0
      refine RK.region (fun u : World => Below W2.heap.size W2 u ∧ u.heap[H]? = some (.cells #[.slice ao3 k c3, .slice bo4 o.n bc4] 36 (0, 0))) 12 (by kernel_rfl) ?_
      have HS0 : (fun u : World => Below W2.heap.size W2 u ∧ u.heap[H]? = some (.cells #[.slice ao3 k c3, .slice bo4 o.n bc4] 36 (0, 0))) wr.drew := ⟨HCOP.out.below.trans (below_drewN' wr 1 _), ((below_drewN' wr 1 _).block H (row_lt HBOX.out)).trans HBOX.out⟩
      refine RK.Any.take 0 17 (.pointer (some ⟨H, 0, none⟩)) rfl rfl (by kernel_rfl) (by kernel_rfl) (by kernel_rfl) (by kernel_rfl) (fun _ _ _ h => h) (by rfl) (fun W' hb => ?_) HS0 ?_
      · go_simp
      simp only [List.setIfInBounds_toArray, List.set_cons_zero, List.set_cons_succ]
      refine RK.Any.take 1 18 (.slice ao3 k c3) rfl rfl (by kernel_rfl) (by kernel_rfl) (by kernel_rfl) (by kernel_rfl) (fun _ _ _ h => h) (by rfl) (fun W' hb => ?_) HS0 ?_
      · have cc : W'.cell? ⟨H, 0, none⟩ = some (.slice ao3 k c3) := cell_of_row W' H 0 _ _ _ hb.2; go_simp
      simp only [List.setIfInBounds_toArray, List.set_cons_zero, List.set_cons_succ]
      refine RK.Any.take 3 20 (.pointer (some ⟨g, 0, none⟩)) rfl rfl (by kernel_rfl) (by kernel_rfl) (by kernel_rfl) (by kernel_rfl) (fun _ _ _ h => h) (by rfl) (fun W' hb => ?_) HS0 ?_
      · go_simp
      simp only [List.setIfInBounds_toArray, List.set_cons_zero, List.set_cons_succ]
      refine RK.Any.take 4 21 (.slice (some ad) o.m wc) rfl rfl (by kernel_rfl) (by kernel_rfl) (by kernel_rfl) (by kernel_rfl) (fun _ _ _ h => h) (by rfl) (fun W' hb => ?_) HS0 ?_
      · have cc : W'.cell? ⟨g, 0, none⟩ = some (.slice (some ad) o.m wc) := (HX2.out.below hb.1).cell 0; go_simp
      simp only [List.setIfInBounds_toArray, List.set_cons_zero, List.set_cons_succ]
      refine RK.Any.take 5 22 (.int .i64 (k : Int)) rfl rfl (by kernel_rfl) (by kernel_rfl) (by kernel_rfl) (by kernel_rfl) (fun _ _ _ h => h) (by rfl) (fun W' hb => ?_) HS0 ?_
      · go_simp
      simp only [List.setIfInBounds_toArray, List.set_cons_zero, List.set_cons_succ]
      refine RK.Any.take 6 23 (.pointer (some (ad.add k))) rfl rfl (by kernel_rfl) (by kernel_rfl) (by kernel_rfl) (by kernel_rfl) (fun _ _ _ h => h) (by rfl) (fun W' hb => ?_) HS0 ?_
      · go_simp
      simp only [List.setIfInBounds_toArray, List.set_cons_zero, List.set_cons_succ]
      refine RK.Any.take 7 24 (.slice ro lk rc) rfl rfl (by kernel_rfl) (by kernel_rfl) (by kernel_rfl) (by kernel_rfl) (fun _ _ _ h => h) (by rfl) (fun W' hb => ?_) HS0 ?_
      · have cc : W'.cell? (ad.add k) = some (.slice ro lk rc) := (hb.1.cell LCR).trans hc; go_simp
      simp only [List.setIfInBounds_toArray, List.set_cons_zero, List.set_cons_succ]
      have hcop0 := HCOP.out.step (below_drewN' wr 1 _)
      change Cop W2 B (.slice ao3 k c3) (.slice bo4 o.n bc4) k o wr.drew at hcop0
      generalize wr.drew = w0 at *
      have ho1 := OwnW.made0 w0 (o.F k)
      have hbA := below_box w0 (.cells #[] 2)
      obtain ⟨w1, hw1'⟩ : ∃ w1, w0.alloc (.cells #[] 2) = w1 := ⟨_, rfl⟩
      rw [hw1'] at ho1 hbA
      have HS1 : (fun u : World => Below W2.heap.size W2 u ∧ u.heap[H]? = some (.cells #[.slice ao3 k c3, .slice bo4 o.n bc4] 36 (0, 0))) w1 := ⟨HS0.1.trans (hbA.mono HS0.1.size), (hbA.block H (row_lt HS0.2)).trans HS0.2⟩
      refine RK.Any.exec 2 19 (.slice (some ⟨w0.heap.size, 0, none⟩) 0 0) (w1 := w1) (by kernel_rfl) rfl rfl (by rfl) (by go_simp) HS1 ?_
      simp only [List.setIfInBounds_toArray, List.set_cons_zero, List.set_cons_succ]
      obtain ⟨v2, w2, hr2, ho2⟩ := ho1.copy hlk (HS.out.below HS1.1)
      have HS2 : (fun u : World => Below W2.heap.size W2 u ∧ u.heap[H]? = some (.cells #[.slice ao3 k c3, .slice bo4 o.n bc4] 36 (0, 0))) w2 := ⟨HS0.1.trans (ho2.below.mono HS0.1.size), (ho2.below.block H (row_lt HS0.2)).trans HS0.2⟩
      have hni2 : NewI W2.heap.size w2 v2 lk (o.F k) := ho2.newI.mono HS0.1.size
      obtain ⟨bo2, c2, rfl, _⟩ := ho2.irow
      have hni3 : NewI W2.heap.size w2 (.slice bo2 lk c2) (o.L k) (o.F k) := by rw [HLK.out]; exact hni2
      refine RK.Any.exec 8 25 (.slice bo2 lk c2) (w1 := w2) (by kernel_rfl) rfl rfl (by rfl) (RK.exec_append _ _ _ _ rfl _ _ rfl rfl hr2) HS2 ?_
      simp only [List.setIfInBounds_toArray, List.set_cons_zero, List.set_cons_succ]
      obtain ⟨v4, w4, hr4, ho4, hsame⟩ := (hcop0.step ho2.below).more 1 hni3 (by omega)
      have hb3 := below_box w2 (.cells #[.slice bo2 lk c2] 34)
      obtain ⟨w3, hw3⟩ : ∃ w3, w2.alloc (.cells #[.slice bo2 lk c2] 34) = w3 := ⟨_, rfl⟩
      rw [hw3] at hr4 hb3
      have HS3 : (fun u : World => Below W2.heap.size W2 u ∧ u.heap[H]? = some (.cells #[.slice ao3 k c3, .slice bo4 o.n bc4] 36 (0, 0))) w3 := ⟨HS2.1.trans (hb3.mono HS2.1.size), (hb3.block H (row_lt HS2.2)).trans HS2.2⟩
      refine RK.Any.exec 9 26 (.slice (some ⟨w2.heap.size, 0, none⟩) 1 1) (w1 := w3) (by kernel_rfl) rfl rfl (by rfl) (by go_simp) HS3 ?_
      simp only [List.setIfInBounds_toArray, List.set_cons_zero, List.set_cons_succ]
      have HS4 : (fun u : World => Below W2.heap.size W2 u ∧ u.heap[H]? = some (.cells #[.slice ao3 k c3, .slice bo4 o.n bc4] 36 (0, 0))) w4 := ⟨ho4.below, hsame H _ HS2.2⟩
      obtain ⟨ao4, c4, rfl⟩ := ho4.val
      refine RK.Any.exec 10 27 (.slice ao4 (k + 1) c4) (w1 := w4) (by kernel_rfl) rfl rfl (by rfl) (RK.exec_append _ _ _ _ rfl _ _ rfl rfl hr4) HS4 ?_
      simp only [List.setIfInBounds_toArray, List.set_cons_zero, List.set_cons_succ]
      refine RK.Any.take 11 28 (.pointer (some ⟨H, 0, none⟩)) rfl rfl (by kernel_rfl) (by kernel_rfl) (by kernel_rfl) (by kernel_rfl) (fun _ _ _ h => h) (by rfl) (fun W' hb => ?_) HS4 ?_
      · go_simp
      simp only [List.setIfInBounds_toArray, List.set_cons_zero, List.set_cons_succ]
      have hbx : w4.cell? ⟨H, 0, none⟩ = some (.slice ao3 k c3) := cell_of_row w4 H 0 _ _ _ HS4.2
      have hfr : w4.frozen? ⟨H, 0, none⟩ = false := frozen_of_row w4 H 0 _ _ HS4.2
      have hst := heap_setCell_same w4 H 0 _ _ (.slice ao4 (k + 1) c4) HS4.2
      have HO : Hid (Cop W2 B (.slice ao4 (k + 1) c4) (.slice bo4 o.n bc4) (k + 1) o (w4.setCell ⟨H, 0, none⟩ (.slice ao4 (k + 1) c4))) := Lib.hid (ho4.set HS4.2 hHl 0 _)
      have HT : Hid ((w4.setCell ⟨H, 0, none⟩ (.slice ao4 (k + 1) c4)).heap[H]? = some (.cells #[.slice ao4 (k + 1) c4, .slice bo4 o.n bc4] 36 (0, 0))) := Lib.hid hst
      refine RK.Any.store 12 (w1 := w4.setCell ⟨H, 0, none⟩ (.slice ao4 (k + 1) c4)) (by kernel_rfl) rfl rfl (by rfl) (by go_simp) (fun h => absurd rfl h) ?_
      refine RK.Any.done (by kernel_rfl) ?_
      clear ho1 hr2 ho2 hni2 hni3 hr4 ho4 hb3 hbA hcop0 HS0 HS1 HS2 HS3 HS4 hw3 hw1' hbx hfr hst hsame
      go_wp2_with fail
      go_roundw
      case rel => exact ⟨k + 1, by omega, by go_num, Lib.hid ⟨_, HO.out, HT.out⟩⟩
      case measure => simp [RowKit.intOf]; omega
    · have hkI : ¬ (k : Int) < (o.m : Int) := by omega
      obtain rfl : k = o.m := by omega
      obtain ⟨u, rfl, hbv, hat⟩ := hcop.at_
      simp only [Value.slice.injEq] at hbv
      obtain ⟨rfl, _, rfl⟩ := hbv
      have hxH : BoxM wr H u o := hbox
      have hres := (hcop.below.block (g + 1) (row_lt HN2.out)).trans HN2.out
      have hbw := HB2.out.trans (hcop.below.mono HB2.out.size)
      have HAT := Lib.hid hat
      have HBW := Lib.hid hbw
      have HRES := Lib.hid hres
      have e0 : wr.cell? ⟨g + 1, 0, none⟩ = some (.slice none 0 0) := cell_of_row wr (g + 1) 0 _ _ _ hres
      have f0 : wr.frozen? ⟨g + 1, 0, none⟩ = false := frozen_of_row wr (g + 1) 0 _ _ hres
      have hA : (wr.setCell ⟨g + 1, 0, none⟩ (.slice u.wo o.m u.wc)).heap[g + 1]? = some (.cells #[.slice u.wo o.m u.wc, .slice none 0 0] 36 (0, 0)) := heap_setCell_same wr (g + 1) 0 _ _ _ hres
      have e1 : (wr.setCell ⟨g + 1, 0, none⟩ (.slice u.wo o.m u.wc)).cell? ⟨g + 1, 1, none⟩ = some (.slice none 0 0) := cell_of_row _ (g + 1) 1 _ _ _ hA
      have f1 : (wr.setCell ⟨g + 1, 0, none⟩ (.slice u.wo o.m u.wc)).frozen? ⟨g + 1, 1, none⟩ = false := frozen_of_row _ (g + 1) 1 _ _ hA
      have hB : ((wr.setCell ⟨g + 1, 0, none⟩ (.slice u.wo o.m u.wc)).setCell ⟨g + 1, 1, none⟩ (.slice u.bo o.n u.bc)).heap[g + 1]? = some (.cells (u.cells o) 36 (0, 0)) := heap_setCell_same _ (g + 1) 1 _ _ _ hA
      have hb4 : Below g wr ((wr.setCell ⟨g + 1, 0, none⟩ (.slice u.wo o.m u.wc)).setCell ⟨g + 1, 1, none⟩ (.slice u.bo o.n u.bc)) := ((Below.refl g wr).setCell (p := ⟨g + 1, 0, none⟩) (Nat.le_succ _) _).setCell (p := ⟨g + 1, 1, none⟩) (Nat.le_succ _) _
      have HHB := Lib.hid hB
      have hbw' := hbw
      rw [hg] at hbw'
      have hbf := hbw'.trans hb4
      have HAT : Hid (MoAt ((wr.setCell ⟨g + 1, 0, none⟩ (.slice u.wo o.m u.wc)).setCell ⟨g + 1, 1, none⟩ (.slice u.bo o.n u.bc)) u o) := Lib.hid (by
        have c0 := hcop.base HB2.out
        have c1 := c0.set hres (by omega) 0 (.slice u.wo o.m u.wc)
        have c2 := c1.set hA (by omega) 1 (.slice u.bo o.n u.bc)
        obtain ⟨u', e1', e2', h'⟩ := c2.at_
        have e3 : u' = u := by
          cases u; cases u'
          simp only [Value.slice.injEq] at e1' e2'
          simp only [MoV.mk.injEq]
          exact ⟨e1'.1.symm, e1'.2.2.symm, e2'.1.symm, e2'.2.2.symm⟩
        rw [e3] at h'
        exact h')
      have HBF := Lib.hid hbf
      clear hcop hbox hat hbw HJ HX2 HR2 hA hB hb4 hbf hres HBW HRES
      go_wp2_with (refine load_mo ?_ _ rfl H rfl u o hxH ?_; first | rfl | (simp [Region.wanted, yielded]; done))
      exact bodyPost_ret (results_cell_row rfl _ _ (g + 1) 36 (u.cells o) (0, 0) _ rfl HHB.out Try.underlying36 rfl info_mo) rfl ⟨u, rfl, HAT.out, HBF.out⟩
end M
end Go.Proofs.Ytnlkikcnjlkkdaa
/- Are two rows, two models the same: the library's functions, the program's, the document's; a model is copied. -/
namespace Go.Proofs.Ytnlkikcnjlkkdaa
open Go Go.RowKit Go.Lib
namespace M
attribute [local go_sem] Oper.semAt_some
set_option maxHeartbeats 2000000 in
theorem equal_any (ao bo : Option Addr) (n m ca cb : Nat) (y z : Nat → Int) (hn : n ≤ 9223372036854775807) (W : World) (ha : IRow W ao n ca y) (hb : IRow W bo m cb z) :
    Calls Try.prog 24 #[.slice ao n ca, .slice bo m cb] W fun e w' => e = .returned (.bool (decide (MM.eqR n m y z))) ∧ ∃ d, w' = W.drewN d := by
  have HF : Hid (¬ MM.eqR n m y z → decide (MM.eqR n m y z) = false) := Lib.hid fun h => decide_eq_false h
  have HT : Hid (MM.eqR n m y z → decide (MM.eqR n m y z) = true) := Lib.hid fun h => decide_eq_true h
  generalize decide (MM.eqR n m y z) = ans at *
  by_cases hnm : n = m
  · subst hnm
    have HA := Lib.hid ha
    have HB := Lib.hid hb
    clear ha hb
    go_enter Try.func24, Try.ntmps24
    go_wp2_with fail
    go_loopw [13] (fun s13 wx => ∃ k m : Nat, k ≤ n ∧ s13 = .int .i64 (k : Int) ∧ wx = W.drewN m ∧ Hid (∀ j, j < k → y j = z j)) (fun s13 _ => n - (RowKit.intOf s13).toNat)
    case atStart => exact ⟨0, 0, Nat.zero_le _, rfl, rfl, Lib.hid fun j h => absurd h (by omega)⟩
    case round =>
      obtain ⟨k, m, hk, rfl, rfl, HJ⟩ := hrel
      by_cases hlt : k < n
      · obtain ⟨ad, rfl, hc⟩ := HA.out.at_ hlt
        obtain ⟨bd, rfl, hd⟩ := HB.out.at_ hlt
        have HE : Hid (y k = z k → ∀ j, j < k + 1 → y j = z j) := Lib.hid fun e j hj => by
          by_cases h : j = k
          · subst h; exact e
          · exact HJ.out j (by omega)
        have HNE : Hid (y k ≠ z k → ans = false) := Lib.hid fun e => HF.out fun h => e (h.2 k hlt)
        go_upto_region 6 with fail
        generalize hwr : W.drewN m = wr
        have hcell : wr.cell? (ad.add k) = some (.int .i64 (y k)) := by rw [← hwr]; exact hc
        have hdell : wr.cell? (bd.add k) = some (.int .i64 (z k)) := by rw [← hwr]; exact hd
        have HWR := Lib.hid hwr
        clear hwr hc hd
        generalize y k = yk at *
        generalize z k = zk at *
        have hk0 : (0 : Int) ≤ (k : Int) := Int.natCast_nonneg _
        have hk1 : (k : Int) < (n : Int) := by omega
        by_cases he : yk = zk
        · have HN := Lib.hid (HE.out he)
          subst he
          clear HE HNE
          go_quiet (fail)
          go_wp2_with fail
          go_roundw
          case rel => exact ⟨k + 1, _, by omega, by go_num, by rw [← HWR.out]; exact World.drewN_drewN _ _ _, HN⟩
          case measure => simp [RowKit.intOf]; omega
        · have HZ := Lib.hid (HNE.out he)
          have heI : (yk != zk) = true := by simp; exact he
          clear HE HNE
          go_quiet (fail)
          go_wp2_with fail
          go_ret
          exact ⟨by rw [HZ.out]; rfl, _, by rw [← HWR.out]; exact World.drewN_drewN _ _ _⟩
      · obtain hkn : k = n := by omega
        rw [hkn] at HJ
        subst hkn
        have HZ := Lib.hid (HT.out ⟨by first | trivial | rfl, HJ.out⟩)
        go_wp2_with fail
        go_ret
        exact ⟨by rw [HZ.out]; rfl, _, rfl⟩
  · have HZ := Lib.hid (HF.out fun h => hnm h.1)
    have hI : ((n : Int) != (m : Int)) = true := by simp; omega
    clear HF HT ha hb
    go_enter Try.func24, Try.ntmps24
    go_wp2_with fail
    go_ret
    exact ⟨by rw [HZ.out]; rfl, 0, rfl⟩
/-- Rows of whole numbers that two slices read are the same. -/
def eqG (m n : Nat) (L L' : Nat → Nat) (F F' : Nat → Nat → Int) : Prop := m = n ∧ ∀ i, i < m → MM.eqR (L i) (L' i) (F i) (F' i)
instance (m n : Nat) (L L' : Nat → Nat) (F F' : Nat → Nat → Int) : Decidable (eqG m n L L' F F') := by unfold eqG; infer_instance
set_option maxRecDepth 100000 in
set_option maxHeartbeats 4000000 in
theorem equalfunc_any (ao bo : Option Addr) (m n ca cb : Nat) (L L' : Nat → Nat) (F F' : Nat → Nat → Int) (hL : ∀ i, L i ≤ 9223372036854775807) (hm : m ≤ 9223372036854775807) (W : World) (ha : IMat W ao m L F) (hb : IMat W bo n L' F') :
    Calls Try.prog 23 #[.slice ao m ca, .slice bo n cb, .func (.func 24) #[] #[]] W fun e w' => e = .returned (.bool (decide (eqG m n L L' F F'))) ∧ ∃ d, w' = W.drewN d := by
  have HF : Hid (¬ eqG m n L L' F F' → decide (eqG m n L L' F F') = false) := Lib.hid fun h => decide_eq_false h
  have HT : Hid (eqG m n L L' F F' → decide (eqG m n L L' F F') = true) := Lib.hid fun h => decide_eq_true h
  generalize decide (eqG m n L L' F F') = ans at *
  by_cases hnm : m = n
  · subst hnm
    have HA := Lib.hid ha
    have HB := Lib.hid hb
    have HL := Lib.hid hL
    clear ha hb hL
    go_enter Try.func23, Try.ntmps23
    go_wp2_with fail
    go_loopw [17] (fun s17 wx => ∃ k d : Nat, k ≤ m ∧ s17 = .int .i64 (k : Int) ∧ wx = W.drewN d ∧ Hid (∀ j, j < k → MM.eqR (L j) (L' j) (F j) (F' j))) (fun s17 _ => m - (RowKit.intOf s17).toNat)
    case atStart => exact ⟨0, 0, Nat.zero_le _, rfl, rfl, Lib.hid fun j h => absurd h (by omega)⟩
    case round =>
      obtain ⟨k, d, hk, rfl, rfl, HJ⟩ := hrel
      have hk0 : (0 : Int) ≤ (k : Int) := Int.natCast_nonneg _
      by_cases hlt : k < m
      · have hkI : (k : Int) < (m : Int) := by omega
        obtain ⟨ad, ro, rc, rfl, hc, hr⟩ := HA.out k hlt
        obtain ⟨bd, so, sc, rfl, hd, hs⟩ := HB.out k hlt
        have HE := Lib.hid (fun u (h1 : IRow u ro (L k) rc (F k)) (h2 : IRow u so (L' k) sc (F' k)) => equal_any ro so (L k) (L' k) rc sc (F k) (F' k) (HL.out k) u h1 h2)
        have HN : Hid (MM.eqR (L k) (L' k) (F k) (F' k) → ∀ j, j < k + 1 → MM.eqR (L j) (L' j) (F j) (F' j)) := Lib.hid fun h j hj => by
          by_cases e : j = k
          · subst e; exact h
          · exact HJ.out j (by omega)
        have HNN : Hid (¬ MM.eqR (L k) (L' k) (F k) (F' k) → ans = false) := Lib.hid fun h => HF.out fun hq => h (hq.2 k hlt)
        generalize hwr : W.drewN d = wr
        have c1 : wr.cell? (ad.add k) = some (.slice ro (L k) rc) := by rw [← hwr]; exact hc
        have c2 : wr.cell? (bd.add k) = some (.slice so (L' k) sc) := by rw [← hwr]; exact hd
        have HR1 : Hid (IRow wr ro (L k) rc (F k)) := Lib.hid (by rw [← hwr]; exact hr.below (below_drewN' W d _))
        have HR2 : Hid (IRow wr so (L' k) sc (F' k)) := Lib.hid (by rw [← hwr]; exact hs.below (below_drewN' W d _))
        have HWR := Lib.hid hwr
        clear hwr hc hd hr hs
        by_cases hq : MM.eqR (L k) (L' k) (F k) (F' k)
        · rw [decide_eq_true hq] at HE
          have HN2 := Lib.hid (HN.out hq)
          clear HN HNN hq
          generalize L k = lk at *
          generalize L' k = lk' at *
          go_wp2_with (go_at_call 24; (with_reducible refine (HE.out _ HR1.out HR2.out).mono ?_); rintro e w' ⟨rfl, nd, rfl⟩)
          go_roundw
          case rel => exact ⟨k + 1, _, by omega, by go_num, by rw [← HWR.out]; exact World.drewN_drewN _ _ _, HN2⟩
          case measure => simp [RowKit.intOf]; omega
        · rw [decide_eq_false hq] at HE
          have HZ := Lib.hid (HNN.out hq)
          clear HN HNN hq
          generalize L k = lk at *
          generalize L' k = lk' at *
          go_wp2_with (go_at_call 24; (with_reducible refine (HE.out _ HR1.out HR2.out).mono ?_); rintro e w' ⟨rfl, nd, rfl⟩)
          go_ret
          exact ⟨by rw [HZ.out]; rfl, _, by rw [← HWR.out]; exact World.drewN_drewN _ _ _⟩
      · have hkI : ¬ (k : Int) < (m : Int) := by omega
        have hkm : k = m := by omega
        rw [hkm] at HJ
        have HZ := Lib.hid (HT.out ⟨by first | trivial | rfl, HJ.out⟩)
        go_wp2_with fail
        go_ret
        exact ⟨by rw [HZ.out]; rfl, _, rfl⟩
  · have HZ := Lib.hid (HF.out fun h => hnm h.1)
    have hI : ((m : Int) != (n : Int)) = true := by simp; omega
    clear HF HT ha hb
    go_enter Try.func23, Try.ntmps23
    go_wp2_with fail
    go_ret
    exact ⟨by rw [HZ.out]; rfl, 0, rfl⟩
/-- Two models in their boxes. -/
structure In2 (w0 : World) (h k : Nat) (v : MoV) (o : MM.Mo) (u : MoV) (q : MM.Mo) (w : World) : Prop where
  mod : BoxM w h v o
  mat : MoAt w v o
  mod2 : BoxM w k u q
  mat2 : MoAt w u q
  below : Below w0.heap.size w0 w
theorem In2.step {w0 w w' : World} {h k : Nat} {v u : MoV} {o q : MM.Mo} (i : In2 w0 h k v o u q w) (hb : Below w.heap.size w w') : In2 w0 h k v o u q w' :=
  ⟨i.mod.below hb, i.mat.below hb, i.mod2.below hb, i.mat2.below hb, i.below.trans (hb.mono i.below.size)⟩
theorem In2.new (w : World) (v u : MoV) (o q : MM.Mo) (h1 : MoAt w v o) (h2 : MoAt w u q) : In2 w w.heap.size (w.heap.size + 1) v o u q ((w.alloc (.cells (v.cells o) 36)).alloc (.cells (u.cells q) 36)) := by
  have b1 := below_box w (.cells (v.cells o) 36)
  have n1 := BoxM.new w v o
  have s1 := World.size_alloc w (.cells (v.cells o) 36)
  generalize w.alloc (.cells (v.cells o) 36) = W at *
  have hb := below_box W (.cells (u.cells q) 36)
  have hn := BoxM.new W u q
  rw [s1] at hn
  exact ⟨n1.below hb, (h1.below b1).below hb, hn, (h2.below b1).below hb, b1.trans (hb.mono b1.size)⟩
set_option maxRecDepth 100000 in
set_option maxHeartbeats 4000000 in
theorem same_any (v u : MoV) (o q : MM.Mo) (ok : MoOk o) (W : World) (h1 : MoAt W v o) (h2 : MoAt W u q) :
    Calls Try.prog 15 #[.agg (v.cells o), .agg (u.cells q)] W fun e w' => e = .returned (.bool (decide (MM.eqM o q))) ∧ Below W.heap.size W w' := by
  have hI0 := In2.new W v u o q h1 h2
  have HI := Lib.hid hI0
  obtain ⟨wo, wc, bo, bc⟩ := v
  obtain ⟨wo', wc', bo', bc'⟩ := u
  have HG : Hid (∀ (w : World) (_ : MoAt w ⟨wo, wc, bo, bc⟩ o) (_ : MoAt w ⟨wo', wc', bo', bc'⟩ q), Calls Try.prog 23 #[.slice wo o.m wc, .slice wo' q.m wc', .func (.func 24) #[] #[]] w fun e w' => e = .returned (.bool (decide (eqG o.m q.m o.L q.L o.F q.F))) ∧ Below w.heap.size w w') := Lib.hid fun w a b => (equalfunc_any wo wo' o.m q.m wc wc' o.L q.L o.F q.F ok.L ok.m w a.mat b.mat).mono fun e w' ⟨he, d, hd⟩ => ⟨he, by rw [hd]; exact below_drewN' _ _ _⟩
  have HE : Hid (∀ (w : World) (_ : MoAt w ⟨wo, wc, bo, bc⟩ o) (_ : MoAt w ⟨wo', wc', bo', bc'⟩ q), Calls Try.prog 24 #[.slice bo o.n bc, .slice bo' q.n bc'] w fun e w' => e = .returned (.bool (decide (MM.eqR o.n q.n o.b q.b))) ∧ Below w.heap.size w w') := Lib.hid fun w a b => (equal_any bo bo' o.n q.n bc bc' o.b q.b ok.n w a.bias b.bias).mono fun e w' ⟨he, d, hd⟩ => ⟨he, by rw [hd]; exact below_drewN' _ _ _⟩
  have HA : Hid (decide (MM.eqM o q) = (decide (eqG o.m q.m o.L q.L o.F q.F) && decide (MM.eqR o.n q.n o.b q.b))) := Lib.hid (by
    rw [← Bool.decide_and]
    exact decide_eq_decide.2 Iff.rfl)
  have c0 := HI.out.mod.cell 0
  have c1 := HI.out.mod.cell 1
  have d0 := HI.out.mod2.cell 0
  have d1 := HI.out.mod2.cell 1
  generalize decide (MM.eqM o q) = ans at *
  generalize decide (eqG o.m q.m o.L q.L o.F q.F) = x1 at *
  generalize decide (MM.eqR o.n q.n o.b q.b) = x2 at *
  clear hI0 h1 h2 ok
  cases x1 with
  | true =>
    go_enter Try.func15, Try.ntmps15
    go_wp2_with (first
      | (go_at_call 23; (with_reducible refine (HG.out _ HI.out.mat HI.out.mat2).mono ?_); rintro e w1 ⟨rfl, hb⟩; replace HI := Lib.hid (HI.out.step hb); have c1 := HI.out.mod.cell 1; have d1 := HI.out.mod2.cell 1; clear hb)
      | (go_at_call 24; (with_reducible refine (HE.out _ HI.out.mat HI.out.mat2).mono ?_); rintro e w1 ⟨rfl, hb⟩; replace HI := Lib.hid (HI.out.step hb); clear hb))
    go_ret
    exact ⟨by rw [HA.out]; rfl, HI.out.below⟩
  | false =>
    go_enter Try.func15, Try.ntmps15
    go_wp2_with (first
      | (go_at_call 23; (with_reducible refine (HG.out _ HI.out.mat HI.out.mat2).mono ?_); rintro e w1 ⟨rfl, hb⟩; replace HI := Lib.hid (HI.out.step hb); clear hb))
    go_ret
    exact ⟨by rw [HA.out]; rfl, HI.out.below⟩
end M
end Go.Proofs.Ytnlkikcnjlkkdaa
/- The last part of FixedNames: the model at the ends, as it is built; what each call answers. -/
namespace Go.Proofs.Ytnlkikcnjlkkdaa
open Go Go.RowKit Go.Lib
namespace M
/-- The model at the ends; the one without a bias; none. -/
abbrev ends7 : MM.Mo := MM.moL [[3], [-3]] [-3, 3]
abbrev ends0 : MM.Mo := MM.moL [[3], [-3]] []
abbrev nil7 : MM.Mo := MM.moL [] []
abbrev pn : Pm := ⟨0, 101, 0, 0, 0, 0, 0, 0, 0, 0, 0, 0⟩
theorem ends_ok : MoOk ends7 := moL_ok _ _ (by decide +kernel) (by decide +kernel) (by decide +kernel) (by decide +kernel) (by decide +kernel)
theorem ends0_ok : MoOk ends0 := moL_ok _ _ (by decide +kernel) (by decide +kernel) (by decide +kernel) (by decide +kernel) (by decide +kernel)
theorem nil_ok : MoOk nil7 := moL_ok _ _ (by decide +kernel) (by decide +kernel) (by decide +kernel) (by decide +kernel) (by decide +kernel)
theorem may1 : decide (MM.Valid sp ends7) = true := by decide +kernel
theorem may2 : decide (MM.Valid pn nil7) = true := by decide +kernel
theorem qry1 : MM.qryE sp 1 (MM.il [2]) = 0 := by decide +kernel
theorem qry2 : MM.qryE sp 1 (MM.il [-3]) = 20 := by decide +kernel
theorem qry3 : MM.qryE sp 2 (MM.il [1, 1]) = 4 := by decide +kernel
theorem qry4 : MM.qryE sp 0 (MM.il []) = 4 := by decide +kernel
theorem qry5 : MM.qryE pn 0 (MM.il []) = 0 := by decide +kernel
theorem row1 : MM.rowN pn = 1 ∧ ∀ k, k < 1 → MM.rowZ pn 1 (MM.il [5]) k = MM.nl [1] k := by decide +kernel
theorem row2 : MM.rowN sp = 2 ∧ ∀ k, k < 2 → MM.rowZ sp 0 (MM.il []) k = MM.nl [0, 1] k := by decide +kernel
theorem dot1 : MM.dotN pn = 0 := by decide +kernel
theorem dot2 : MM.dotN sp = 2 ∧ ∀ k, k < 2 → MM.dotZ sp 1 (MM.nl [5]) 2 (MM.il [3, 9]) k = MM.nl [15, 0] k := by decide +kernel
theorem same1 : decide (MM.eqM ends7 ends0) = false := by decide +kernel
theorem same2 : decide (MM.eqM ends7 ends7) = true := by decide +kernel
theorem bad_all {p : Pm} (h : ¬ MM.Fit p) : (∀ o, decide (MM.Valid p o) = false) ∧ (∀ n x, MM.qryE p n x = 4) ∧ MM.rowN p = 0 ∧ MM.dotN p = 0 ∧ ∀ o, MM.secN p o = 0 := by
  have hv : ∀ o, ¬ MM.Valid p o := fun o ho => h ho.1
  exact ⟨fun o => decide_eq_false (hv o), fun n x => if_neg fun hh => h hh.1, if_neg h, if_neg h, fun o => if_neg (hv o)⟩
theorem il7_ok (l : List Int) (h : l.all (fun x => decide (-9223372036854775808 ≤ x ∧ x ≤ 9223372036854775807)) = true) (j : Nat) : -9223372036854775808 ≤ MM.il l j ∧ MM.il l j ≤ 9223372036854775807 := by
  unfold MM.il
  rw [List.getD_eq_getElem?_getD]
  cases e : l[j]? with
  | none => simp
  | some x => exact of_decide_eq_true (List.all_eq_true.1 h x (List.mem_of_getElem? e))
theorem nl7_ok (l : List Nat) (h : l.all (fun x => decide (x < 18446744073709551616)) = true) (j : Nat) : MM.nl l j < 18446744073709551616 := by
  unfold MM.nl
  rw [List.getD_eq_getElem?_getD]
  cases e : l[j]? with
  | none => simp
  | some x => exact of_decide_eq_true (List.all_eq_true.1 h x (List.mem_of_getElem? e))
theorem ends_L (i : Nat) : ends7.L i ≤ 1000 := by
  show ((([[3], [-3]] : List (List Int)).getD i []).length) ≤ 1000
  match i with
  | 0 => decide
  | 1 => decide
  | n + 2 => simp
theorem numbers_yes7 (ao bo : Option Addr) (n ca cb : Nat) (z : Nat → Nat) (hn : n ≤ 9223372036854775807) (W : World) (ha : Rd W ao n z) (hb : Rd W bo n z) :
    Calls Try.prog 14 #[.slice ao n ca, .slice bo n cb] W fun e w' => e = .returned (.bool true) ∧ ∃ d, w' = W.drewN d := (numbers_any ao bo n n ca cb z z hn W ha hb).mono fun _ _ ⟨a, b⟩ => ⟨by rw [a, decide_eq_true ⟨rfl, fun _ _ => rfl⟩], b⟩
theorem nil_at (w : World) : MoAt w ⟨none, 0, none, 0⟩ nil7 := ⟨fun _ hi => absurd hi (Nat.not_lt_zero _), IRow.nil w _⟩
theorem ends0_at {w : World} {v : MoV} (h : MoAt w v ends7) : MoAt w ⟨v.wo, v.wc, none, 0⟩ ends0 := ⟨h.mat, IRow.nil w _⟩
/-- A copy of the model. -/
def wM : RK.Word := ⟨fun v w => ∃ u : MoV, v = .agg (u.cells ends7) ∧ MoAt w u ends7, fun _ _ _ ⟨u, a, b⟩ hb => ⟨u, a, b.below hb⟩⟩
/-- The model at the ends lies where it is built. -/
theorem ends_at (W : World) : ∃ W5 : World, ((((W.alloc (.cells #[.int .i64 3] 2)).alloc (.cells #[.int .i64 (-3)] 2)).alloc (.cells #[.slice (some ⟨W.heap.size, 0, none⟩) 1 1, .slice (some ⟨W.heap.size + 1, 0, none⟩) 1 1] 34)).alloc (.cells #[.int .i64 (-3), .int .i64 3] 2)).alloc (.cells #[.slice (some ⟨W.heap.size + 1 + 1, 0, none⟩) 2 2, .slice (some ⟨W.heap.size + 1 + 1 + 1, 0, none⟩) 2 2] 36) = W5 ∧
    MoAt W5 ⟨some ⟨W.heap.size + 1 + 1, 0, none⟩, 2, some ⟨W.heap.size + 1 + 1 + 1, 0, none⟩, 2⟩ ends7 ∧ BoxM W5 (W.heap.size + 1 + 1 + 1 + 1) ⟨some ⟨W.heap.size + 1 + 1, 0, none⟩, 2, some ⟨W.heap.size + 1 + 1 + 1, 0, none⟩, 2⟩ ends7 ∧ Below W.heap.size W W5 := by
  have n1 := isI_new W [3] (cs := #[.int .i64 3]) rfl rfl
  have b1 := below_box W (.cells #[.int .i64 3] 2)
  have s1 := World.size_alloc W (.cells #[.int .i64 3] 2)
  generalize W.alloc (.cells #[.int .i64 3] 2) = V1 at *
  have e1 : V1.heap.size = W.heap.size + 1 := by rw [s1]
  have B1 : Below W.heap.size W V1 := b1
  have n2 := isI_new V1 [-3] (cs := #[.int .i64 (-3)]) rfl rfl
  have b2 := below_box V1 (.cells #[.int .i64 (-3)] 2)
  have s2 := World.size_alloc V1 (.cells #[.int .i64 (-3)] 2)
  generalize V1.alloc (.cells #[.int .i64 (-3)] 2) = V2 at *
  rw [e1] at n2
  have e2 : V2.heap.size = W.heap.size + 1 + 1 := by rw [s2, e1]
  have B2 : Below W.heap.size W V2 := B1.trans (b2.mono B1.size)
  replace n1 := n1.below b2
  have n3 := mat_new (w := V2) (T := 34) [[3], [-3]] [.slice (some ⟨W.heap.size, 0, none⟩) 1 1, .slice (some ⟨W.heap.size + 1, 0, none⟩) 1 1] (n := 2) fun i hi => by match i, hi with | 0, _ => exact ⟨_, rfl, n1⟩ | 1, _ => exact ⟨_, rfl, n2⟩
  have b3 := below_box V2 (.cells #[.slice (some ⟨W.heap.size, 0, none⟩) 1 1, .slice (some ⟨W.heap.size + 1, 0, none⟩) 1 1] 34)
  have s3 := World.size_alloc V2 (.cells #[.slice (some ⟨W.heap.size, 0, none⟩) 1 1, .slice (some ⟨W.heap.size + 1, 0, none⟩) 1 1] 34)
  generalize V2.alloc (.cells #[.slice (some ⟨W.heap.size, 0, none⟩) 1 1, .slice (some ⟨W.heap.size + 1, 0, none⟩) 1 1] 34) = V3 at *
  rw [e2] at n3
  have e3 : V3.heap.size = W.heap.size + 1 + 1 + 1 := by rw [s3, e2]
  have B3 : Below W.heap.size W V3 := B2.trans (b3.mono B2.size)
  have n4 := isI_new V3 [-3, 3] (cs := #[.int .i64 (-3), .int .i64 3]) rfl rfl
  have b4 := below_box V3 (.cells #[.int .i64 (-3), .int .i64 3] 2)
  have s4 := World.size_alloc V3 (.cells #[.int .i64 (-3), .int .i64 3] 2)
  generalize V3.alloc (.cells #[.int .i64 (-3), .int .i64 3] 2) = V4 at *
  rw [e3] at n4
  have e4 : V4.heap.size = W.heap.size + 1 + 1 + 1 + 1 := by rw [s4, e3]
  have B4 : Below W.heap.size W V4 := B3.trans (b4.mono B3.size)
  replace n3 := n3.below b4
  refine ⟨_, rfl, ?_, ?_, B4.trans ((below_box V4 _).mono B4.size)⟩
  · have h4 : MoAt V4 ⟨some ⟨W.heap.size + 1 + 1, 0, none⟩, 2, some ⟨W.heap.size + 1 + 1 + 1, 0, none⟩, 2⟩ ends7 := by
      refine ⟨n3, ?_⟩
      obtain ⟨ao, c, e, h⟩ := n4
      cases e
      exact h
    exact h4.below (below_box V4 _)
  · have h5 := BoxM.new V4 ⟨some ⟨W.heap.size + 1 + 1, 0, none⟩, 2, some ⟨W.heap.size + 1 + 1 + 1, 0, none⟩, 2⟩ ends7
    rw [e4] at h5
    exact h5
end M
end Go.Proofs.Ytnlkikcnjlkkdaa
