/- The walk of reduce. -/
import Derived.Test.YtflkmjihgfjofaaDoorRankW1
import Derived.Test.YtflkmjihgfjofaaDoorQuietTail
import Derived.Deep.RegionWith
namespace Go.Proofs.YtflkmjihgfjofaaDoor
open Go Go.RowKit Go.Lib
namespace M
theorem ret_subU (a b m : Nat) : Ret 49 #[.int .u64 (a : Int), .int .u64 (b : Int), .int .u64 (m : Int)] (.int .u64 ((MM.subU a b m : Nat) : Int)) := by
  unfold MM.subU
  by_cases h : MM.Good m
  · rw [if_pos h]; exact ret_sub a b m _ h.1 h.2 rfl
  · rw [if_neg h]; exact ret_no_sub a b m (MM.good_not h)
theorem ret_invU (a m : Nat) : Ret 48 #[.int .u64 (a : Int), .int .u64 (m : Int)] (.tuple #[.int .u64 ((MM.invU a m : Nat) : Int), .int .i64 (MM.invC a m)]) := by
  unfold MM.invU MM.invC
  by_cases h : MM.Good m
  · by_cases hg : Nat.gcd a m = 1
    · obtain ⟨x, hx⟩ := MM.exists_inv h.1 hg
      rw [if_pos ⟨h, hg⟩, if_pos h, if_pos hg, MM.invm_eq hx]
      exact ret_inv a m x h.1 h.2 hx
    · rw [if_neg (fun h' => hg h'.2), if_pos h, if_neg hg]
      exact ret_inv_none a m h.1 h.2 hg
  · rw [if_neg (fun h' => h h'.1), if_neg h]
    exact ret_inv_no a m (MM.good_not h)
theorem nil_yes (w : World) : (binOp .eql 25 (.slice none 0 0) (.slice none 0 0)).run Tryd.prog w = .ok (.bool true) w := by
  rw [Lib.run_eql_slice_nil w 25 24 none 0 0 0 0 Tryd.underlying25]; rfl
theorem nil_no (w : World) (a : Addr) (n c : Nat) : (binOp .eql 25 (.slice (some a) n c) (.slice none 0 0)).run Tryd.prog w = .ok (.bool false) w := by
  rw [Lib.run_eql_slice_nil w 25 24 (some a) n c 0 0 Tryd.underlying25]; rfl
theorem rowAdd_zero {q t f : Nat} {r ind : Nat → Nat} : MM.rowAdd q t f r ind f = r := by
  funext i; unfold MM.rowAdd; rw [if_neg (by omega)]
theorem rowAdd_at {q t f i n : Nat} {r ind : Nat → Nat} (h : n ≤ i) : MM.rowAdd q t f r ind n i = r i := by
  unfold MM.rowAdd; rw [if_neg (by omega)]
theorem rowAdd_new {q t f i : Nat} {r ind : Nat → Nat} (h : f ≤ i) : MM.rowAdd q t f r ind (i + 1) i = MM.addU (r i) (MM.mulU t (ind i) q) q := by
  unfold MM.rowAdd; rw [if_pos (by omega)]
theorem rowAdd_else {q t f i j : Nat} {r ind : Nat → Nat} (h : j ≠ i) : MM.rowAdd q t f r ind (i + 1) j = MM.rowAdd q t f r ind i j := by
  unfold MM.rowAdd
  by_cases h1 : f ≤ j ∧ j < i
  · rw [if_pos h1, if_pos (by omega)]
  · rw [if_neg h1, if_neg (by omega)]
/-- The state of reduce between two steps: the row, the map's rows, the struct's box. -/
structure RedAt (w0 W : World) (B g m hi n wd q : Nat) (b : MM.Bs) (r : Nat → Nat) (w : World) : Prop where
  mine : Mine w0 B wd r w
  bas : Bas w m hi n wd b
  box : Boxed w g m wd q
  kept : Kept B W w
  size : w.heap.size = W.heap.size + 1
section
variable {w0 W w : World} {B g m hi n wd q : Nat} {b : MM.Bs} {r y : Nat → Nat}
theorem RedAt.drewN (h : RedAt w0 W B g m hi n wd q b r w) (i : Nat) : RedAt w0 W B g m hi n wd q b r (w.drewN i) := ⟨h.mine.drewN i, h.bas.drewN i, h.box, h.kept.drewN i, h.size⟩
theorem RedAt.congr (h : RedAt w0 W B g m hi n wd q b r w) (e : ∀ k, k < wd → r k = y k) : RedAt w0 W B g m hi n wd q b y w := ⟨h.mine.congr e, h.bas, h.box, h.kept, h.size⟩
theorem RedAt.set (h : RedAt w0 W B g m hi n wd q b r w) (hh : hi ≤ B) (hg : g ≠ B) (k x : Nat) (hy : ∀ j, j < wd → y j = if j = k then x else r j) : RedAt w0 W B g m hi n wd q b y (w.setCell ⟨B, k, none⟩ (.int .u64 (x : Int))) :=
  ⟨h.mine.set k x hy, h.bas.setCell hh _ _, h.box.setCell hg _ _, h.kept.setCell _ _, by rw [← h.size]; simp [World.setCell]⟩
end
set_option maxHeartbeats 8000000 in
set_option maxRecDepth 100000 in
theorem reduce_any (w0 : World) (B m hi n wd q : Nat) (b : MM.Bs) (r : Nat → Nat) (hwd : wd ≤ 1000000000) (hr : ∀ i, r i < 18446744073709551616) (hh : hi ≤ B) (W : World) (hb : Bas W m hi n wd b) (hm : Mine w0 B wd r W) :
    Calls Tryd.prog 34 #[.agg (bCells m wd q), .slice (some ⟨B, 0, none⟩) wd wd] W fun e w' => e = .returned (.int .i64 (((MM.red q wd b wd r).1 : Nat) : Int)) ∧ Mine w0 B wd (MM.red q wd b wd r).2 w' ∧ Bas w' m hi n wd b ∧ Kept B W w' ∧ W.heap.size ≤ w'.heap.size := by
  have hBW := hm.lt
  have hbox := below_box W (Obj.cells (bCells m wd q) 47)
  have H0 : Hid (RedAt w0 W B W.heap.size m hi n wd q b r (W.alloc (Obj.cells (bCells m wd q) 47))) :=
    Lib.hid ⟨hm.step hbox, hb.step hbox, heap_alloc_new _ _, (Kept.refl B W).below hbox, World.size_alloc _ _⟩
  have HRL := Lib.hid hr
  have HP0 := Lib.hid (Eq.refl (MM.red q wd b wd r))
  clear hb hm hbox hr
  obtain ⟨res, hres⟩ : ∃ res, MM.red q wd b wd r = res := ⟨_, rfl⟩
  have HRES := Lib.hid hres
  have HW := Lib.hid hres
  clear HP0
  rw [hres]
  clear hres
  go_enter Tryd.func34, Tryd.ntmps34
  go_wp2_with fail
  go_loopw [11] (fun s11 wx => ∃ (k : Nat) (rf : Nat → Nat), k ≤ wd ∧ s11 = .int .i64 (k : Int) ∧ Hid (RedAt w0 W B W.heap.size m hi n wd q b rf wx) ∧ Hid (MM.red q wd b (wd - k) rf = res) ∧ Hid (∀ i, rf i < 18446744073709551616)) (fun s11 _ => wd - (RowKit.intOf s11).toNat)
  case atStart => exact ⟨0, r, Nat.zero_le _, rfl, H0, HRES, HRL⟩
  case round =>
    clear H0 HRES HRL HW
    obtain ⟨k, rf, hk, rfl, HJ, HR, HL⟩ := hrel
    by_cases hlt : k < wd
    · have hc := HJ.out.mine.cell hlt
      by_cases h0 : rf k = 0
      · have hz : ((rf k : Int) == 0) = true := by simp; omega
        have HR2 := Lib.hid ((MM.red_zero hlt h0).symm.trans HR.out)
        clear h0
        go_wp2_with fail
        clear hc
        go_roundw
        case rel => exact ⟨k + 1, rf, by omega, by go_num, HJ, HR2, HL⟩
        case measure => simp [RowKit.intOf]; omega
      · have hz : ((rf k : Int) == 0) = false := by simp; omega
        obtain ⟨v, hrun, hst⟩ := HJ.out.bas.look (j := k) (by omega)
        have hrw := HJ.out.box.rows
        cases hb : b k with
        | none =>
          obtain rfl := hst.1 hb
          have hnl := nil_yes wr
          have HR2 := Lib.hid ((MM.red_none hlt h0 hb).symm.trans HR.out)
          clear h0 hb hst
          go_wp2_with fail
          go_ret
          have e := HR2.out
          subst e
          exact ⟨rfl, HJ.out.mine, HJ.out.bas, HJ.out.kept, by rw [HJ.out.size]; omega⟩
        | some ind =>
          obtain ⟨g, rfl, hg1, hg2, hg3⟩ := hst.2 ind hb
          have hnl := nil_no wr ⟨g, 0, none⟩ wd wd
          have HR2 := Lib.hid ((MM.red_some hlt h0 hb).symm.trans HR.out)
          have HC : Hid (Cells W g wd ind) := Lib.hid (hg3.of (HJ.out.kept g (by omega) (by omega)).symm)
          have HIL := Lib.hid (HJ.out.bas.lts k ind hb)
          have hq := HJ.out.box.num
          have HS : Ret 49 #[.int .u64 0, .int .u64 (rf k : Int), .int .u64 (q : Int)] (.int .u64 ((MM.subU 0 (rf k) q : Nat) : Int)) := ret_subU 0 (rf k) q
          have HTL := Lib.hid (MM.subU_lt 0 (rf k) q)
          generalize htt : MM.subU 0 (rf k) q = tt at *
          have HST : Hid (∀ a, RedAt w0 W B W.heap.size m hi n wd q b (MM.rowAdd q tt k rf ind k) (wr.drewN a)) := Lib.hid fun a => by rw [rowAdd_zero]; exact HJ.out.drewN a
          clear h0 hb hst hg3 htt
          go_upto_region 8 with fail
          clear hrun hrw hz hnl
          have h00 : (0 : Int) ≤ (k : Int) := Int.natCast_nonneg _
          have h01 : (k : Int) < (wd : Int) := by omega
          go_quiet ((go_at_call 49; exact HS.quiet))
          clear hc hq HS h00 h01
          go_wp2_with fail
          have HS0 := Lib.hid (HST.out nq)
          clear HST HJ
          go_loopw [8] (fun s8 wx => ∃ i : Nat, k ≤ i ∧ i ≤ wd ∧ s8 = .int .i64 (i : Int) ∧ Hid (RedAt w0 W B W.heap.size m hi n wd q b (MM.rowAdd q tt k rf ind i) wx)) (fun s8 _ => wd - (RowKit.intOf s8).toNat)
          case atStart => exact ⟨k, Nat.le_refl _, hk, rfl, HS0⟩
          case round =>
            clear HS0
            obtain ⟨i, hki, hiw, rfl, HI⟩ := hrel
            by_cases hlt2 : i < wd
            · have hc := HI.out.mine.cell hlt2
              rw [rowAdd_at (Nat.le_refl _)] at hc
              have hci := (HC.out.of (HI.out.kept g (by omega) (by omega))).cell hlt2
              have hq := HI.out.box.num
              have hfr := HI.out.mine.free i
              have HM := ret_mulU tt (ind i) q HTL.out (HIL.out i)
              have HA := ret_addU (rf i) (MM.mulU tt (ind i) q) q
              have HNN : Hid (∀ a, RedAt w0 W B W.heap.size m hi n wd q b (MM.rowAdd q tt k rf ind (i + 1)) ((wr.drewN a).setCell ⟨B, i, none⟩ (.int .u64 ((MM.addU (rf i) (MM.mulU tt (ind i) q) q : Nat) : Int)))) := Lib.hid fun a => (HI.out.drewN a).set hh (by omega) i _ fun j hj => by
                by_cases e : j = i
                · subst e; rw [if_pos rfl]; exact rowAdd_new hki
                · rw [if_neg e]; exact rowAdd_else e
              generalize hv1 : MM.mulU tt (ind i) q = x1 at *
              generalize hv2 : MM.addU (rf i) x1 q = x2 at *
              generalize hv3 : rf i = x0 at *
              generalize hv4 : ind i = x4 at *
              clear hv1 hv2 hv3 hv4
              go_upto_region 12 with fail
              have h00 : (0 : Int) ≤ (i : Int) := Int.natCast_nonneg _
              have h01 : (i : Int) < (wd : Int) := by omega
              refine QT.region 18 (by kernel_rfl) (by kernel_rfl) ?_
              simp only [List.take_succ_cons, List.take_zero, List.drop_succ_cons, List.drop_zero]
              repeat (quiet_step ((first | (go_at_call 16; exact (HM).quiet) | (go_at_call 26; exact (HA).quiet))))
              refine wpQuiet_nil ?_
              intro nq2
              clear HM HA hci hq
              go_wp2_with fail
              clear h00 h01 hfr hc
              go_roundw
              case rel => exact ⟨i + 1, by omega, by omega, by go_num, Lib.hid (HNN.out nq2)⟩
              case measure => simp [RowKit.intOf]; omega
            · obtain rfl : i = wd := by omega
              have HRL := Lib.hid (fun j => MM.rowAdd_lt (q := q) (t := tt) (f := k) (ind := ind) (n := i) HL.out j)
              go_wp2_with fail
              go_roundw
              case rel => exact ⟨k + 1, _, by omega, by go_num, HI, HR2, HRL⟩
              case measure => simp [RowKit.intOf]; omega
    · obtain rfl : k = wd := by omega
      have hw := HJ.out.box.width
      have e := HR.out
      rw [MM.red_end] at e
      go_wp2_with fail
      go_ret
      subst e
      exact ⟨rfl, HJ.out.mine, HJ.out.bas, HJ.out.kept, by rw [HJ.out.size]; omega⟩
end M
end Go.Proofs.YtflkmjihgfjofaaDoor
