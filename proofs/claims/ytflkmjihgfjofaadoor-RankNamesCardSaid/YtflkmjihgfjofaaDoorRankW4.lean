/- The walk of unknowns. -/
import Derived.Test.YtflkmjihgfjofaaDoorRankW3
namespace Go.Proofs.YtflkmjihgfjofaaDoor
open Go Go.RowKit Go.Lib
namespace M
theorem Cells.setCell {w : World} {B g n : Nat} {z : Nat → Nat} (h : Cells w g n z) (hne : g ≠ B) (i : Nat) (v : Value) : Cells (w.setCell ⟨B, i, none⟩ v) g n z := h.of (Below.heap_setCell w ⟨B, i, none⟩ v g hne)
theorem Cells.drewN {w : World} {g n : Nat} {z : Nat → Nat} (h : Cells w g n z) (i : Nat) : Cells (w.drewN i) g n z := h
/-- The state of unknowns between two steps. -/
structure UnkAt (w0 : World) (B g m hi c n q : Nat) (b : MM.Bs) (r : Nat → Nat) (w : World) : Prop where
  mine : Mine w0 B n r w
  bas : Bas w m hi c (n + 1) b
  box : Boxed w g m (n + 1) q
section
variable {w0 w : World} {B g m hi c n q : Nat} {b : MM.Bs} {r y : Nat → Nat}
theorem UnkAt.drewN (h : UnkAt w0 B g m hi c n q b r w) (i : Nat) : UnkAt w0 B g m hi c n q b r (w.drewN i) := ⟨h.mine.drewN i, h.bas.drewN i, h.box⟩
theorem UnkAt.congr (h : UnkAt w0 B g m hi c n q b r w) (e : ∀ k, k < n → r k = y k) : UnkAt w0 B g m hi c n q b y w := ⟨h.mine.congr e, h.bas, h.box⟩
theorem UnkAt.set (h : UnkAt w0 B g m hi c n q b r w) (hh : hi ≤ B) (hg : g ≠ B) (k x : Nat) (hy : ∀ j, j < n → y j = if j = k then x else r j) : UnkAt w0 B g m hi c n q b y (w.setCell ⟨B, k, none⟩ (.int .u64 (x : Int))) :=
  ⟨h.mine.set k x hy, h.bas.setCell hh _ _, h.box.setCell hg _ _⟩
end
theorem subsU_lt {q n : Nat} {eq s : Nat → Nat} : ∀ c v, v < 18446744073709551616 → MM.subsU q n eq s c v < 18446744073709551616
  | 0, _, h => h
  | c + 1, _, _ => subsU_lt c _ (MM.subU_lt _ _ _)
set_option maxHeartbeats 8000000 in
set_option maxRecDepth 100000 in
theorem unknowns_any (m hi c n q : Nat) (b : MM.Bs) (hn : n ≤ 100000000) (W : World) (hb : Bas W m hi c (n + 1) b) :
    Calls Tryd.prog 33 #[.agg (bCells m (n + 1) q)] W fun e w' => ∃ B, e = .returned (.slice (some ⟨B, 0, none⟩) n n) ∧ Mine W B n (MM.unkU q n b n (fun _ => 0)) w' := by
  have hmk0 : ∃ W2, (Instr.makeSlice 25 (.int .i64 (n : Int)) (.int .i64 (n : Int))).run Tryd.prog (W.alloc (Obj.cells (bCells m (n + 1) q) 47)) = .ok (.slice (some ⟨W.heap.size + 1, 0, none⟩) n n) W2 ∧ UnkAt W (W.heap.size + 1) W.heap.size m hi c n q b (fun _ => 0) W2 := by
    obtain ⟨W1, hW1⟩ : ∃ W1, W.alloc (Obj.cells (bCells m (n + 1) q) 47) = W1 := ⟨_, rfl⟩
    have hb1 : Below W.heap.size W W1 := hW1 ▸ below_box _ _
    have hs1 : W1.heap.size = W.heap.size + 1 := by rw [← hW1, World.size_alloc]
    have hx1 : Boxed W1 W.heap.size m (n + 1) q := by rw [← hW1]; exact heap_alloc_new _ _
    have h1 := run_made n (by omega) W1
    have h2 := Mine.made W1 n
    have h3 := below_box W1 (.cells (madeCells (Value.int .u64 0).cells (n * 1)) 24)
    rw [hs1] at h1 h2
    rw [hW1]
    exact ⟨_, h1, h2.low' hb1, (hb.step hb1).step h3, hx1.of (h3.block _ (by omega))⟩
  obtain ⟨W2, hmk1, hst⟩ := hmk0
  have hhB : hi ≤ W.heap.size + 1 := by have := hb.top; omega
  have hgB : W.heap.size ≠ W.heap.size + 1 := by omega
  have hc1 : ((n + 1 : Nat) : Int) - 1 = (n : Int) := by omega
  have hc2 : ((n : Int) + 1) - 1 = (n : Int) := by omega
  have HU := Lib.hid hst
  clear hst hb
  obtain ⟨sol, hsol⟩ : ∃ sol, MM.unkU q n b n (fun _ => 0) = sol := ⟨_, rfl⟩
  have HSOL := Lib.hid hsol
  rw [hsol]
  clear hsol
  go_enter Tryd.func33, Tryd.ntmps33
  go_wp2_with fail
  clear hmk1
  clear hc1 hc2
  go_loopw [5] (fun s5 wx => ∃ (k : Nat) (jI : Int) (s : Nat → Nat), k ≤ n ∧ jI = (k : Int) - 1 ∧ s5 = .int .i64 jI ∧ Hid (UnkAt W (W.heap.size + 1) W.heap.size m hi c n q b s wx) ∧ Hid (MM.unkU q n b k s = sol) ∧ Hid (∀ i, s i < 18446744073709551616)) (fun s5 _ => (RowKit.intOf s5 + 1).toNat)
  case atStart => exact ⟨n, _, _, Nat.le_refl _, rfl, rfl, HU, HSOL, Lib.hid fun _ => by omega⟩
  case round =>
    clear HU HSOL
    obtain ⟨k, jI, s, hk, hjI, rfl, HJ, HS, HL⟩ := hrel
    cases k with
    | zero =>
      have hneg : ¬ (0 : Int) ≤ jI := by omega
      clear hjI
      go_wp2_with fail
      go_ret
      have e := HS.out
      subst e
      exact ⟨_, rfl, HJ.out.mine⟩
    | succ j =>
      obtain rfl : jI = (j : Int) := by omega
      obtain ⟨v, hrun, hst⟩ := HJ.out.bas.look (j := j) (by omega)
      have hrw := HJ.out.box.rows
      cases hb : b j with
      | none =>
        obtain rfl := hst.1 hb
        have hnl := nil_yes wr
        have HS2 : Hid (MM.unkU q n b j s = sol) := Lib.hid (by have e := HS.out; unfold MM.unkU at e; rw [hb] at e; exact e)
        clear hb hst hjI
        go_wp2_with fail
        clear hrun hrw hnl
        go_roundw
        case rel => exact ⟨j, _, s, by omega, rfl, rfl, HJ, HS2, HL⟩
        case measure => simp [RowKit.intOf]
      | some eq =>
        obtain ⟨g, rfl, hg1, hg2, hg3⟩ := hst.2 eq hb
        have hnl := nil_no wr ⟨g, 0, none⟩ (n + 1) (n + 1)
        have HS2 : Hid (MM.unkU q n b j (fun i => if i = j then MM.subsU q n eq s (n - (j + 1)) (eq n) else s i) = sol) := Lib.hid (by have e := HS.out; unfold MM.unkU at e; rw [hb] at e; exact e)
        have HEL := Lib.hid (HJ.out.bas.lts j eq hb)
        have HC := Lib.hid hg3
        have hen := hg3.cell (Nat.lt_succ_self n)
        have hjn : j < n := by omega
        have hcj := HJ.out.mine.cell hjn
        have hfr := HJ.out.mine.free j
        have hgB2 : g ≠ W.heap.size + 1 := by omega
        have HU1 : Hid (UnkAt W (W.heap.size + 1) W.heap.size m hi c n q b (fun i => if i = j then eq n else s i) (wr.setCell ⟨W.heap.size + 1, j, none⟩ (.int .u64 ((eq n : Nat) : Int)))) := Lib.hid (HJ.out.set hhB hgB j _ fun i _ => rfl)
        have HC1 : Hid (Cells (wr.setCell ⟨W.heap.size + 1, j, none⟩ (.int .u64 ((eq n : Nat) : Int))) g (n + 1) eq) := Lib.hid (HC.out.setCell hgB2 _ _)
        have HV := Lib.hid (HEL.out n)
        have HSV := Lib.hid (Eq.refl (MM.subsU q n eq s (n - (j + 1)) (eq n)))
        obtain ⟨fin, hfin⟩ : ∃ fin, MM.subsU q n eq s (n - (j + 1)) (eq n) = fin := ⟨_, rfl⟩
        have HFIN := Lib.hid hfin
        rw [hfin] at HS2
        have HFL : Hid (fin < 18446744073709551616) := Lib.hid (by rw [← hfin]; exact subsU_lt _ _ (HEL.out n))
        clear hb hst hg3 HJ HC hfin hjI HSV
        generalize hen0 : eq n = v0 at *
        clear hen0
        go_wp2_with fail
        clear hrun hrw hnl hcj hfr hen
        have HJ0 : Hid (UnkAt W (W.heap.size + 1) W.heap.size m hi c n q b (fun i => if i = j then v0 else s i) (wr.setCell ⟨W.heap.size + 1, j, none⟩ (.int .u64 (v0 : Int)))) := HU1
        clear HU1
        go_loopw [7] (fun s7 wx => ∃ i v : Nat, j + 1 ≤ i ∧ i ≤ n ∧ s7 = .int .i64 (i : Int) ∧ Hid (UnkAt W (W.heap.size + 1) W.heap.size m hi c n q b (fun i => if i = j then v else s i) wx) ∧ Hid (Cells wx g (n + 1) eq) ∧ Hid (MM.subsU q n eq s (n - i) v = fin)) (fun s7 _ => n - (RowKit.intOf s7).toNat)
        case atStart => exact ⟨j + 1, v0, Nat.le_refl _, by omega, by go_num, HJ0, HC1, HFIN⟩
        case round =>
          clear HJ0 HC1 HFIN HV
          obtain ⟨i, v, hji, hin, rfl, HJ, HC, HF⟩ := hrel
          by_cases hlt : i < n
          · have hcv := HJ.out.mine.cell hjn
            rw [if_pos rfl] at hcv
            have hci := HJ.out.mine.cell hlt
            rw [if_neg (by omega)] at hci
            have hce := HC.out.cell (show i < n + 1 by omega)
            have hq := HJ.out.box.num
            have hfr := HJ.out.mine.free j
            have HM := ret_mulU (eq i) (s i) q (HEL.out i) (HL.out i)
            have HB := ret_subU v (MM.mulU (eq i) (s i) q) q
            have HF2 := Lib.hid ((MM.subsU_step hlt).symm.trans HF.out)
            have HNN : Hid (∀ a, UnkAt W (W.heap.size + 1) W.heap.size m hi c n q b (fun k => if k = j then MM.subU v (MM.mulU (eq i) (s i) q) q else s k) ((wr.drewN a).setCell ⟨W.heap.size + 1, j, none⟩ (.int .u64 ((MM.subU v (MM.mulU (eq i) (s i) q) q : Nat) : Int)))) := Lib.hid fun a => (HJ.out.drewN a).set hhB hgB j _ fun k hk => by
              by_cases e : k = j
              · rw [if_pos e, if_pos e]
              · rw [if_neg e, if_neg e, if_neg e]
            have HCN : Hid (∀ a, Cells ((wr.drewN a).setCell ⟨W.heap.size + 1, j, none⟩ (.int .u64 ((MM.subU v (MM.mulU (eq i) (s i) q) q : Nat) : Int))) g (n + 1) eq) := Lib.hid fun a => (HC.out.drewN a).setCell hgB2 _ _
            generalize hv1 : MM.mulU (eq i) (s i) q = x1 at *
            generalize hv2 : MM.subU v x1 q = x2 at *
            generalize hv3 : eq i = x3 at *
            generalize hv4 : s i = x4 at *
            clear hv1 hv2 hv3 hv4 HJ HC HF
            go_upto_region 12 with fail
            have h00 : (0 : Int) ≤ (i : Int) := Int.natCast_nonneg _
            have h01 : (i : Int) < (n : Int) := by omega
            have h02 : (i : Int) < (n : Int) + 1 := by omega
            have h03 : (0 : Int) ≤ (j : Int) := Int.natCast_nonneg _
            have h04 : (j : Int) < (n : Int) := by omega
            refine QT.region 21 (by kernel_rfl) (by kernel_rfl) ?_
            simp only [List.take_succ_cons, List.take_zero, List.drop_succ_cons, List.drop_zero]
            repeat (quiet_step ((first | (go_at_call 16; exact (HM).quiet) | (go_at_call 49; exact (HB).quiet))))
            refine wpQuiet_nil ?_
            intro nq2
            clear HM HB hci hce hq
            go_wp2_with fail
            clear h00 h01 h02 h03 h04 hfr hcv
            go_roundw
            case rel => exact ⟨i + 1, x2, by omega, by omega, by go_num, Lib.hid (HNN.out nq2), Lib.hid (HCN.out nq2), HF2⟩
            case measure => simp [RowKit.intOf]; omega
          · obtain rfl : i = n := by omega
            have e : v = fin := by have e := HF.out; rw [MM.subsU_end] at e; exact e
            subst e
            have hvl := HFL.out
            go_wp2_with fail
            go_roundw
            case rel => exact ⟨j, _, _, by omega, rfl, rfl, HJ, HS2, Lib.hid fun i => by
              by_cases e : i = j
              · rw [if_pos e]; exact hvl
              · rw [if_neg e]; exact HL.out i⟩
            case measure => simp [RowKit.intOf]
end M
end Go.Proofs.YtflkmjihgfjofaaDoor
