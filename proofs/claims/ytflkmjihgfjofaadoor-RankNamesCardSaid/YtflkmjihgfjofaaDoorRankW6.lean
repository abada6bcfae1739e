/- The walk of rank.Hangs. -/
import Derived.Test.YtflkmjihgfjofaaDoorRankW5
namespace Go.Proofs.YtflkmjihgfjofaaDoor
open Go Go.RowKit Go.Lib
namespace M
set_option maxHeartbeats 8000000 in
set_option maxRecDepth 100000 in
theorem hangs_yes (ao ro : Option Addr) (cap rc q : Nat) (rows : List (List Nat)) (row : List Nat) (hrl : row.length ≤ 1000000) (hrlt : ∀ x ∈ row, x < 18446744073709551616) (hn : rows.length ≤ 1000000) (hlen : ∀ r ∈ rows, r.length ≤ 1000000) (hlt : ∀ r ∈ rows, ∀ x ∈ r, x < 18446744073709551616) (hq : MM.primeOf q = true) (W : World) (hl : Laid W) (hr : NRows W ao rows) (hrr : Rd W ro row.length (MM.ofL row)) :
    Calls Tryd.prog 14 #[.slice ao rows.length cap, .slice ro row.length rc, .int .u64 (q : Int)] W fun e w' => e = .returned (.bool (MM.hangsU rows row q)) ∧ Below W.heap.size W w' := by
  have HP := Lib.hid (ret_prime q true hq)
  have HL := Lib.hid hl
  have HR := Lib.hid hr
  have HLEN := Lib.hid hlen
  have HLT := Lib.hid hlt
  have HWD := Lib.hid (widest_any ao cap rows.length rows rfl hn hlen)
  have HROW := Lib.hid (And.intro (fun i => MM.ofL_lt hrlt i) (And.intro (fun i h => MM.ofL_out (l := row) (k := i) h) hrr))
  have hwd0 : MM.widU rows ≤ 1000000 := MM.widU_le hlen
  obtain ⟨wd, hwd1⟩ : ∃ wd, max (MM.widU rows) row.length = wd := ⟨_, rfl⟩
  have hwd : wd ≤ 1000000 := by omega
  have hmx : max ((MM.widU rows : Nat) : Int) ((row.length : Nat) : Int) = (wd : Int) := by omega
  have hww : MM.widU rows ≤ wd := by omega
  have hrw0 : row.length ≤ wd := by omega
  have HNB := Lib.hid (newBasis_any wd q)
  have HHU : Hid (MM.hangsU rows row q = ((MM.red q wd (MM.allB q wd rows).2 wd (MM.wideU q (MM.ofL row))).1 == wd)) := Lib.hid (by unfold MM.hangsU; rw [hwd1])
  obtain ⟨n, hN⟩ : ∃ n, rows.length = n := ⟨_, rfl⟩
  rw [hN] at HWD hn ⊢
  have HN := Lib.hid hN
  clear hl hq hr hlen hlt hN hwd1 hrl hrlt hrr hwd0
  go_enter Tryd.func14, Tryd.ntmps14
  go_wp2_with (first | (go_at_call 28; (with_reducible refine (HP.out.at _ HL.out).mono ?_); rintro e w' ⟨rfl, n0, rfl⟩) | (go_at_call 30; (with_reducible refine (HWD.out _ (HR.out.below (below_drewN' _ _ _))).mono ?_); rintro e w' ⟨rfl, rfl⟩) | (go_at_call 29; (with_reducible refine (HNB.out _).mono ?_); rintro e w' ⟨m, rfl, hb, hm, hbas⟩; have HB := Lib.hid hb; have HBAS := Lib.hid hbas; clear hb hbas))
  have hmg : w'.heap.size ≠ m := by have := HBAS.out.lt; omega
  have HS0 : Hid (RkAt W w'.heap.size m wd q (MM.allB q wd (rows.take 0)) (w'.alloc (Obj.cells (bCells m wd q) 47))) :=
    Lib.hid ⟨(below_drewN' W n0 _).trans (HB.out.trans ((below_box w' _).mono HB.out.size)), hm, hmg, heap_alloc_new _ _, (HBAS.out.alloc _).up (by simp) (Nat.le_refl _)⟩
  generalize w'.heap.size = g at *
  have HWW := Lib.hid hww
  clear hmx hww HB HBAS HWD HNB HP hm hmg
  go_loopw [22] (fun s17 wx => ∃ k : Nat, k ≤ n ∧ s17 = .int .i64 (k : Int) ∧ Hid (RkAt W g m wd q (MM.allB q wd (rows.take k)) wx)) (fun s17 _ => n - (RowKit.intOf s17).toNat)
  case atStart => exact ⟨0, Nat.zero_le _, rfl, HS0⟩
  case round =>
    clear HS0
    obtain ⟨k, hk, rfl, HJ⟩ := hrel
    by_cases hlt : k < n
    · have hkr : k < rows.length := by have := HN.out; omega
      obtain ⟨ad, bo, c, rfl, hc, hrd⟩ := (HR.out.below HJ.out.below) k hkr
      have HRD := Lib.hid hrd
      have HST := Lib.hid (allB_take (q := q) (w := wd) hkr)
      have HZL := Lib.hid (fun i => getD_mem_lt HLT.out k i)
      have hle : (rows.getD k []).length ≤ wd := by rw [List.getD_eq_getElem?_getD, List.getElem?_eq_getElem hkr]; exact Nat.le_trans (MM.widU_ge (List.getElem_mem hkr)) HWW.out
      have hcl : (MM.allB q wd (rows.take k)).1 ≤ 1000000000 := by have := allB_le (q := q) (w := wd) (rows.take k); rw [List.length_take] at this; omega
      have HZ0 : Hid (∀ i, (rows.getD k []).length ≤ i → MM.ofL (rows.getD k []) i = 0) := Lib.hid fun i h => MM.ofL_out h
      clear hrd hkr
      generalize MM.ofL (rows.getD k []) = z at *
      generalize (rows.getD k []).length = len at *
      generalize MM.allB q wd (rows.take k) = s at *
      go_upto_region 7 with fail
      refine RK.region (fun w => Boxed w g m wd q) 100 (by kernel_rfl) ?_
      have HD : Hid (RkAt W g m wd q s wr.drew) := Lib.hid (HJ.out.drewN 1)
      have HRD2 : Hid (Rd wr.drew bo len z) := HRD
      have hS0 : Boxed wr.drew g m wd q := HD.out.box
      refine RK.Any.take 0 26 (.agg (bCells m wd q)) rfl rfl (by kernel_rfl) (by kernel_rfl) (by kernel_rfl) (by kernel_rfl) (fun _ _ _ h => h) (by rfl) (fun W' hb => load_box hb rfl rfl) hS0 ?_
      simp only [List.setIfInBounds_toArray, List.set_cons_zero, List.set_cons_succ]
      refine RK.Any.take 1 27 (.agg (bCells m wd q)) rfl rfl (by kernel_rfl) (by kernel_rfl) (by kernel_rfl) (by kernel_rfl) (fun _ _ _ h => h) (by rfl) (fun W' hb => load_box hb rfl rfl) hS0 ?_
      simp only [List.setIfInBounds_toArray, List.set_cons_zero, List.set_cons_succ]
      refine RK.Any.take 2 28 (.slice bo len c) rfl rfl (by kernel_rfl) (by kernel_rfl) (by kernel_rfl) (by kernel_rfl) (fun _ _ _ h => h) (by rfl) (fun W' hb => ?_) hS0 ?_
      · go_simp
      simp only [List.setIfInBounds_toArray, List.set_cons_zero, List.set_cons_succ]
      refine RK.Any.call 3 29 32 #[.agg (bCells m wd q), .slice bo len c] (by kernel_rfl) rfl rfl (by rfl) (by go_simp) (Calls.mono (wide_any m wd q len c bo z HZL.out HZ0.out hle (by omega) wr.drew HRD2.out) ?_)
      rintro e w1 ⟨B, rfl, hmine⟩
      have hS1 : Boxed w1 g m wd q := HD.out.box.of (hmine.below.block g (row_lt HD.out.box))
      refine ⟨_, rfl, fun _ => hS1, ?_⟩
      simp only [List.setIfInBounds_toArray, List.set_cons_zero, List.set_cons_succ]
      refine RK.Any.call 4 30 31 #[.agg (bCells m wd q), .slice (some ⟨B, 0, none⟩) wd wd] (by kernel_rfl) rfl rfl (by rfl) (by go_simp) (Calls.mono (HD.out.adds hmine (by omega) hcl (wideU_lt q z)) ?_)
      rintro e w2 hadd
      obtain rfl := hadd.1
      have HJ2 : Hid (RkAt W g m wd q (MM.allB q wd (rows.take (k + 1))) w2) := Lib.hid (by rw [HST.out]; exact HD.out.next hmine hadd)
      refine ⟨_, rfl, fun _ => HJ2.out.box, ?_⟩
      simp only [List.setIfInBounds_toArray, List.set_cons_zero, List.set_cons_succ]
      refine RK.Any.done (by kernel_rfl) ?_
      clear hadd hmine hS1 hS0 HD HRD2 HRD HJ HZL HZ0 HST hc
      go_wp2_with fail
      go_roundw
      case rel => exact ⟨k + 1, by omega, by go_num, HJ2⟩
      case measure => simp [RowKit.intOf]; omega
    · obtain rfl : k = n := by omega
      have HE : Hid (MM.allB q wd (rows.take k) = MM.allB q wd rows) := Lib.hid (by rw [List.take_of_length_le (by have := HN.out; omega)])
      rw [HE.out] at HJ
      clear HE HR HLEN HLT HN
      obtain ⟨HZL, HZ0, HRD⟩ : Hid (∀ i, MM.ofL row i < 18446744073709551616) ∧ Hid (∀ i, row.length ≤ i → MM.ofL row i = 0) ∧ Hid (Rd W ro row.length (MM.ofL row)) := HROW.out
      clear HROW
      generalize MM.ofL row = z at *
      generalize row.length = len at *
      generalize MM.allB q wd rows = s at *
      go_upto_region 9 with fail
      refine RK.region (fun w => Boxed w g m wd q) 100 (by kernel_rfl) ?_
      have HD : Hid (RkAt W g m wd q s wr.drew) := Lib.hid (HJ.out.drewN 1)
      have HRD2 : Hid (Rd wr.drew ro len z) := Lib.hid (HRD.out.below HD.out.below)
      have hS0 : Boxed wr.drew g m wd q := HD.out.box
      refine RK.Any.take 0 32 (.agg (bCells m wd q)) rfl rfl (by kernel_rfl) (by kernel_rfl) (by kernel_rfl) (by kernel_rfl) (fun _ _ _ h => h) (by rfl) (fun W' hb => load_box hb rfl rfl) hS0 ?_
      simp only [List.setIfInBounds_toArray, List.set_cons_zero, List.set_cons_succ]
      refine RK.Any.take 1 33 (.agg (bCells m wd q)) rfl rfl (by kernel_rfl) (by kernel_rfl) (by kernel_rfl) (by kernel_rfl) (fun _ _ _ h => h) (by rfl) (fun W' hb => load_box hb rfl rfl) hS0 ?_
      simp only [List.setIfInBounds_toArray, List.set_cons_zero, List.set_cons_succ]
      refine RK.Any.take 2 34 (.slice ro len rc) rfl rfl (by kernel_rfl) (by kernel_rfl) (by kernel_rfl) (by kernel_rfl) (fun _ _ _ h => h) (by rfl) (fun W' hb => ?_) hS0 ?_
      · go_simp
      simp only [List.setIfInBounds_toArray, List.set_cons_zero, List.set_cons_succ]
      refine RK.Any.take 5 37 (.pointer (some ⟨g, 1, none⟩)) rfl rfl (by kernel_rfl) (by kernel_rfl) (by kernel_rfl) (by kernel_rfl) (fun _ _ _ h => h) (by rfl) (fun W' hb => ?_) hS0 ?_
      · go_simp
      simp only [List.setIfInBounds_toArray, List.set_cons_zero, List.set_cons_succ]
      refine RK.Any.take 6 38 (.int .i64 (wd : Int)) rfl rfl (by kernel_rfl) (by kernel_rfl) (by kernel_rfl) (by kernel_rfl) (fun _ _ _ h => h) (by rfl) (fun W' hb => ?_) hS0 ?_
      · have c := hb.width; go_simp
      simp only [List.setIfInBounds_toArray, List.set_cons_zero, List.set_cons_succ]
      refine RK.Any.call 3 35 32 #[.agg (bCells m wd q), .slice ro len rc] (by kernel_rfl) rfl rfl (by rfl) (by go_simp) (Calls.mono (wide_any m wd q len rc ro z HZL.out HZ0.out hrw0 (by omega) wr.drew HRD2.out) ?_)
      rintro e w1 ⟨B, rfl, hmine⟩
      have hS1 : Boxed w1 g m wd q := HD.out.box.of (hmine.below.block g (row_lt HD.out.box))
      refine ⟨_, rfl, fun _ => hS1, ?_⟩
      simp only [List.setIfInBounds_toArray, List.set_cons_zero, List.set_cons_succ]
      have hgB : g ≠ B := by have := row_lt HD.out.box; have := hmine.low; omega
      have HBT : Hid (Below W.heap.size W w1) := Lib.hid (hmine.low' HD.out.below).below
      refine RK.Any.call 4 36 34 #[.agg (bCells m wd q), .slice (some ⟨B, 0, none⟩) wd wd] (by kernel_rfl) rfl rfl (by rfl) (by go_simp) (Calls.mono (reduce_any W B m wr.drew.heap.size s.1 wd q s.2 (MM.wideU q z) (by omega) (wideU_lt q z) hmine.low w1 (HD.out.bas.step hmine.below) (hmine.low' HD.out.below)) ?_)
      rintro e w2 ⟨rfl, hm2, hb2, hk2, hs2⟩
      have hS2 : Boxed w2 g m wd q := hS1.of (hk2 g (row_lt hS1) hgB)
      refine ⟨_, rfl, fun _ => hS2, ?_⟩
      simp only [List.setIfInBounds_toArray, List.set_cons_zero, List.set_cons_succ]
      have HE : Hid ((((MM.red q wd s.2 wd (MM.wideU q z)).1 : Int) == (wd : Int)) = MM.hangsU rows row q) := Lib.hid (by rw [HHU.out, Bool.eq_iff_iff]; simp; omega)
      clear HHU
      generalize (MM.red q wd s.2 wd (MM.wideU q z)).1 = f at *
      refine RK.Any.take 7 39 (.bool ((f : Int) == (wd : Int))) rfl rfl (by kernel_rfl) (by kernel_rfl) (by kernel_rfl) (by kernel_rfl) (fun _ _ _ h => h) (by rfl) (fun W' hb => ?_) hS2 ?_
      · go_simp
      simp only [List.setIfInBounds_toArray, List.set_cons_zero, List.set_cons_succ]
      refine RK.Any.take 8 6 (.bool ((f : Int) == (wd : Int))) rfl rfl (by kernel_rfl) (by kernel_rfl) (by kernel_rfl) (by kernel_rfl) (fun _ _ _ h => h) (by rfl) (fun W' hb => ?_) hS2 ?_
      · go_simp
      simp only [List.setIfInBounds_toArray, List.set_cons_zero, List.set_cons_succ]
      refine RK.Any.done (by kernel_rfl) ?_
      have HBL := Lib.hid hm2.below
      clear hm2 hb2 hk2 hs2 hmine hS1 hS0 hS2 HD HRD2 HRD HJ HZL HZ0
      go_wp2_with fail
      go_ret
      exact ⟨by rw [← HE.out]; rfl, HBL.out⟩
end M
end Go.Proofs.YtflkmjihgfjofaaDoor
