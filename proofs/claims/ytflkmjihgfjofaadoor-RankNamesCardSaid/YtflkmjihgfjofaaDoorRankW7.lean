/- The walk of rank.Solve. -/
import Derived.Test.YtflkmjihgfjofaaDoorRankW6
namespace Go.Proofs.YtflkmjihgfjofaaDoor
open Go Go.RowKit Go.Lib
namespace MM
/-- The row of the i-th equation. -/
def eqnRow (q n : Nat) (right : List Nat) (rows : List (List Nat)) (i : Nat) : Nat → Nat := if i < right.length then eqnU q n (rows.getD i []) (ofL right i) else wideU q (ofL (rows.getD i []))
noncomputable def eqsK (q n : Nat) (right : List Nat) (rows : List (List Nat)) (k : Nat) : Nat × Bs := (List.range k).foldl (fun s i => addB q (n + 1) s (eqnRow q n right rows i)) noB
theorem eqsK_succ (q n : Nat) (right : List Nat) (rows : List (List Nat)) (k : Nat) : eqsK q n right rows (k + 1) = addB q (n + 1) (eqsK q n right rows k) (eqnRow q n right rows k) := by unfold eqsK; rw [List.range_succ, List.foldl_append]; rfl
theorem addB_le {q w : Nat} {s : Nat × Bs} {r : Nat → Nat} : (addB q w s r).1 ≤ s.1 + 1 := by
  unfold addB; split
  · omega
  · exact Nat.le_refl _
theorem eqsK_le {q n : Nat} {right : List Nat} {rows : List (List Nat)} : ∀ k, (eqsK q n right rows k).1 ≤ k
  | 0 => Nat.le_refl _
  | k + 1 => by rw [eqsK_succ]; exact Nat.le_trans addB_le (by have := eqsK_le (q := q) (n := n) (right := right) (rows := rows) k; omega)
noncomputable def eqsA (q : Nat) (right : List Nat) (rows : List (List Nat)) : Nat × Bs := eqsK q (widU rows) right rows rows.length
end MM
namespace M
theorem nil_not (w : World) : (binOp .neq 25 (.slice none 0 0) (.slice none 0 0)).run Tryd.prog w = .ok (.bool false) w := by
  rw [Go.run_neq_slice_nil_any w 25 24 none 0 0 0 0 Tryd.underlying25]; rfl
theorem nil_is (w : World) (a : Addr) (n c : Nat) : (binOp .neq 25 (.slice (some a) n c) (.slice none 0 0)).run Tryd.prog w = .ok (.bool true) w := by
  rw [Go.run_neq_slice_nil_any w 25 24 (some a) n c 0 0 Tryd.underlying25]; rfl
/-- What Solve tells: the solution in new memory, or that there is none. -/
def Solved (W : World) (q : Nat) (right : List Nat) (rows : List (List Nat)) (e : Ending) (w' : World) : Prop :=
  ((MM.eqsA q right rows).2 (MM.widU rows) = none ∧ ∃ B, e = .returned (.tuple #[.slice (some ⟨B, 0, none⟩) (MM.widU rows) (MM.widU rows), .int .i64 0]) ∧ Mine W B (MM.widU rows) (MM.unkU q (MM.widU rows) (MM.eqsA q right rows).2 (MM.widU rows) (fun _ => 0)) w') ∨
  ((MM.eqsA q right rows).2 (MM.widU rows) ≠ none ∧ e = .returned (.tuple #[.slice none 0 0, .int .i64 5]) ∧ Below W.heap.size W w')
set_option maxHeartbeats 2000000 in
theorem solve_no (ao bo : Option Addr) (n cap l c q : Nat) (hq : MM.primeOf q = false) (W : World) (hl : Laid W) :
    Calls Tryd.prog 13 #[.slice ao n cap, .slice bo l c, .int .u64 (q : Int)] W fun e w' => e = .returned (.tuple #[.slice none 0 0, .int .i64 1]) ∧ Below W.heap.size W w' := by
  have HP := Lib.hid (ret_prime q false hq)
  have HL := Lib.hid hl
  clear hl hq
  go_enter Tryd.func13, Tryd.ntmps13
  go_wp2_with (go_at_call 28; (with_reducible refine (HP.out.at _ HL.out).mono ?_); rintro e w' ⟨rfl, n, rfl⟩)
  go_ret2
  exact ⟨rfl, below_drewN' _ _ _⟩
set_option maxHeartbeats 2000000 in
theorem solve_many (ao bo : Option Addr) (n cap l c q : Nat) (hnl : n < l) (W : World) (hl : Laid W) :
    Calls Tryd.prog 13 #[.slice ao n cap, .slice bo l c, .int .u64 (q : Int)] W fun e w' => e = .returned (.tuple #[.slice none 0 0, .int .i64 1]) ∧ Below W.heap.size W w' := by
  cases hq : MM.primeOf q with
  | false => exact solve_no ao bo n cap l c q hq W hl
  | true =>
    have HP := Lib.hid (ret_prime q true hq)
    have HL := Lib.hid hl
    have h1 : (n : Int) < (l : Int) := by omega
    clear hl hq
    go_enter Tryd.func13, Tryd.ntmps13
    go_wp2_with (go_at_call 28; (with_reducible refine (HP.out.at _ HL.out).mono ?_); rintro e w' ⟨rfl, n, rfl⟩)
    go_ret2
    exact ⟨rfl, below_drewN' _ _ _⟩
set_option maxHeartbeats 8000000 in
set_option maxRecDepth 100000 in
theorem solve_yes (ao ro : Option Addr) (cap rc q : Nat) (rows : List (List Nat)) (right : List Nat) (hn : rows.length ≤ 1000000) (hlen : ∀ r ∈ rows, r.length ≤ 1000000) (hlt : ∀ r ∈ rows, ∀ x ∈ r, x < 18446744073709551616) (hrn : right.length ≤ rows.length) (hq : MM.primeOf q = true) (W : World) (hl : Laid W) (hr : NRows W ao rows) (hrr : Rd W ro right.length (MM.ofL right)) :
    Calls Tryd.prog 13 #[.slice ao rows.length cap, .slice ro right.length rc, .int .u64 (q : Int)] W (Solved W q right rows) := by
  have HP := Lib.hid (ret_prime q true hq)
  have HL := Lib.hid hl
  have HR := Lib.hid hr
  have HLEN := Lib.hid hlen
  have HLT := Lib.hid hlt
  have HRR := Lib.hid hrr
  have HWD := Lib.hid (widest_any ao cap rows.length rows rfl hn hlen)
  have hwd : MM.widU rows ≤ 1000000 := MM.widU_le hlen
  have hnb := newBasis_any (MM.widU rows + 1) q
  have e1 : ((MM.widU rows + 1 : Nat) : Int) = (MM.widU rows : Int) + 1 := by omega
  rw [e1] at hnb
  have HNB := Lib.hid hnb
  obtain ⟨n, hN⟩ : ∃ n, rows.length = n := ⟨_, rfl⟩
  rw [hN] at HWD hn hrn ⊢
  have HN := Lib.hid hN
  have hng : ¬ ((n : Int) < (right.length : Int)) := by omega
  clear hl hq hr hlen hlt hN hnb e1 hrr
  go_enter Tryd.func13, Tryd.ntmps13
  go_wp2_with (first | (go_at_call 28; (with_reducible refine (HP.out.at _ HL.out).mono ?_); rintro e w' ⟨rfl, n0, rfl⟩) | (go_at_call 30; (with_reducible refine (HWD.out _ (HR.out.below (below_drewN' _ _ _))).mono ?_); rintro e w' ⟨rfl, rfl⟩) | (go_at_call 29; (with_reducible refine (HNB.out _).mono ?_); rintro e w' ⟨m, rfl, hb, hm, hbas⟩; have HB := Lib.hid hb; have HBAS := Lib.hid hbas; clear hb hbas))
  have hmg : w'.heap.size ≠ m := by have := HBAS.out.lt; omega
  have HS0 : Hid (RkAt W w'.heap.size m (MM.widU rows + 1) q (MM.eqsK q (MM.widU rows) right rows 0) (w'.alloc (Obj.cells (bCells m (MM.widU rows + 1) q) 47))) :=
    Lib.hid ⟨(below_drewN' W n0 _).trans (HB.out.trans ((below_box w' _).mono HB.out.size)), hm, hmg, heap_alloc_new _ _, (HBAS.out.alloc _).up (by simp) (Nat.le_refl _)⟩
  have HEA : Hid (MM.eqsK q (MM.widU rows) right rows n = MM.eqsA q right rows) := Lib.hid (by unfold MM.eqsA; rw [HN.out])
  have HSD : Hid (∀ e w', ((MM.eqsA q right rows).2 (MM.widU rows) = none ∧ ∃ B, e = .returned (.tuple #[.slice (some ⟨B, 0, none⟩) (MM.widU rows) (MM.widU rows), .int .i64 0]) ∧ Mine W B (MM.widU rows) (MM.unkU q (MM.widU rows) (MM.eqsA q right rows).2 (MM.widU rows) (fun _ => 0)) w') ∨ ((MM.eqsA q right rows).2 (MM.widU rows) ≠ none ∧ e = .returned (.tuple #[.slice none 0 0, .int .i64 5]) ∧ Below W.heap.size W w') → Solved W q right rows e w') := Lib.hid fun _ _ h => h
  have HWL : Hid (∀ k, k < rows.length → (rows.getD k []).length ≤ MM.widU rows) := Lib.hid fun k hk => by rw [List.getD_eq_getElem?_getD, List.getElem?_eq_getElem hk]; exact MM.widU_ge (List.getElem_mem hk)
  generalize w'.heap.size = g at *
  generalize Solved W q right rows = PST at *
  generalize hwd0 : MM.widU rows = wd at *
  clear hwd0 HB HBAS HWD HNB HP hm hmg hng
  go_loopw [31] (fun s31 wx => ∃ k : Nat, k ≤ n ∧ s31 = .int .i64 (k : Int) ∧ Hid (RkAt W g m (wd + 1) q (MM.eqsK q wd right rows k) wx)) (fun s31 _ => n - (RowKit.intOf s31).toNat)
  case atStart => exact ⟨0, Nat.zero_le _, rfl, HS0⟩
  case round =>
    clear HS0
    obtain ⟨k, hk, rfl, HJ⟩ := hrel
    by_cases hlt : k < n
    · have hkr : k < rows.length := by have := HN.out; omega
      obtain ⟨ad, bo, c, rfl, hc, hrd⟩ := (HR.out.below HJ.out.below) k hkr
      have HST := Lib.hid (MM.eqsK_succ q wd right rows k)
      have HRW : Hid (MM.eqnRow q wd right rows k = if k < right.length then MM.eqnU q wd (rows.getD k []) (MM.ofL right k) else MM.wideU q (MM.ofL (rows.getD k []))) := Lib.hid rfl
      have HZL := Lib.hid (fun i => getD_mem_lt HLT.out k i)
      have hle := HWL.out k hkr
      have hcl : (MM.eqsK q wd right rows k).1 ≤ 1000000000 := by have := MM.eqsK_le (q := q) (n := wd) (right := right) (rows := rows) k; omega
      have HZ0 : Hid (∀ i, (rows.getD k []).length ≤ i → MM.ofL (rows.getD k []) i = 0) := Lib.hid fun i h => MM.ofL_out h
      have HEU : Hid (∀ x, MM.eqnU q wd (rows.getD k []) x = fun i => if i = wd then MM.addU x 0 q else MM.wideU q (MM.ofL (rows.getD k [])) i) := Lib.hid fun x => rfl
      have hwide := wide_any m (wd + 1) q (rows.getD k []).length c bo (MM.ofL (rows.getD k [])) HZL.out HZ0.out (by omega) (by omega) wr hrd
      have HWI := Lib.hid hwide
      clear hrd hkr hwide
      generalize (rows.getD k []).length = len at *
      generalize rows.getD k [] = rk at *
      generalize MM.eqsK q wd right rows k = s at *
      generalize MM.eqnRow q wd right rows k = rowk at *
      go_upto_region 9 with (first | (refine wpList_load_row rfl 47 _ rfl g rfl 47 (bCells m (wd + 1) q) (0, 0) _ HJ.out.box Tryd.underlying47 rfl (by kernel_rfl) ?_) | (go_at_call 32; (with_reducible refine (HWI.out).mono ?_); rintro e w1 ⟨B, rfl, hmine⟩; have HMI := Lib.hid hmine; clear hmine))
      clear hc HWI HZL HZ0
      have HB1 : Hid (Below W.heap.size W w1) := Lib.hid (HMI.out.low' HJ.out.below).below
      have hgB : g ≠ B := by have := row_lt HJ.out.box; have := HMI.out.low; omega
      have HX1 : Hid (Boxed w1 g m (wd + 1) q) := Lib.hid (HJ.out.box.of (HMI.out.below.block g (row_lt HJ.out.box)))
      by_cases hir : k < right.length
      · have hirI : (k : Int) < (right.length : Int) := by omega
        obtain ⟨ad2, rfl, hcr⟩ := (HRR.out.below HB1.out).at_ hir
        have hcw := HMI.out.cell (Nat.lt_succ_self wd)
        have hfr := HMI.out.free wd
        have HA := ret_add0 (MM.ofL right k) q
        have HM3 : Hid (∀ a, Mine wr B (wd + 1) (MM.eqnU q wd rk (MM.ofL right k)) ((w1.drewN a).setCell ⟨B, wd, none⟩ (.int .u64 ((MM.addU (MM.ofL right k) 0 q : Nat) : Int)))) := Lib.hid fun a => (HMI.out.drewN a).set wd _ fun j _ => by rw [HEU.out]
        have HX3 : Hid (∀ a, Boxed ((w1.drewN a).setCell ⟨B, wd, none⟩ (.int .u64 ((MM.addU (MM.ofL right k) 0 q : Nat) : Int))) g m (wd + 1) q) := Lib.hid fun a => (HX1.out.drewN a).setCell hgB _ _
        have HRW2 := Lib.hid (HRW.out.trans (if_pos hir))
        have HEL : Hid (∀ i, MM.eqnU q wd rk (MM.ofL right k) i < 18446744073709551616) := Lib.hid fun i => by
          rw [HEU.out]
          show (if i = wd then _ else _) < _
          by_cases e : i = wd
          · rw [if_pos e]; exact MM.addU_lt _ _ _
          · rw [if_neg e]; exact wideU_lt _ _ _
        clear HRW hir HX1 HMI HB1 HEU
        generalize MM.eqnU q wd rk (MM.ofL right k) = eqn at *
        generalize MM.addU (MM.ofL right k) 0 q = x1 at *
        generalize MM.ofL right k = x0 at *
        go_upto_region 11 with (go_at_call 26; (with_reducible refine (HA.at _).mono ?_); rintro e w' ⟨rfl, nq, rfl⟩)
        clear hcr hcw hfr HA hirI
        have HM4 := Lib.hid (HM3.out nq)
        have HX4 := Lib.hid (HX3.out nq)
        clear HM3 HX3
        generalize ((w1.drewN nq).setCell ⟨B, wd, none⟩ (.int .u64 (x1 : Int))) = w3 at *
        have HADD := Lib.hid (HJ.out.adds HM4.out (by omega) hcl HEL.out)
        have HNX : Hid (∀ w', Added W w3 B m (wd + 1) (MM.addB q (wd + 1) s eqn) (.returned (.tuple #[])) w' → RkAt W g m (wd + 1) q (MM.eqsK q wd right rows (k + 1)) w') := Lib.hid fun w' h => by rw [HST.out, HRW2.out]; exact HJ.out.next HM4.out h
        clear HM4 HEL HST HRW2 HJ
        go_wp2_with (first | (refine wpList_load_row rfl 47 _ rfl g rfl 47 (bCells m (wd + 1) q) (0, 0) _ HX4.out Tryd.underlying47 rfl (by kernel_rfl) ?_) | (go_at_call 31; (with_reducible refine (HADD.out).mono ?_); rintro e w' hadd; obtain rfl := hadd.1; have HJ2 := Lib.hid (HNX.out w' hadd); clear hadd HNX HADD HX4))
        go_roundw
        case rel => exact ⟨k + 1, by omega, by go_num, HJ2⟩
        case measure => simp [RowKit.intOf]; omega
      · have hirI : ¬ (k : Int) < (right.length : Int) := by omega
        have HRW2 := Lib.hid (HRW.out.trans (if_neg hir))
        have HADD := Lib.hid (HJ.out.adds HMI.out (by omega) hcl (wideU_lt q (MM.ofL rk)))
        have HNX : Hid (∀ w', Added W w1 B m (wd + 1) (MM.addB q (wd + 1) s (MM.wideU q (MM.ofL rk))) (.returned (.tuple #[])) w' → RkAt W g m (wd + 1) q (MM.eqsK q wd right rows (k + 1)) w') := Lib.hid fun w' h => by rw [HST.out, HRW2.out]; exact HJ.out.next HMI.out h
        clear HRW hir HMI HB1 HEU HST HRW2 HJ
        go_wp2_with (first | (refine wpList_load_row rfl 47 _ rfl g rfl 47 (bCells m (wd + 1) q) (0, 0) _ HX1.out Tryd.underlying47 rfl (by kernel_rfl) ?_) | (go_at_call 31; (with_reducible refine (HADD.out).mono ?_); rintro e w' hadd; obtain rfl := hadd.1; have HJ2 := Lib.hid (HNX.out w' hadd); clear hadd HNX HADD HX1))
        go_roundw
        case rel => exact ⟨k + 1, by omega, by go_num, HJ2⟩
        case measure => simp [RowKit.intOf]; omega
    · obtain rfl : k = n := by omega
      rw [HEA.out] at HJ
      have hrw := HJ.out.box.rows
      obtain ⟨v, hrun, hst⟩ := HJ.out.bas.look (j := wd) (by omega)
      cases hb : (MM.eqsA q right rows).2 wd with
      | none =>
        obtain rfl := hst.1 hb
        have hnl := nil_not wr
        have HUN := Lib.hid (unknowns_any m wr.heap.size (MM.eqsA q right rows).1 wd q (MM.eqsA q right rows).2 (by omega) wr HJ.out.bas)
        have HP2 : Hid (∀ B w', Mine wr B wd (MM.unkU q wd (MM.eqsA q right rows).2 wd (fun _ => 0)) w' → PST (.returned (.tuple #[.slice (some ⟨B, 0, none⟩) wd wd, .int .i64 0])) w') := Lib.hid fun B w' h => HSD.out _ _ (.inl ⟨hb, B, rfl, h.low' HJ.out.below⟩)
        clear hst hb HSD HEA
        go_wp2_with (first | (refine wpList_load_row rfl 47 _ rfl g rfl 47 (bCells m (wd + 1) q) (0, 0) _ HJ.out.box Tryd.underlying47 rfl (by kernel_rfl) ?_) | (go_at_call 33; (with_reducible refine (HUN.out).mono ?_); rintro e w' ⟨B, rfl, hmine⟩; have HPF := Lib.hid (HP2.out B w' hmine); clear hmine HP2 HUN))
        exact HPF.out
      | some eq =>
        obtain ⟨g2, rfl, _, _, _⟩ := hst.2 eq hb
        have hnl := nil_is wr ⟨g2, 0, none⟩ (wd + 1) (wd + 1)
        have HPF := Lib.hid (HSD.out _ wr (.inr ⟨by rw [hb]; simp, rfl, HJ.out.below⟩))
        clear hst hb HSD HEA
        go_wp2_with fail
        exact HPF.out
end M
end Go.Proofs.YtflkmjihgfjofaaDoor
