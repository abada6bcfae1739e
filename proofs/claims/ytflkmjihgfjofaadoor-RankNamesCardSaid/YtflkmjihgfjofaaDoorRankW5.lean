/- The walks of rank.Rank and rank.Hangs. -/
import Derived.Test.YtflkmjihgfjofaaDoorRankW4
import Derived.Test.YtflkmjihgfjofaaDoorRegK
import Derived.Test.YtflkmjihgfjofaaDoorModW5
namespace Go.Proofs.YtflkmjihgfjofaaDoor
open Go Go.RowKit Go.Lib
namespace M
theorem Laid.below {w w' : World} (h : Laid w) (hb : Below w.heap.size w w') : Laid w' := by
  obtain ⟨⟨t, fr, h1⟩, h2⟩ := h
  refine ⟨⟨t, fr, ?_⟩, fun j hj => ?_⟩
  · have hs : (0 : Nat) < w.heap.size := row_lt h1
    rw [hb.block _ hs]; exact h1
  · have hc := h2 j hj
    have hs := World.block_lt_of_cell? w _ hc
    rw [hb.cell hs]; exact hc
theorem load_box {w : World} {g m wd q : Nat} (h : Boxed w g m wd q) {o : Oper} {ev : Operand → Value} {x : Operand} (ho : o.op = .load 47 x) (hx : ev x = .pointer (some ⟨g, 0, none⟩)) : (execOp ev o).run Tryd.prog w = .ok (.value (.agg (bCells m wd q))) w := by
  unfold execOp
  simp only [ho, hx, Instr.loadAt, Instr.sureAddr, Sem.run_bind, Sem.run_pure, Result.andThen_ok, run_loadVar_row w g 47 47 (bCells m wd q) (0, 0) _ h Tryd.underlying47 rfl (by kernel_rfl)]
/-- The state between two rows: the struct in its box, the map's rows; nothing old has changed. -/
structure RkAt (W : World) (g m wd q : Nat) (s : Nat × MM.Bs) (w : World) : Prop where
  below : Below W.heap.size W w
  low : W.heap.size ≤ m
  ne : g ≠ m
  box : Boxed w g m wd q
  bas : Bas w m w.heap.size s.1 wd s.2
section
variable {W w w1 w' : World} {B g m wd q : Nat} {s s' : Nat × MM.Bs} {r : Nat → Nat}
theorem RkAt.drewN (h : RkAt W g m wd q s w) (i : Nat) : RkAt W g m wd q s (w.drewN i) := ⟨h.below.trans (below_drewN' w i _), h.low, h.ne, h.box, h.bas.drewN i⟩
theorem RkAt.next (h : RkAt W g m wd q s w) (hm : Mine w B wd r w1) (ha : Added W w1 B m wd s' (.returned (.tuple #[])) w') : RkAt W g m wd q s' w' := by
  obtain ⟨_, h1, h2, h3⟩ := ha
  have hg : g < w.heap.size := row_lt h.box
  have hB := hm.low
  have h4 : Boxed w1 g m wd q := h.box.of (hm.below.block g hg)
  exact ⟨h2, h.low, h.ne, h4.of (h3 g (by have := hm.below.size; omega) h.ne (by omega)), h1⟩
theorem RkAt.adds (h : RkAt W g m wd q s w) (hm : Mine w B wd r w1) (hwd : wd ≤ 1000000000) (hs : s.1 ≤ 1000000000) (hr : ∀ i, r i < 18446744073709551616) :
    Calls Tryd.prog 31 #[.agg (bCells m wd q), .slice (some ⟨B, 0, none⟩) wd wd] w1 (Added W w1 B m wd (MM.addB q wd s r)) :=
  badd_any W B m w.heap.size wd q s r hwd hs hr hm.low h.low w1 (h.bas.step hm.below) (hm.low' h.below)
end
theorem wideU_lt (q : Nat) (r : Nat → Nat) (i : Nat) : MM.wideU q r i < 18446744073709551616 := MM.addU_lt _ _ _
theorem allB_le {q w : Nat} : ∀ rows : List (List Nat), (MM.allB q w rows).1 ≤ rows.length := by
  intro rows
  have H : ∀ (rows : List (List Nat)) (s : Nat × MM.Bs), (rows.foldl (fun s r => MM.addB q w s (MM.wideU q (MM.ofL r))) s).1 ≤ s.1 + rows.length := by
    intro rows
    induction rows with
    | nil => intro s; exact Nat.le_refl _
    | cons r l ih =>
      intro s
      rw [List.foldl_cons]
      have h1 := ih (MM.addB q w s (MM.wideU q (MM.ofL r)))
      have h2 : (MM.addB q w s (MM.wideU q (MM.ofL r))).1 ≤ s.1 + 1 := by
        unfold MM.addB; split
        · omega
        · exact Nat.le_refl _
      simp only [List.length_cons]; omega
  have := H rows MM.noB
  simpa [MM.allB, MM.noB] using this
theorem allB_take {q w k : Nat} {rows : List (List Nat)} (h : k < rows.length) : MM.allB q w (rows.take (k + 1)) = MM.addB q w (MM.allB q w (rows.take k)) (MM.wideU q (MM.ofL (rows.getD k []))) := by
  rw [List.take_succ_eq_append_getElem h, MM.allB_snoc, List.getD_eq_getElem?_getD, List.getElem?_eq_getElem h]; rfl
theorem getD_mem_lt {rows : List (List Nat)} (h : ∀ r ∈ rows, ∀ x ∈ r, x < 18446744073709551616) (k i : Nat) : MM.ofL (rows.getD k []) i < 18446744073709551616 := by
  refine MM.ofL_lt (fun x hx => ?_) i
  rcases Nat.lt_or_ge k rows.length with hk | hk
  · rw [List.getD_eq_getElem?_getD, List.getElem?_eq_getElem hk] at hx
    exact h _ (List.getElem_mem hk) x hx
  · rw [List.getD_eq_getElem?_getD, List.getElem?_eq_none hk] at hx; cases hx
set_option maxHeartbeats 2000000 in
theorem rank_no (ao : Option Addr) (n cap q : Nat) (hq : MM.primeOf q = false) (W : World) (hl : Laid W) :
    Calls Tryd.prog 12 #[.slice ao n cap, .int .u64 (q : Int)] W fun e w' => e = .returned (.int .i64 0) ∧ Below W.heap.size W w' := by
  have HP := Lib.hid (ret_prime q false hq)
  have HL := Lib.hid hl
  clear hl hq
  go_enter Tryd.func12, Tryd.ntmps12
  go_wp2_with (go_at_call 28; (with_reducible refine (HP.out.at _ HL.out).mono ?_); rintro e w' ⟨rfl, n, rfl⟩)
  go_ret
  exact ⟨rfl, below_drewN' _ _ _⟩
set_option maxHeartbeats 8000000 in
set_option maxRecDepth 100000 in
theorem rank_yes (ao : Option Addr) (cap q : Nat) (rows : List (List Nat)) (hn : rows.length ≤ 1000000) (hlen : ∀ r ∈ rows, r.length ≤ 1000000) (hlt : ∀ r ∈ rows, ∀ x ∈ r, x < 18446744073709551616) (hq : MM.primeOf q = true) (W : World) (hl : Laid W) (hr : NRows W ao rows) :
    Calls Tryd.prog 12 #[.slice ao rows.length cap, .int .u64 (q : Int)] W fun e w' => e = .returned (.int .i64 ((MM.rankU rows q : Nat) : Int)) ∧ Below W.heap.size W w' := by
  have HP := Lib.hid (ret_prime q true hq)
  have HL := Lib.hid hl
  have HR := Lib.hid hr
  have HLEN := Lib.hid hlen
  have HLT := Lib.hid hlt
  have HWD := Lib.hid (widest_any ao cap rows.length rows rfl hn hlen)
  have HNB := Lib.hid (newBasis_any (MM.widU rows) q)
  have hwd : MM.widU rows ≤ 1000000 := MM.widU_le hlen
  obtain ⟨n, hN⟩ : ∃ n, rows.length = n := ⟨_, rfl⟩
  rw [hN] at HWD hn ⊢
  have HN := Lib.hid hN
  clear hl hq hr hlen hlt hN
  go_enter Tryd.func12, Tryd.ntmps12
  go_wp2_with (first | (go_at_call 28; (with_reducible refine (HP.out.at _ HL.out).mono ?_); rintro e w' ⟨rfl, n0, rfl⟩) | (go_at_call 30; (with_reducible refine (HWD.out _ (HR.out.below (below_drewN' _ _ _))).mono ?_); rintro e w' ⟨rfl, rfl⟩) | (go_at_call 29; (with_reducible refine (HNB.out _).mono ?_); rintro e w' ⟨m, rfl, hb, hm, hbas⟩; have HB := Lib.hid hb; have HBAS := Lib.hid hbas; clear hb hbas))
  have hmg : w'.heap.size ≠ m := by have := HBAS.out.lt; omega
  have HS0 : Hid (RkAt W w'.heap.size m (MM.widU rows) q (MM.allB q (MM.widU rows) (rows.take 0)) (w'.alloc (Obj.cells (bCells m (MM.widU rows) q) 47))) :=
    Lib.hid ⟨(below_drewN' W n0 _).trans (HB.out.trans ((below_box w' _).mono HB.out.size)), hm, hmg, heap_alloc_new _ _, (HBAS.out.alloc _).up (by simp) (Nat.le_refl _)⟩
  generalize hwd0 : MM.widU rows = wd at *
  generalize w'.heap.size = g at *
  have HWW := Lib.hid hwd0
  clear hwd0 HB HBAS HWD HNB HP hm hmg
  go_loopw [17] (fun s17 wx => ∃ k : Nat, k ≤ n ∧ s17 = .int .i64 (k : Int) ∧ Hid (RkAt W g m wd q (MM.allB q wd (rows.take k)) wx)) (fun s17 _ => n - (RowKit.intOf s17).toNat)
  case atStart => exact ⟨0, Nat.zero_le _, rfl, HS0⟩
  case round =>
    clear HS0
    obtain ⟨k, hk, rfl, HJ⟩ := hrel
    by_cases hlt : k < n
    · have hkr : k < rows.length := by have := HN.out; omega
      obtain ⟨ad, bo, c, rfl, hc, hrd⟩ := (HR.out.below HJ.out.below) k hkr
      have HRD := Lib.hid hrd
      have HST := Lib.hid (allB_take (q := q) (w := wd) hkr)
      have HZL := Lib.hid (fun i => getD_mem_lt HLT.out k i)
      have hle : (rows.getD k []).length ≤ wd := by rw [← HWW.out, List.getD_eq_getElem?_getD, List.getElem?_eq_getElem hkr]; exact MM.widU_ge (List.getElem_mem hkr)
      have hcl : (MM.allB q wd (rows.take k)).1 ≤ 1000000000 := by have := allB_le (q := q) (w := wd) (rows.take k); rw [List.length_take] at this; omega
      have HZ0 : Hid (∀ i, (rows.getD k []).length ≤ i → MM.ofL (rows.getD k []) i = 0) := Lib.hid fun i h => MM.ofL_out h
      clear hrd hkr
      generalize MM.ofL (rows.getD k []) = z at *
      generalize (rows.getD k []).length = len at *
      generalize MM.allB q wd (rows.take k) = s at *
      go_upto_region 7 with fail
      refine RK.region (fun w => Boxed w g m wd q) 100 (by kernel_rfl) ?_
      have HD : Hid (RkAt W g m wd q s wr.drew) := Lib.hid (HJ.out.drewN 1)
      have HRD2 : Hid (Rd wr.drew bo len z) := HRD
      have hS0 : Boxed wr.drew g m wd q := HD.out.box
      refine RK.Any.take 0 21 (.agg (bCells m wd q)) rfl rfl (by kernel_rfl) (by kernel_rfl) (by kernel_rfl) (by kernel_rfl) (fun _ _ _ h => h) (by rfl) (fun W' hb => load_box hb rfl rfl) hS0 ?_
      simp only [List.setIfInBounds_toArray, List.set_cons_zero, List.set_cons_succ]
      refine RK.Any.take 1 22 (.agg (bCells m wd q)) rfl rfl (by kernel_rfl) (by kernel_rfl) (by kernel_rfl) (by kernel_rfl) (fun _ _ _ h => h) (by rfl) (fun W' hb => load_box hb rfl rfl) hS0 ?_
      simp only [List.setIfInBounds_toArray, List.set_cons_zero, List.set_cons_succ]
      refine RK.Any.take 2 23 (.slice bo len c) rfl rfl (by kernel_rfl) (by kernel_rfl) (by kernel_rfl) (by kernel_rfl) (fun _ _ _ h => h) (by rfl) (fun W' hb => ?_) hS0 ?_
      · go_simp
      simp only [List.setIfInBounds_toArray, List.set_cons_zero, List.set_cons_succ]
      refine RK.Any.call 3 24 32 #[.agg (bCells m wd q), .slice bo len c] (by kernel_rfl) rfl rfl (by rfl) (by go_simp) (Calls.mono (wide_any m wd q len c bo z HZL.out HZ0.out hle (by omega) wr.drew HRD2.out) ?_)
      rintro e w1 ⟨B, rfl, hmine⟩
      have hS1 : Boxed w1 g m wd q := HD.out.box.of (hmine.below.block g (row_lt HD.out.box))
      refine ⟨_, rfl, fun _ => hS1, ?_⟩
      simp only [List.setIfInBounds_toArray, List.set_cons_zero, List.set_cons_succ]
      refine RK.Any.call 4 25 31 #[.agg (bCells m wd q), .slice (some ⟨B, 0, none⟩) wd wd] (by kernel_rfl) rfl rfl (by rfl) (by go_simp) (Calls.mono (HD.out.adds hmine (by omega) hcl (wideU_lt q z)) ?_)
      rintro e w2 hadd
      obtain rfl := hadd.1
      have HJ2 : Hid (RkAt W g m wd q (MM.allB q wd (rows.take (k + 1))) w2) := Lib.hid (by rw [HST.out]; exact HD.out.next hmine hadd)
      refine ⟨_, rfl, fun _ => HJ2.out.box, ?_⟩
      simp only [List.setIfInBounds_toArray, List.set_cons_zero, List.set_cons_succ]
      refine RK.Any.done (by kernel_rfl) ?_
      clear hadd hmine hS1 hS0 HD HRD2 HRD HJ HZL HZ0 HST hc
      go_wp2_with fail
      go_roundw
      case rel => exact ⟨k + 1, by omega, by go_num, HJ2⟩
      case measure => simp [RowKit.intOf]; omega
    · obtain rfl : k = n := by omega
      have hrw := HJ.out.box.rows
      have hlen := HJ.out.bas.len
      have HE : Hid ((MM.allB q wd (rows.take k)).1 = MM.rankU rows q) := Lib.hid (by rw [List.take_of_length_le (by have := HN.out; omega), ← HWW.out]; rfl)
      go_wp2_with fail
      go_ret
      exact ⟨by rw [HE.out]; rfl, HJ.out.below⟩
set_option maxHeartbeats 2000000 in
theorem hangs_no (ao bo : Option Addr) (n cap l c q : Nat) (hq : MM.primeOf q = false) (W : World) (hl : Laid W) :
    Calls Tryd.prog 14 #[.slice ao n cap, .slice bo l c, .int .u64 (q : Int)] W fun e w' => e = .returned (.bool false) ∧ Below W.heap.size W w' := by
  have HP := Lib.hid (ret_prime q false hq)
  have HL := Lib.hid hl
  clear hl hq
  go_enter Tryd.func14, Tryd.ntmps14
  go_wp2_with (go_at_call 28; (with_reducible refine (HP.out.at _ HL.out).mono ?_); rintro e w' ⟨rfl, n, rfl⟩)
  go_ret
  exact ⟨rfl, below_drewN' _ _ _⟩
end M
end Go.Proofs.YtflkmjihgfjofaaDoor
