/- The texts SltNil, SltStrs, SltNam, one behind the other. -/
import Derived.Test.YtoacmingocmaaaaGreatDoorWB16
import Derived.Test.YtoacmingocmaaaaGreatDoorWB5
/- What is asked of the slots of nil. -/
namespace Go.Proofs.YtoacmingocmaaaaGreatDoor
open Go Go.RowKit Go.Lib
namespace M
open MM
set_option maxRecDepth 100000 in
theorem dead_is_nil (w : World) : Calls Tryz.prog 45 #[.pointer none] w fun e w' => e = .returned (.bool true) ∧ w' = w := by
  go_enter Tryz.func45, Tryz.ntmps45
  go_wp2_with fail
  go_ret
  exact ⟨rfl, rfl⟩
set_option maxRecDepth 100000 in
theorem read_nil2 (k : Int) (w : World) : Calls Tryz.prog 36 #[.pointer none, .int .i64 k] w fun e w' => e = .returned (.string ⟨#[]⟩) ∧ Below w.heap.size w w' := by
  obtain ⟨g, hg⟩ : ∃ g, w.heap.size = g := ⟨_, rfl⟩
  have x1 := Box.new w 3 (.int .i64 k)
  have b1 := below_box w (.cells #[.int .i64 k] 3)
  have s1 : (w.alloc (.cells #[.int .i64 k] 3)).heap.size = g + 1 := by rw [World.size_alloc, hg]
  obtain ⟨W1, hW1⟩ : ∃ W1, w.alloc (.cells #[.int .i64 k] 3) = W1 := ⟨_, rfl⟩
  rw [hW1] at b1 s1
  have x2 := Box.new W1 9 (.string ⟨#[]⟩)
  have b2 := below_box W1 (.cells #[.string ⟨#[]⟩] 9)
  have s2 : (W1.alloc (.cells #[.string ⟨#[]⟩] 9)).heap.size = g + 1 + 1 := by rw [World.size_alloc, s1]
  rw [s1] at x2
  obtain ⟨W2, hW2⟩ : ∃ W2, W1.alloc (.cells #[.string ⟨#[]⟩] 9) = W2 := ⟨_, rfl⟩
  rw [hW2] at x2 b2 s2
  have b0 : Below w.heap.size w W2 := b1.trans (b2.mono b1.size)
  have c2 := x2.cell
  have f2 := x2.free
  have HB := Lib.hid (b0.setCell (p := ⟨g + 1, 0, none⟩) (by show _ ≤ g + 1; omega) (.string ⟨#[]⟩))
  have HX := Lib.hid (x2.set (.string ⟨#[]⟩))
  clear x1 b1 b2 b0 x2
  go_enter Tryz.func36, Tryz.ntmps36
  go_wp2_with (go_at_call 45; (with_reducible refine (dead_is_nil _).mono ?_); rintro e w' ⟨rfl, hw'⟩; replace hw' := hw'.symm; subst hw')
  have c3 := HX.out.cell
  generalize W2.setCell ⟨g + 1, 0, none⟩ (.string ⟨#[]⟩) = W3 at *
  refine bodyPost_ret (v := .string ⟨#[]⟩) (w := W3) (by simp [results, Tryz.results36, go_sem, c3]) rfl ⟨rfl, HB.out⟩

set_option maxRecDepth 100000 in
set_option maxHeartbeats 4000000 in
theorem slotAt_nil (w : World) (k : Int) : Calls Tryz.prog 55 #[.pointer none, .int .i64 k] w fun e w' => e = .returned (slV ⟨k, 0, 0⟩) ∧ Below w.heap.size w w' := by
  have hb1 := below_box w (.cells sl0 60)
  have hg1 := heap_alloc_new w (.cells sl0 60)
  have HRD := Lib.hid (read_nil2 k (w.alloc (.cells sl0 60)))
  obtain ⟨t, ht⟩ : ∃ t : By, t = [] := ⟨_, rfl⟩
  have hn : t.length = 512 ∨ t = [] := .inr ht
  have HT : Hid (headOf t = (0, 0)) := Lib.hid (by rw [ht]; exact headOf_nil)
  rw [show (⟨#[]⟩ : ByteArray) = ⟨t.toArray⟩ by rw [ht]] at HRD
  obtain ⟨⟨a1, e1, r1⟩, q1⟩ : ∃ q, rCount 1099511627776 t 0 = q := ⟨_, rfl⟩
  obtain ⟨⟨a2, e2, r2⟩, q2⟩ : ∃ q, rCount 16776704 r1 e1 = q := ⟨_, rfl⟩
  obtain ⟨⟨a3, e3, r3⟩, q3⟩ : ∃ q, rCount 1099511627776 r2 e2 = q := ⟨_, rfl⟩
  have hhr := head_read hn q1 q2 q3
  obtain ⟨hd, hhd⟩ : ∃ hd, headOf t = hd := ⟨_, rfl⟩
  rw [hhd] at hhr HT
  have HH := Lib.hid hhr
  have C1 : Hid (∀ g W, RAt WR g t 0 W → Calls Tryz.prog 76 #[.pointer (some ⟨g, 0, none⟩), .int .i64 1099511627776] W fun e' w' => e' = .returned (.tuple #[.int .i64 (a1 : Int), .int .i64 e1]) ∧ RAt WR g r1 e1 w' ∧ Turn g W w') := Lib.hid fun g W h => by
    have := count_ask g t 0 1099511627776 (by omega) W h
    rw [q1] at this; exact this
  have C2 : Hid (∀ g W, RAt WR g r1 e1 W → Calls Tryz.prog 76 #[.pointer (some ⟨g, 0, none⟩), .int .i64 16776704] W fun e' w' => e' = .returned (.tuple #[.int .i64 (a2 : Int), .int .i64 e2]) ∧ RAt WR g r2 e2 w' ∧ Turn g W w') := Lib.hid fun g W h => by
    have := count_ask g r1 e1 16776704 (by omega) W h
    rw [q2] at this; exact this
  have C3 : Hid (∀ g W, RAt WR g r2 e2 W → Calls Tryz.prog 76 #[.pointer (some ⟨g, 0, none⟩), .int .i64 1099511627776] W fun e' w' => e' = .returned (.tuple #[.int .i64 (a3 : Int), .int .i64 e3]) ∧ RAt WR g r3 e3 w' ∧ Turn g W w') := Lib.hid fun g W h => by
    have := count_ask g r2 e2 1099511627776 (by omega) W h
    rw [q3] at this; exact this
  have HOP : Hid (∀ W, _) := Lib.hid fun W => open_any t (by rcases hn with e | e <;> rw [e] <;> simp) W
  have HB1 := Lib.hid hb1
  have HG1 := Lib.hid hg1
  clear hb1 hg1 ht q1 q2 q3 hn hhr hhd
  go_enter Tryz.func55, Tryz.ntmps55
  go_upto_region 1 with fail
  generalize w.alloc (.cells sl0 60) = w1 at *
  go_upto_region 2 with (first
    | (go_at_call 36; (with_reducible refine HRD.out.mono ?_); rintro e w2 ⟨rfl, hb2⟩; have HB2 := Lib.hid (bnext HB1.out hb2); have HG2 := Lib.hid ((hb2.block _ (row_lt HG1.out)).trans HG1.out); clear hb2)
    | (go_at_call 75; (with_reducible refine (HOP.out _).mono ?_); rintro e w3 ⟨g, rfl, hlt, hr, hb3⟩; have HB3 := Lib.hid (bnext HB2.out hb3); have HG3 := Lib.hid ((hb3.block _ (row_lt HG2.out)).trans HG2.out); have HLT := Lib.hid (Nat.lt_of_lt_of_le (row_lt HG2.out) hlt); have HR3 := Lib.hid hr; have HLW := Lib.hid (show w.heap.size ≤ g from Nat.le_trans HB2.out.size hlt); clear hb3 hlt hr))
  go_upto_region 3 with (go_at_call 76; (with_reducible refine (C1.out _ _ HR3.out).mono ?_); rintro e w4 ⟨rfl, hr, ht⟩; have HR4 := Lib.hid hr; have HG4 := Lib.hid ((ht.block _ (row_lt HG3.out) (by have := HLT.out; omega)).trans HG3.out); have HB4 := Lib.hid (HB3.out.trans (ht.below HLW.out HB3.out.size)); clear hr ht)
  go_upto_region 4 with (go_at_call 76; (with_reducible refine (C2.out _ _ HR4.out).mono ?_); rintro e w5 ⟨rfl, hr, ht⟩; have HR5 := Lib.hid hr; have HG5 := Lib.hid ((ht.block _ (row_lt HG4.out) (by have := HLT.out; omega)).trans HG4.out); have HB5 := Lib.hid (HB4.out.trans (ht.below HLW.out HB4.out.size)); clear hr ht)
  go_upto_region 5 with (go_at_call 76; (with_reducible refine (C3.out _ _ HR5.out).mono ?_); rintro e w6 ⟨rfl, hr, ht⟩; have HR6 := Lib.hid hr; have HG6 := Lib.hid ((ht.block _ (row_lt HG5.out) (by have := HLT.out; omega)).trans HG5.out); have HB6 := Lib.hid (HB5.out.trans (ht.below HLW.out HB5.out.size)); clear hr ht)
  have HWR := Lib.hid (wrong_any g r3 e3 w6 HR6.out)
  have hg6 := HG6.out
  obtain ⟨c0, c1, c2, fr⟩ := sl_cells hg6
  have fr0 := fr 0
  have fr1 := fr 1
  have fr2 := fr 2
  clear fr
  clear C1 C2 C3 HOP HRD HB1 HG1 HB2 HG2 HB3 HG3 HR3 HB4 HG4 HR4 HB5 HG5 HR5 HLT HLW
  by_cases he : e3 = 0
  · have he2 : (e3 != 0) = false := by rw [he]; rfl
    by_cases ha : a1 = a3
    · have HQ := Lib.hid (HH.out.1 he ha)
      have ha2 : ((a1 : Int) != (a3 : Int)) = false := by rw [ha]; simp
      clear he ha
      obtain ⟨d0, d1, d2, _⟩ := sl_cells (sl_set hg6 (x' := .int .i64 k) (y' := .int .i64 (a1 : Int)) (z' := .int .i64 (a2 : Int)))
      have HBF := Lib.hid (sl_below HB6.out (Nat.le_refl _) (.int .i64 k) (.int .i64 (a1 : Int)) (.int .i64 (a2 : Int)))
      go_wp2_with (go_at_call 77; (with_reducible refine HWR.out.mono ?_); rintro e w7 ⟨rfl, rfl⟩)
      generalize (((w7.setCell _ _).setCell _ _).setCell _ _) = W3 at *
      exact bodyPost_ret (v := .agg #[.int .i64 k, .int .i64 (a1 : Int), .int .i64 (a2 : Int)]) (w := W3) (by simp [results, Tryz.results55, go_sem, d0, d1, d2]) rfl ⟨by have h9 := HT.out; rw [HQ.out] at h9; injection h9 with h7 h8; subst_vars; rfl, HBF.out⟩
    · have HQ := Lib.hid (HH.out.2.1 he ha)
      have ha2 : ((a1 : Int) != (a3 : Int)) = true := by simpa using (by omega : ¬ (a1 : Int) = (a3 : Int))
      clear he ha
      obtain ⟨d0, d1, d2, _⟩ := sl_cells (sl_set hg6 (x' := .int .i64 k) (y' := .int .i64 0) (z' := .int .i64 0))
      have HBF := Lib.hid (sl_below HB6.out (Nat.le_refl _) (.int .i64 k) (.int .i64 0) (.int .i64 0))
      go_wp2_with (go_at_call 77; (with_reducible refine HWR.out.mono ?_); rintro e w7 ⟨rfl, rfl⟩)
      generalize (((w7.setCell _ _).setCell _ _).setCell _ _) = W3 at *
      exact bodyPost_ret (v := .agg #[.int .i64 k, .int .i64 0, .int .i64 0]) (w := W3) (by simp [results, Tryz.results55, go_sem, d0, d1, d2]) rfl ⟨by have h9 := HT.out; rw [HQ.out] at h9; injection h9 with h7 h8; subst_vars; rfl, HBF.out⟩
  · have HQ := Lib.hid (HH.out.2.2 he)
    have he2 : (e3 != 0) = true := by simpa using he
    clear he
    obtain ⟨d0, d1, d2, _⟩ := sl_cells (sl_set hg6 (x' := .int .i64 k) (y' := .int .i64 0) (z' := .int .i64 0))
    have HBF := Lib.hid (sl_below HB6.out (Nat.le_refl _) (.int .i64 k) (.int .i64 0) (.int .i64 0))
    go_wp2_with (go_at_call 77; (with_reducible refine HWR.out.mono ?_); rintro e w7 ⟨rfl, rfl⟩)
    generalize (((w7.setCell _ _).setCell _ _).setCell _ _) = W3 at *
    exact bodyPost_ret (v := .agg #[.int .i64 k, .int .i64 0, .int .i64 0]) (w := W3) (by simp [results, Tryz.results55, go_sem, d0, d1, d2]) rfl ⟨by have h9 := HT.out; rw [HQ.out] at h9; injection h9 with h7 h8; subst_vars; rfl, HBF.out⟩
set_option maxRecDepth 100000 in
set_option maxHeartbeats 8000000 in
theorem byAge_nil (w : World) : Calls Tryz.prog 33 #[.pointer none] w fun e w' => e = .returned (.tuple #[slV ⟨half, 0, 0⟩, slV ⟨0, 0, 0⟩]) ∧ Below w.heap.size w w' := by
  have hbA := below_box w (.cells sl0 60)
  have hbB := bnext hbA (below_box (w.alloc (.cells sl0 60)) (.cells sl0 60))
  have gA : ((w.alloc (.cells sl0 60)).alloc (.cells sl0 60)).heap[w.heap.size]? = _ := ((below_box (w.alloc (.cells sl0 60)) (.cells sl0 60)).block _ (row_lt (heap_alloc_new w (.cells sl0 60)))).trans (heap_alloc_new w (.cells sl0 60))
  have gB : ((w.alloc (.cells sl0 60)).alloc (.cells sl0 60)).heap[w.heap.size + 1]? = some (.cells sl0 60 (0, 0)) := by have := heap_alloc_new (w.alloc (.cells sl0 60)) (.cells sl0 60); rw [World.size_alloc] at this; exact this
  have HB := Lib.hid hbB
  have HGA := Lib.hid gA
  have HGB := Lib.hid gB
  obtain ⟨x, hx⟩ : ∃ x : Sl, (⟨0, 0, 0⟩ : Sl) = x := ⟨_, rfl⟩
  obtain ⟨y, hy⟩ : ∃ y : Sl, (⟨half, 0, 0⟩ : Sl) = y := ⟨_, rfl⟩
  have HX := Lib.hid hx
  have HY := Lib.hid hy
  have HXV : Hid (x.age = 0) := Lib.hid (by rw [← hx])
  have HTF : Hid ((decide (0 < x.age) && decide (y.age ≤ x.age)) = false → (.tuple #[slV ⟨half, 0, 0⟩, slV ⟨0, 0, 0⟩] : Value) = .tuple #[slV y, slV x]) := Lib.hid fun _ => by rw [hx, hy]
  clear hbA hbB gA gB hx hy
  generalize (.tuple #[slV ⟨half, 0, 0⟩, slV ⟨0, 0, 0⟩] : Value) = TW at *
  go_enter Tryz.func33, Tryz.ntmps33
  go_upto_region 1 with fail
  generalize (w.alloc (.cells sl0 60)).alloc (.cells sl0 60) = w1 at *
  go_upto_region 2 with (first
    | (go_at_call 55; (with_reducible refine (slotAt_nil _ 0).mono ?_); rintro e w2 ⟨he, hb2⟩; rw [HX.out] at he; subst he; have HB2 := Lib.hid (bnext HB.out hb2); have HGA2 := Lib.hid ((hb2.block _ (row_lt HGA.out)).trans HGA.out); have HGB2 := Lib.hid ((hb2.block _ (row_lt HGB.out)).trans HGB.out); clear hb2)
    | (go_at_call 55; (with_reducible refine (slotAt_nil _ half).mono ?_); rintro e w3 ⟨he, hb3⟩; rw [HY.out] at he; subst he; have HB3 := Lib.hid (bnext HB2.out hb3); have HGA3 := Lib.hid ((hb3.block _ (row_lt HGA2.out)).trans HGA2.out); have HGB3 := Lib.hid ((hb3.block _ (row_lt HGB2.out)).trans HGB2.out); clear hb3))
  have hlt3 := row_lt HGB3.out
  have gx := heap_alloc_new w3 (.cells (slC x) 60)
  have hbx := below_box w3 (.cells (slC x) 60)
  have hby := below_box (w3.alloc (.cells (slC x) 60)) (.cells (slC y) 60)
  have gx2 := (hby.block _ (row_lt gx)).trans gx
  have gy := heap_alloc_new (w3.alloc (.cells (slC x) 60)) (.cells (slC y) 60)
  rw [World.size_alloc] at gy
  have hb5 := bnext hbx hby
  have HB5 := Lib.hid (bnext HB3.out hb5)
  have HGA5 := Lib.hid ((hb5.block _ (row_lt HGA3.out)).trans HGA3.out)
  have HGB5 := Lib.hid ((hb5.block _ (row_lt HGB3.out)).trans HGB3.out)
  clear hbx hby gx hb5 HB HGA HGB HX HY HB2 HGA2 HGB2 HB3 HGA3 HGB3
  generalize (w3.alloc (.cells (slC x) 60)).alloc (.cells (slC y) 60) = w5 at *
  generalize w3.heap.size = g at *
  obtain ⟨x0, x1, x2, _⟩ := sl_cells gx2
  obtain ⟨y0, y1, y2, _⟩ := sl_cells gy
  have X5 := gx2
  have Y5 := gy
  clear gx2 gy
  have h0 : ¬ 0 < x.age := by rw [HXV.out]; exact Nat.lt_irrefl 0
  have hi0 : ¬ (0 : Int) < (x.age : Int) := by omega
  have HQ := Lib.hid (HTF.out (by simp [h0]))
  clear HTF h0
  go_upto_region 4 with fail
  refine RK.region (fun u => u.heap[g]? = some (.cells (slC x) 60 (0, 0)) ∧ u.heap[g + 1]? = some (.cells (slC y) 60 (0, 0))) 4 (by kernel_rfl) ?_
  have HS0 : w5.drew.heap[g]? = some (.cells (slC x) 60 (0, 0)) ∧ w5.drew.heap[g + 1]? = some (.cells (slC y) 60 (0, 0)) := ⟨X5, Y5⟩
  have A5 : w5.drew.heap[w.heap.size]? = some (.cells sl0 60 (0, 0)) := HGA5.out
  have E5 : w5.drew.heap[w.heap.size + 1]? = some (.cells sl0 60 (0, 0)) := HGB5.out
  have B5 : Below w.heap.size w w5.drew := HB5.out.trans (below_drewN' w5 1 _)
  generalize w5.drew = w6 at *
  refine RK.Any.take 0 22 (slV y) rfl rfl (by kernel_rfl) (by kernel_rfl) (by kernel_rfl) (by kernel_rfl) (fun _ _ _ h => h) (by rfl) (fun W' hb => sl_load hb.2 rfl rfl) HS0 ?_
  try simp only [List.setIfInBounds_toArray, List.set_cons_zero, List.set_cons_succ]
  refine RK.Any.take 1 23 (slV x) rfl rfl (by kernel_rfl) (by kernel_rfl) (by kernel_rfl) (by kernel_rfl) (fun _ _ _ h => h) (by rfl) (fun W' hb => sl_load hb.1 rfl rfl) HS0 ?_
  try simp only [List.setIfInBounds_toArray, List.set_cons_zero, List.set_cons_succ]
  have HS1 : (w6.setRow w.heap.size (slC y)).heap[g]? = some (.cells (slC x) 60 (0, 0)) ∧ (w6.setRow w.heap.size (slC y)).heap[g + 1]? = some (.cells (slC y) 60 (0, 0)) := ⟨(setRow_other w6 _ _ _ (by omega)).trans HS0.1, (setRow_other w6 _ _ _ (by omega)).trans HS0.2⟩
  refine RK.Any.store 2 (w1 := w6.setRow w.heap.size (slC y)) (by kernel_rfl) rfl rfl (by rfl) (sl_store (x := y) A5 rfl rfl rfl) (fun _ => HS1) ?_
  try simp only [List.setIfInBounds_toArray, List.set_cons_zero, List.set_cons_succ]
  have E6 := (setRow_other w6 w.heap.size (w.heap.size + 1) (slC y) (by omega)).trans E5
  have HS2 : ((w6.setRow w.heap.size (slC y)).setRow (w.heap.size + 1) (slC x)).heap[g]? = some (.cells (slC x) 60 (0, 0)) ∧ ((w6.setRow w.heap.size (slC y)).setRow (w.heap.size + 1) (slC x)).heap[g + 1]? = some (.cells (slC y) 60 (0, 0)) := ⟨(setRow_other _ _ _ _ (by omega)).trans HS1.1, (setRow_other _ _ _ _ (by omega)).trans HS1.2⟩
  refine RK.Any.store 3 (w1 := (w6.setRow w.heap.size (slC y)).setRow (w.heap.size + 1) (slC x)) (by kernel_rfl) rfl rfl (by rfl) (sl_store (x := x) E6 rfl rfl rfl) (fun _ => HS2) ?_
  try simp only [List.setIfInBounds_toArray, List.set_cons_zero, List.set_cons_succ]
  refine RK.Any.done (by kernel_rfl) ?_
  have FA := (setRow_other (w6.setRow w.heap.size (slC y)) (w.heap.size + 1) w.heap.size (slC x) (by omega)).trans (setRow_heap w6 w.heap.size sl0 (slC y) _ (0, 0) A5)
  have FB := setRow_heap (w6.setRow w.heap.size (slC y)) (w.heap.size + 1) sl0 (slC x) _ (0, 0) E6
  have BF : Below w.heap.size w ((w6.setRow w.heap.size (slC y)).setRow (w.heap.size + 1) (slC x)) := (B5.trans (below_row w6 _ _ (Nat.le_refl _))).trans (below_row _ _ _ (by omega))
  generalize (w6.setRow w.heap.size (slC y)).setRow (w.heap.size + 1) (slC x) = W9 at *
  obtain ⟨a0, a1, a2, _⟩ := sl_cells FA
  obtain ⟨b0, b1, b2, _⟩ := sl_cells FB
  go_wp2_with fail
  exact bodyPost_ret (v := .tuple #[slV y, slV x]) (w := W9) (by simp [results, Tryz.results33, go_sem, a0, a1, a2, b0, b1, b2]) rfl ⟨by rw [HQ.out], BF⟩
set_option maxRecDepth 100000 in
set_option maxHeartbeats 4000000 in
theorem age_nil (w : World) : Calls Tryz.prog 12 #[.pointer none] w fun e w' => e = .returned (.int .i64 0) ∧ Below w.heap.size w w' := by
  have H := Lib.hid (byAge_nil w)
  go_enter Tryz.func12, Tryz.ntmps12
  go_upto_region 2 with (go_at_call 33; (with_reducible refine H.out.mono ?_); rintro e w3 ⟨rfl, hb⟩; have HB := Lib.hid hb; clear hb)
  have gx := heap_alloc_new w3 (.cells (slC ⟨half, 0, 0⟩) 60)
  have X5 := at_old (o := .cells (slC ⟨0, 0, 0⟩) 60) gx
  have HB5 := Lib.hid (bnext HB.out (bnext (below_box w3 (.cells (slC ⟨half, 0, 0⟩) 60)) (below_box _ (.cells (slC ⟨0, 0, 0⟩) 60))))
  clear gx
  simp only [slC] at X5 HB5
  go_wp2_with fail
  go_ret
  exact ⟨rfl, HB5.out⟩
theorem wr_nil (w : World) : Calls Tryz.prog 17 #[.pointer none, .string ⟨#[]⟩] w fun e w' => e = .returned (.int .i64 2) ∧ w' = w := by
  go_enter Tryz.func17, Tryz.ntmps17
  go_wp2_with fail
  go_ret
  exact ⟨rfl, rfl⟩
theorem tw_nil (w : World) : Calls Tryz.prog 18 #[.pointer none, .string ⟨#[]⟩] w fun e w' => e = .returned (.int .i64 2) ∧ w' = w := by
  have H := wr_nil w
  go_enter Tryz.func18, Tryz.ntmps18
  go_wp2_with (go_at_call 17; (with_reducible refine H.mono ?_); rintro e w' ⟨rfl, hw'⟩; replace hw' := hw'.symm; subst hw')
  go_ret
  exact ⟨rfl, rfl⟩
set_option maxRecDepth 100000 in
set_option maxHeartbeats 4000000 in
theorem rd_nil (w : World) : Calls Tryz.prog 10 #[.pointer none] w fun e w' => e = .returned (.tuple #[.string ⟨#[]⟩, .bool false]) ∧ Below w.heap.size w w' := by
  have H := Lib.hid (byAge_nil w)
  go_enter Tryz.func10, Tryz.ntmps10
  go_upto_region 2 with (go_at_call 33; (with_reducible refine H.out.mono ?_); rintro e w3 ⟨rfl, hb⟩; have HB := Lib.hid hb; clear hb)
  have HB5 := Lib.hid (bnext HB.out (bnext (below_box w3 (.cells (slC ⟨half, 0, 0⟩) 60)) (below_box _ (.cells (slC ⟨0, 0, 0⟩) 60))))
  simp only [slC] at HB5
  go_wp2_with fail
  go_ret2
  exact ⟨rfl, HB5.out⟩
end M
end Go.Proofs.YtoacmingocmaaaaGreatDoor
/- A row of texts that came in; a disk with two headers. -/
namespace Go.Proofs.YtoacmingocmaaaaGreatDoor
open Go.ChangeShapes Go.WideShapes Go.ChangeAt Go.RowKit Go.Deep
namespace M
/-- Texts, as a slice reads them. -/
def StrsAt (w : World) (ao : Option Addr) (l : List (List UInt8)) : Prop := ∀ (i : Nat) (t : List UInt8), l[i]? = some t → t.length ≤ 9223372036854775807 ∧ ∃ ad, ao = some ad ∧ w.cell? (ad.add i) = some (.string ⟨t.toArray⟩)
theorem StrsAt.step {w w' : World} {ao : Option Addr} {l : List (List UInt8)} (h : StrsAt w ao l) (hb : Below w.heap.size w w') : StrsAt w' ao l := fun i t hi => by
  obtain ⟨hl, ad, e, hc⟩ := h i t hi
  exact ⟨hl, ad, e, by rw [hb.cell (World.block_lt_of_cell? w _ hc)]; exact hc⟩
def StrsIn (w : World) (v : Value) : Prop := ∃ (ao : Option Addr) (c : Nat) (l : List (List UInt8)), v = .slice ao l.length c ∧ l.length ≤ 9223372036854775807 ∧ StrsAt w ao l
section
variable {H : Type} {enc : TypeId × Value → H} {w : World} {base : Nat} {held : Bool}
end
end M
namespace MM
/-- A disk with two headers. -/
def rawD (a b : By) : Dsk := (((Dsk.new.write 0 a).2.write half b).2.sync).2
theorem write_live {x : Dsk} (h : Live x) {k : Int} {t : By} (hk : sec k = true) (ht : t.length ≤ 512) : Live (x.write k t).2 ∧ (x.write k t).2.p = x.p ∧ (x.write k t).2.c = x.c ++ [(k, full t)] := by
  rcases wr_run h.dead k t hk ht with ⟨_, h2, h3, h4⟩ | ⟨h1, _⟩
  · refine ⟨⟨h2, ?_⟩, h3, h4⟩
    rcases op_live h.dead (.wr k t) ⟨hk, ht⟩ with ⟨a1, _⟩ | ⟨_, _, _, a4⟩
    · rw [h.fuse] at a1; cases a1
    · rw [h.fuse] at a4; exact a4
  · rcases op_live h.dead (.wr k t) ⟨hk, ht⟩ with ⟨a1, _⟩ | ⟨_, a2, _⟩
    · rw [h.fuse] at a1; cases a1
    · rw [h1] at a2; cases a2
theorem sync_live {x : Dsk} (h : Live x) : Live x.sync.2 ∧ x.sync.2.p = putAll x.p x.c ∧ x.sync.2.c = [] := by
  rcases sync_run h.dead with ⟨_, h2, h3, h4⟩ | ⟨h1, _⟩
  · refine ⟨⟨h2, ?_⟩, h3, h4⟩
    rcases op_live h.dead .sync trivial with ⟨a1, _⟩ | ⟨_, _, _, a4⟩
    · rw [h.fuse] at a1; cases a1
    · rw [h.fuse] at a4; exact a4
  · rcases op_live h.dead .sync trivial with ⟨a1, _⟩ | ⟨_, a2, _⟩
    · rw [h.fuse] at a1; cases a1
    · rw [h1] at a2; cases a2
theorem raw_live {a b : By} (ha : a.length ≤ 512) (hb : b.length ≤ 512) : Live (rawD a b) ∧ (rawD a b).p = putAll (fun _ => zero) [(0, full a), (half, full b)] ∧ (rawD a b).c = [] := by
  obtain ⟨l1, p1, c1⟩ := write_live Live.new (k := 0) (t := a) (by decide) ha
  unfold rawD
  generalize (Dsk.new.write 0 a).2 = x at *
  obtain ⟨l2, p2, c2⟩ := write_live l1 (k := half) (t := b) (by decide) hb
  generalize (x.write half b).2 = y at *
  obtain ⟨l3, p3, c3⟩ := sync_live l2
  refine ⟨l3, ?_, c3⟩
  rw [p3, p2, c2, p1, c1]
  rfl
end MM
open Go Go.RowKit Go.Lib
namespace M
open MM
end M
end Go.Proofs.YtoacmingocmaaaaGreatDoor
/- Numbers as a header's bytes; the disks of SlotsNames. -/
namespace Go.Proofs.YtoacmingocmaaaaGreatDoor
namespace MM
def hdr3 (a b c : Int) : By := dig (u64 a) 8 ++ dig (u64 b) 8 ++ dig (u64 c) 8
theorem hdr3_len (a b c : Int) : (hdr3 a b c).length = 24 := by simp [hdr3]
theorem hdr3_hdr (a n : Nat) (ha : a ≤ top) (hn : n ≤ most) : hdr3 (a : Int) (n : Int) (a : Int) = hdr a n := by
  have e1 : u64 (a : Int) = a := by unfold u64 top at *; omega
  have e2 : u64 (n : Int) = n := by unfold u64 most at *; omega
  unfold hdr3 hdr; rw [e1, e2]
/-- What three numbers say as a header. -/
theorem head3 (a b c : Int) : headOf (full (hdr3 a b c)) = if u64 a ≤ top ∧ u64 b ≤ most ∧ u64 c ≤ top ∧ u64 a = u64 c then (u64 a, u64 b) else (0, 0) := by
  have e1 : (full (hdr3 a b c)).take 8 = dig (u64 a) 8 := by
    rw [full_take (by rw [hdr3_len]; omega)]; unfold hdr3; rw [List.append_assoc, List.take_append_of_le_length (by simp), List.take_of_length_le (by simp)]
  have d1 : (hdr3 a b c).drop 8 = dig (u64 b) 8 ++ dig (u64 c) 8 := by unfold hdr3; rw [List.append_assoc, List.drop_append_of_le_length (by simp), List.drop_of_length_le (by simp), List.nil_append]
  have d2 : (hdr3 a b c).drop 16 = dig (u64 c) 8 := by
    rw [show 16 = 8 + 8 from rfl, ← List.drop_drop, d1, List.drop_append_of_le_length (by simp), List.drop_of_length_le (by simp), List.nil_append]
  have e2 : ((full (hdr3 a b c)).drop 8).take 8 = dig (u64 b) 8 := by rw [full_cut (by rw [hdr3_len]; omega), d1, List.take_append_of_le_length (by simp), List.take_of_length_le (by simp)]
  have e3 : ((full (hdr3 a b c)).drop 16).take 8 = dig (u64 c) 8 := by rw [full_cut (by rw [hdr3_len]; omega), d2, List.take_of_length_le (by simp)]
  have hv : ∀ x : Int, val (dig (u64 x) 8) = u64 x := fun x => by rw [val_dig, Nat.mod_eq_of_lt]; exact u64_lt x
  have hl := full_len (s := hdr3 a b c) (by rw [hdr3_len]; omega)
  unfold headOf
  rw [e1, e2, e3, hv, hv, hv]
  by_cases h : u64 a ≤ top ∧ u64 b ≤ most ∧ u64 c ≤ top ∧ u64 a = u64 c
  · rw [if_pos h, if_pos ⟨by omega, h⟩]
  · rw [if_neg h, if_neg fun h2 => h h2.2]
theorem raw_p {A B : By} (ha : A.length ≤ 512) (hb : B.length ≤ 512) : (rawD A B).p 0 = full A ∧ (rawD A B).p half = full B ∧ ∀ k, k ≠ 0 → k ≠ half → (rawD A B).p k = zero := by
  obtain ⟨_, hp, _⟩ := raw_live ha hb
  rw [hp]
  refine ⟨?_, ?_, fun k h1 h2 => ?_⟩
  · rw [putAll_cons, putAll_cons, putAll_nil, upd_other _ _ (by show (0 : Int) ≠ half; decide)]; exact upd_at _ _ _
  · rw [putAll_cons, putAll_cons, putAll_nil]; exact upd_at _ _ _
  · rw [putAll_cons, putAll_cons, putAll_nil, upd_other _ _ h2, upd_other _ _ h1]
/-- The slots of such a disk. -/
theorem raw_is {A B : By} (ha : A.length ≤ 512) (hb : B.length ≤ 512) : Live (rawD A B) ∧ textV (rawD A B).read = textV (rawD A B).p ∧ ageV (rawD A B).read = ageV (rawD A B).p ∧ slotV (rawD A B).p 0 = ⟨0, (headOf (full A)).1, (headOf (full A)).2⟩ ∧ slotV (rawD A B).p half = ⟨half, (headOf (full B)).1, (headOf (full B)).2⟩ := by
  obtain ⟨h1, _, h3⟩ := raw_live ha hb
  obtain ⟨p0, p1, _⟩ := raw_p ha hb
  obtain ⟨r1, r2, _⟩ := read_of_plain h1.dead h3
  exact ⟨h1, r1, r2, by unfold slotV; rw [p0], by unfold slotV; rw [p1]⟩
theorem empty_head : (headOf (full [])).1 = 0 := head_zero full_nil
theorem raw_bad {h : By} (hl : h.length ≤ 512) (h0 : (headOf (full h)).1 = 0) : Live (rawD h []) ∧ textV (rawD h []).read = none ∧ ageV (rawD h []).read = 0 := by
  obtain ⟨q1, q2, q3, q4, q5⟩ := raw_is hl (B := []) (by simp)
  have he := empty_head
  generalize headOf (full []) = e at he q5
  generalize headOf (full h) = e2 at h0 q4
  have ha : ageV (rawD h []).p = 0 := by
    unfold ageV newV
    rw [q4, q5]
    split
    · exact h0
    · exact he
  exact ⟨q1, by rw [q2]; unfold textV; rw [if_pos ha], q3.trans ha⟩
/-- The headers that are none. -/
def badH : List By := [[], hdr3 0 0 0, hdr3 1 0 2, hdr3 1099511627777 0 1099511627777, hdr3 1 16776705 1, hdr3 (-1) 0 (-1), hdr3 1 (-1) 1]
theorem badH_all : ∀ (k : Nat) (h : By), badH[k]? = some h → h.length ≤ 512 ∧ (headOf (full h)).1 = 0 := fun k h hk => by
  have hm := List.mem_of_getElem? hk
  have bad : ∀ a b c : Int, ((if u64 a ≤ top ∧ u64 b ≤ most ∧ u64 c ≤ top ∧ u64 a = u64 c then (u64 a, u64 b) else (0, 0) : Nat × Nat)).1 = 0 → (hdr3 a b c).length ≤ 512 ∧ (headOf (full (hdr3 a b c))).1 = 0 := fun a b c h => ⟨by rw [hdr3_len]; omega, by rw [head3]; exact h⟩
  unfold badH at hm
  simp only [List.mem_cons, List.not_mem_nil, or_false] at hm
  rcases hm with rfl | rfl | rfl | rfl | rfl | rfl | rfl
  · exact ⟨by simp, empty_head⟩
  all_goals exact bad _ _ _ (by decide)
theorem two_is : textV (rawD (hdr3 7 0 7) (hdr3 7 1 7)).read = some [] ∧ ageV (rawD (hdr3 7 0 7) (hdr3 7 1 7)).read = 7 := by
  obtain ⟨q1, q2, q3, q4, q5⟩ := raw_is (A := hdr3 7 0 7) (B := hdr3 7 1 7) (by rw [hdr3_len]; omega) (by rw [hdr3_len]; omega)
  have h0 : headOf (full (hdr3 7 0 7)) = (7, 0) := by rw [head3]; decide
  have h1 : headOf (full (hdr3 7 1 7)) = (7, 1) := by rw [head3]; decide
  rw [h0] at q4
  rw [h1] at q5
  have hn : newV (rawD (hdr3 7 0 7) (hdr3 7 1 7)).p = ⟨0, 7, 0⟩ := by
    unfold newV firstV; rw [q4, q5]; rfl
  rw [q2, q3]
  refine ⟨?_, by unfold ageV; rw [hn]⟩
  unfold textV ageV
  rw [hn]
  rfl
theorem full_is : Live (rawD (hdr3 1 0 1) (hdr3 1099511627776 2 1099511627776)) ∧ textV (rawD (hdr3 1 0 1) (hdr3 1099511627776 2 1099511627776)).read = some [0, 0] ∧ ageV (rawD (hdr3 1 0 1) (hdr3 1099511627776 2 1099511627776)).read = top := by
  have l1 : (hdr3 1 0 1).length ≤ 512 := by rw [hdr3_len]; omega
  have l2 : (hdr3 1099511627776 2 1099511627776).length ≤ 512 := by rw [hdr3_len]; omega
  obtain ⟨q1, q2, q3, q4, q5⟩ := raw_is l1 l2
  obtain ⟨_, _, hz⟩ := raw_p l1 l2
  have h0 : headOf (full (hdr3 1 0 1)) = (1, 0) := by rw [head3]; decide
  have h1 : headOf (full (hdr3 1099511627776 2 1099511627776)) = (1099511627776, 2) := by rw [head3]; decide
  rw [h0] at q4
  rw [h1] at q5
  generalize rawD (hdr3 1 0 1) (hdr3 1099511627776 2 1099511627776) = z at *
  have hn : newV z.p = ⟨half, 1099511627776, 2⟩ := by
    unfold newV firstV; rw [q4, q5]; rfl
  rw [q2, q3]
  refine ⟨q1, ?_, by unfold ageV; rw [hn]⟩
  unfold textV ageV
  rw [hn]
  have hb : bodyV z.p half 2 = [0, 0] := by
    unfold bodyV
    rw [show secs 2 = 0 + 1 from rfl, rows_succ, show rows z.p half 0 = [] from rfl, List.nil_append, hz _ (by decide) (by decide)]
    rfl
  show (if (1099511627776 : Nat) = 0 then none else some (bodyV z.p half 2)) = _
  rw [if_neg (by omega), hb]
abbrev tY : By := [121]
abbrev tE : By := [101]
theorem last_is : ∃ z1 : Dsk, (rawD [] (hdr3 1099511627775 0 1099511627775)).twice tY = (41, z1) ∧ textV z1.read = some tY ∧ ageV z1.read = top := by
  have l2 : (hdr3 1099511627775 0 1099511627775).length ≤ 512 := by rw [hdr3_len]; omega
  obtain ⟨q1, q2, q3, q4, q5⟩ := raw_is (A := []) (by simp) l2
  have h1 : headOf (full (hdr3 1099511627775 0 1099511627775)) = (1099511627775, 0) := by rw [head3]; decide
  rw [h1] at q5
  generalize rawD [] (hdr3 1099511627775 0 1099511627775) = z at *
  have hn : newV z.p = ⟨half, 1099511627775, 0⟩ := by
    unfold newV firstV; rw [q4, q5]
    have : (headOf (full [])).1 = 0 := empty_head
    simp [this]
  have ha : ageV z.read = 1099511627775 := by rw [q3]; unfold ageV; rw [hn]
  have lY : tY.length ≤ most := by show 1 ≤ 16776704; omega
  obtain ⟨a1, a2, _⟩ := save_ok q1 (t := tY) lY (by rw [ha]; unfold top; omega)
  rw [ha] at a2
  refine ⟨(z.save tY).2, ?_, a2.text, a2.age⟩
  unfold Dsk.twice
  rw [if_pos a1]
  exact save_full a2.live.dead lY a2.age
theorem dead_none {s : Dsk} (h : s.dead = true) : textV s.read = none := by
  have : ageV s.read = 0 := by
    unfold ageV; rw [newV_is]
    show (headOf (s.read _)).1 = 0
    rw [show s.read (newV s.read).at_ = [] by unfold Dsk.read; rw [h]; rfl, headOf_nil]
  unfold textV; rw [if_pos this]
/-- The last disk. -/
theorem dd : ∃ z1 z2 z4 : Dsk, (Dsk.new.setFuse 0).save [] = (42, z1) ∧ z1.dead = true ∧ z1.start.save [] = (0, z2) ∧ Has z2 [] 1 ∧ z2.twice tE = (0, z4) ∧ Has z4 tE 3 ∧ z4.c = [] ∧ z4.p half = full (hdr 2 1) ∧ z4.p 0 = full (hdr 3 1) ∧ z4.p 1 = full tE := by
  have l0 : ([] : By).length ≤ most := Nat.zero_le _
  have lE : tE.length ≤ most := by show 1 ≤ 16776704; omega
  have hd0 : (Dsk.new.setFuse 0).dead = false := (fuse_dead _ _).trans rfl
  have hfu : (Dsk.new.setFuse 0).fuse = some 0 := by unfold Dsk.setFuse; simp
  have ha0 : ageV (Dsk.new.setFuse 0).read = 0 := by rw [fuse_read]; exact new_age
  have hk0 : (othV (Dsk.new.setFuse 0).read).at_ = 0 := by rw [fuse_read, (view_all rfl).2.1]; exact zeros_oth new_zeros
  obtain ⟨c1, c2, c3⟩ := pre_keep (s := Dsk.new.setFuse 0) (t := []) hd0 l0 (by rw [ha0]; exact few_top (by omega)) hfu (by omega)
  have hdead : ((Dsk.new.setFuse 0).save []).2.dead = true := by
    have hk := oth_two (Dsk.new.setFuse 0).read
    have hcnt := ops_count (l := preOps (othV (Dsk.new.setFuse 0).read).at_ []) hd0 (pre_ok hk l0)
    rw [pre_len] at hcnt
    have h42 : ((Dsk.new.setFuse 0).ops (preOps (othV (Dsk.new.setFuse 0).read).at_ [])).1 = 42 ∧ ((Dsk.new.setFuse 0).ops (preOps (othV (Dsk.new.setFuse 0).read).at_ [])).2.dead = true := by
      rcases hcnt with ⟨_, _, _, h4⟩ | ⟨h1, h2, _⟩
      · have := h4 0 hfu; omega
      · exact ⟨h1, h2⟩
    rw [save_eq hd0 l0 (by rw [ha0]; exact few_top (by omega)), if_neg (by rw [h42.1]; simp)]
    exact h42.2
  rw [ha0] at c3
  have hp1 : (othV ((Dsk.new.setFuse 0).save []).2.start.read).at_ = 0 := by
    have hz : firstV ((Dsk.new.setFuse 0).save []).2.start.read = false := by
      rcases othV_at ((Dsk.new.setFuse 0).save []).2.start.read with ⟨_, _, e3⟩ | ⟨_, e2, e3⟩
      · exact e3
      · exfalso
        have hn : newV ((Dsk.new.setFuse 0).save []).2.start.read = slotV ((Dsk.new.setFuse 0).save []).2.start.read 0 := by rw [newV_is, e2]
        unfold ageV at c3
        rw [hn] at c3
        unfold firstV at e3
        rw [c3] at e3
        simp at e3
    unfold othV; rw [hz]; rfl
  obtain ⟨z1, hz1⟩ : ∃ z, ((Dsk.new.setFuse 0).save []).2 = z := ⟨_, rfl⟩
  have e1 := pair_eq c1
  rw [hz1] at e1 c3 hdead hp1
  obtain ⟨a1, a2, a3⟩ := save_ok (s := z1.start) ⟨rfl, rfl⟩ (t := []) l0 (by rw [c3]; exact few_top (by omega))
  rw [c3] at a2
  obtain ⟨z2, hz2⟩ : ∃ z, (z1.start.save []).2 = z := ⟨_, rfl⟩
  have e2 := pair_eq a1
  rw [hz2] at e2 a2 a3
  have hp2 : (othV z2.read).at_ = half := by
    rw [(read_of_plain a3.live a3.c).2.2]
    rcases othV_at z2.p with ⟨_, n2, _⟩ | ⟨o2, _⟩
    · rw [a3.new, hp1] at n2; exact absurd n2 (by decide)
    · exact o2
  obtain ⟨b1, b2, b3⟩ := save_ok a2.live (t := tE) lE (by rw [a2.age]; exact few_top (by omega))
  have hh3 := b3.head
  have hage2 := a2.age
  rw [hp2, hage2] at hh3
  rw [hage2] at b2
  obtain ⟨z3, hz3⟩ : ∃ z, (z2.save tE).2 = z := ⟨_, rfl⟩
  have e3 := pair_eq b1
  rw [hz3] at e3 b2 b3 hh3
  have hp3 : (othV z3.read).at_ = 0 := by
    rw [(read_of_plain b3.live b3.c).2.2]
    rcases othV_at z3.p with ⟨o2, _⟩ | ⟨_, n2, _⟩
    · exact o2
    · rw [b3.new, hp2] at n2; exact absurd n2 (by decide)
  obtain ⟨d1, d2, d3⟩ := save_ok b2.live (t := tE) lE (by rw [b2.age]; exact few_top (by omega))
  have hh4 := d3.head
  have ht4 := d3.text 0 (by show 0 < secs 1; decide)
  have ho4 := d3.out half (by rw [hp3]; decide)
  have hage3 := b2.age
  rw [hp3, hage3] at hh4
  rw [hp3] at ht4
  rw [b3.c, putAll_nil, hh3] at ho4
  rw [hage3] at d2
  obtain ⟨z4, hz4⟩ : ∃ z, (z3.save tE).2 = z := ⟨_, rfl⟩
  have e4 := pair_eq d1
  rw [hz4] at e4 d2 d3 hh4 ht4 ho4
  refine ⟨z1, z2, z4, e1, hdead, e2, a2, ?_, d2, d3.c, ho4, hh4, ?_⟩
  · unfold Dsk.twice
    rw [e3]
    simp only [if_true]
    exact e4
  · exact ht4
end MM
open Go Go.RowKit Go.Lib
namespace M
open MM
/-- Three numbers in a row of their own. -/
def h3 (l : List Int) (k : Nat) : By := (l.take k).flatMap fun x => dig (u64 x) 8
set_option maxRecDepth 100000 in
set_option maxHeartbeats 4000000 in
theorem nums3 (a b c : Int) (w : World) : Calls Tryz.prog 50 #[.slice (some ⟨w.heap.size, 0, none⟩) 3 3] (w.alloc (.cells #[.int .i64 a, .int .i64 b, .int .i64 c] 3)) fun e w' => e = .returned (.string ⟨(hdr3 a b c).toArray⟩) ∧ Below w.heap.size w w' := by
  have hg := heap_alloc_new w (.cells #[.int .i64 a, .int .i64 b, .int .i64 c] 3)
  have HB := Lib.hid (below_box w (.cells #[.int .i64 a, .int .i64 b, .int .i64 c] 3))
  obtain ⟨l, hl⟩ : ∃ l, [a, b, c] = l := ⟨_, rfl⟩
  have hll : l.length = 3 := by rw [← hl]; rfl
  have HC : Hid (∀ k x, l[k]? = some x → (w.alloc (.cells #[.int .i64 a, .int .i64 b, .int .i64 c] 3)).cell? ⟨w.heap.size, k, none⟩ = some (.int .i64 x)) := Lib.hid fun k x hx => by
    rw [cell_of_row _ _ k _ _ _ hg]
    rw [← hl] at hx
    match k, hx with
    | 0, hx => obtain rfl : a = x := by simpa using hx
               rfl
    | 1, hx => obtain rfl : b = x := by simpa using hx
               rfl
    | 2, hx => obtain rfl : c = x := by simpa using hx
               rfl
    | k + 3, hx => simp at hx
  have hfin : hdr3 a b c = h3 l 3 := by rw [← hl]; unfold hdr3 h3; simp
  have HLT := Lib.hid (row_lt hg)
  rw [hfin]
  clear hfin hg hl
  generalize w.alloc (.cells #[.int .i64 a, .int .i64 b, .int .i64 c] 3) = w1 at *
  generalize hgg : w.heap.size = g at *
  go_enter Tryz.func50, Tryz.ntmps50
  go_wp2_with fail
  go_loopw [3, 4] (fun s3 s4 wx => ∃ k : Nat, k ≤ 3 ∧ s4 = .int .i64 (k : Int) ∧ s3 = .string ⟨(h3 l k).toArray⟩ ∧ Hid ((h3 l k).length ≤ 8 * k) ∧ Hid (Below w1.heap.size w1 wx)) (fun _ s4 _ => 3 - (RowKit.intOf s4).toNat)
  case atStart => exact ⟨0, Nat.zero_le _, rfl, rfl, Lib.hid (by simp [h3]), Lib.hid (Below.refl _ _)⟩
  case round =>
    obtain ⟨k, hk, rfl, rfl, HLEN, HBW⟩ := hrel
    by_cases hlt : k < 3
    · obtain ⟨x, hx⟩ : ∃ x, l[k]? = some x := ⟨_, List.getElem?_eq_getElem (by omega)⟩
      have hc : wr.cell? ⟨g, k, none⟩ = some (.int .i64 x) := (HBW.out.cell (p := ⟨g, k, none⟩) HLT.out).trans (HC.out k x hx)
      have hw := wrap_u64 x
      have hnx : h3 l (k + 1) = h3 l k ++ dig (u64 x) 8 := by unfold h3; rw [List.take_add_one, hx, List.flatMap_append]; simp
      have HN := Lib.hid (num_any (h3 l k) (u64 x) (by have := HLEN.out; omega))
      have HLEN2 : Hid ((h3 l (k + 1)).length ≤ 8 * (k + 1)) := Lib.hid (by rw [hnx, List.length_append, dig_len]; have := HLEN.out; omega)
      have hki : (k : Int) < 3 := by omega
      rw [← hnx] at HN
      clear hnx hx HLEN
      obtain ⟨q2, hq2⟩ : ∃ q2, h3 l (k + 1) = q2 := ⟨_, rfl⟩
      rw [hq2] at HN HLEN2
      have HQ2 := Lib.hid hq2
      clear hq2
      generalize h3 l k = q1 at *
      generalize u64 x = ux at *
      go_wp2_with (go_at_call 69; (with_reducible refine (HN.out.at _).mono ?_); rintro e w2 ⟨rfl, hb⟩; have HBW2 := Lib.hid (bnext HBW.out hb); clear hb)
      go_roundw
      case rel => exact ⟨k + 1, by omega, by go_num, by rw [HQ2.out], by rw [HQ2.out]; exact HLEN2, HBW2⟩
      case measure => simp [RowKit.intOf]; omega
    · obtain rfl : k = 3 := by omega
      go_wp2_with fail
      go_ret
      exact ⟨rfl, HB.out.trans (HBW.out.mono (hgg ▸ HB.out.size))⟩
end M
end Go.Proofs.YtoacmingocmaaaaGreatDoor
