/- The walk of GroupNames: the closed law of layer 2. -/
import Derived.Test.YtmeaiindbkkkiaaDoorGrpNames1
import Derived.Deep.Cut
import Derived.Deep.DeepCutAuto
import Derived.Deep.RegionWith
import Derived.LoopTactic
namespace Go.Proofs.YtmeaiindbkkkiaaDoor
open Go Go.RowKit Go.Lib
namespace GroupNames
open M
theorem inr_set {w0 w : World} {b : Nat} {cs : Array Value} {t : TypeId} {rows : List (Nat × Array Value × TypeId)} (h : Inr w0 ((b, cs, t) :: rows) w) (hne : ∀ r ∈ rows, r.1 ≠ b) (hb : w0.heap.size ≤ b) (j : Nat) (u : Value) : Inr w0 ((b, cs.setIfInBounds j u, t) :: rows) (w.setCell ⟨b, j, none⟩ u) := by
  have h1 := h.rows (b, cs, t) (by simp)
  refine ⟨fun r hr => ?_, h.below.trans ⟨rfl, rfl, rfl, by simp, fun k hk => Below.heap_setCell w ⟨b, j, none⟩ u k (by simp; omega)⟩⟩
  rcases List.mem_cons.1 hr with e | hr
  · subst e
    simp only at h1
    simp [World.setCell, Array.getElem?_modify, h1]
  · exact (Below.heap_setCell w ⟨b, j, none⟩ u r.1 (hne r hr)).trans (h.rows r (List.mem_cons_of_mem _ hr))
theorem inr_free {w0 w : World} {b : Nat} {cs : Array Value} {t : TypeId} {rows : List (Nat × Array Value × TypeId)} (h : Inr w0 ((b, cs, t) :: rows) w) (j : Nat) : w.frozen? ⟨b, j, none⟩ = false := by
  have h1 := h.rows (b, cs, t) (by simp)
  simp only at h1
  simp [World.frozen?, h1]
theorem inr_tail {w0 w : World} {r : Nat × Array Value × TypeId} {rows : List (Nat × Array Value × TypeId)} (h : Inr w0 (r :: rows) w) : Inr w0 rows w := ⟨fun x hx => h.rows x (List.mem_cons_of_mem _ hx), h.below⟩
theorem eval_put1 {a : Act} {d : Nat} {v : Value} (h : d ≠ 1) : (a.put (some d) v).eval (.tmp 1) = a.eval (.tmp 1) := by
  show (a.tmps.setIfInBounds d v).getD 1 undef = a.tmps.getD 1 undef
  rw [Array.getD_eq_getD_getElem?, Array.getD_eq_getD_getElem?, Array.getElem?_setIfInBounds_ne h]
theorem great_set1 : great0.cells.setIfInBounds 2 (.int .u64 234060095121088422) = great1.cells := rfl
theorem great_set2 : great1.cells.setIfInBounds 3 (.int .u64 814652170479903933) = great2.cells := rfl
theorem nums_get : ∀ k, k < 12 → (#[.int .u64 1, .int .u64 4, .int .u64 16, .int .u64 18, .int .u64 3, .int .u64 12, .int .u64 2, .int .u64 8, .int .u64 9, .int .u64 13, .int .u64 6, .int .u64 1] : Array Value)[k]? = some (.int .u64 ((pw4.getD k 0 : Nat) : Int))
  | 0, _ => rfl
  | 1, _ => rfl
  | 2, _ => rfl
  | 3, _ => rfl
  | 4, _ => rfl
  | 5, _ => rfl
  | 6, _ => rfl
  | 7, _ => rfl
  | 8, _ => rfl
  | 9, _ => rfl
  | 10, _ => rfl
  | 11, _ => rfl
  | k + 12, h => absurd h (by omega)
theorem run_build (parts : Array (Nat × Value)) (cs : Array Value) (w : World)
    (hf : Instr.fill (fun i => some (i * 12, 12)) (Array.map (fun x => (#[.int .u64 0, .int .u64 0, .int .u64 0, .int .u64 0, .int .i64 0, .int .i64 0, .int .i64 0, .int .i64 0, .int .i64 0, .int .i64 0, .int .i64 0, .int .i64 0] : Array Value)[x % 12]!) (Array.range (18 * 12))) parts.toList = some cs) :
    (Instr.buildSlice 27 18 parts).run Tryd.prog w = .ok (.slice (some ⟨w.heap.size, 0, none⟩) 18 18) (w.alloc (.cells cs 25)) := by
  unfold Instr.buildSlice
  simp only [Sem.run_bind, Tryd.runUnderlying27, Result.andThen_ok, Tryd.sizeOf25]
  rw [if_neg (by decide), if_neg (by decide)]
  simp only [Sem.run_bind, Tryd.zeroValue25, Result.andThen_ok, Sem.run_pure, Value.cells]
  rw [show (#[Value.int .u64 0, .int .u64 0, .int .u64 0, .int .u64 0, .int .i64 0, .int .i64 0, .int .i64 0, .int .i64 0, .int .i64 0, .int .i64 0, .int .i64 0, .int .i64 0] : Array Value).size = 12 from rfl, hf]
  simp only [Sem.run_bind, newRow]
  simp [go_sem]
def parts18 : Array (Nat × Value) := #[(0, .agg sm.cells), (1, .agg sm.cells), (2, .agg sm.cells), (3, .agg sm.cells), (4, .agg sm.cells), (5, .agg sm.cells), (6, .agg sm.cells), (7, .agg sm.cells), (8, .agg sm.cells), (9, .agg sm.cells), (10, .agg sm.cells), (11, .agg sm.cells), (12, .agg sm.cells), (13, .agg sm.cells), (14, .agg sm.cells), (15, .agg sm.cells), (16, .agg sm.cells), (17, .agg sm.cells)]
set_option maxRecDepth 100000 in
theorem fill18 : Instr.fill (fun i => some (i * 12, 12)) (Array.map (fun x => (#[.int .u64 0, .int .u64 0, .int .u64 0, .int .u64 0, .int .i64 0, .int .i64 0, .int .i64 0, .int .i64 0, .int .i64 0, .int .i64 0, .int .i64 0, .int .i64 0] : Array Value)[x % 12]!) (Array.range (18 * 12))) parts18.toList = some bad0 := by kernel_rfl
theorem wpList_build18 {ops : Array Oper} {rest : List Oper} {o : Oper} {a : Act} {w : World} {Q : Exit → Act → World → Prop} (hgd : o.guard = none) (ps : Array (Nat × Operand)) (ho : o.op = .buildSlice 27 18 ps) (hv : ps.map (fun (i, x) => (i, a.eval x)) = parts18)
    (h : wpList Tryd.prog ops Q rest (a.put o.dst (.slice (some ⟨w.heap.size, 0, none⟩) 18 18)) (w.alloc (.cells bad0 25))) : wpList Tryd.prog ops Q (o :: rest) a w :=
  wpList_plain hgd fun K hK => by
    have hr := run_build parts18 bad0 w fill18
    unfold Oper.wp execOp
    simp only [ho, hv, Sem.run_bind, hr, Result.andThen_ok, Sem.run_pure]
    exact hK _ _ h
set_option maxHeartbeats 8000000 in
set_option maxRecDepth 100000 in
theorem walk (w : World) (hl : Laid w) : Calls Tryd.prog 3 #[] w fun e w' => e = .returned (.bool true) ∧ Below w.heap.size w w' := by
  have HK := works_any
  have HS := small_any
  have HL := Lib.hid hl
  clear hl
  go_enter Tryd.func3, Tryd.ntmps3
  go_upto_region 4 with (first | (go_at_call 10; (with_reducible refine (HK.at _ HL.out).mono ?_); rintro e w0 ⟨rfl, hb⟩; have HB := Lib.hid hb; clear hb) | (go_at_call 11; (with_reducible refine (HS.at _).mono ?_); rintro e w1 ⟨rfl, hb⟩; have HB2 := Lib.hid (HB.out.trans (hb.mono HB.out.size)); clear hb))
  have HJ : Hid (Inr w [(w1.heap.size, sm.cells, 25)] (w1.alloc (.cells sm.cells 25))) := Lib.hid ((⟨fun r hr => by simp at hr, HB2.out⟩ : Inr w [] w1).put sm.cells 25)
  have HG : Hid (w.heap.size ≤ w1.heap.size) := HB2.out.size
  clear HK HS HB HB2
  generalize w1.heap.size = g1 at *
  generalize w1.alloc (.cells _ 25) = w2 at *
  go_upto_region 5 with ((refine wpList_load_row (by rfl) 25 (.tmp 1) (by rfl) g1 (by rfl) 25 sm.cells (0, 0) _ (HJ.out.rows (g1, sm.cells, 25) (by simp)) Tryd.underlying25 rfl (by kernel_rfl) ?_); generalize ha : Act.put _ _ _ = a0; have x0 : a0.eval (.tmp 1) = .pointer (some ⟨g1, 0, none⟩) := (by rw [← ha]; rfl); (refine wpList_load_row (by rfl) 25 (.tmp 1) (by rfl) g1 x0 25 sm.cells (0, 0) _ (HJ.out.rows (g1, sm.cells, 25) (by simp)) Tryd.underlying25 rfl (by kernel_rfl) ?_); have x1 := (eval_put1 (d := 26) (v := .agg sm.cells) (by decide)).trans x0; (refine wpList_load_row (by rfl) 25 (.tmp 1) (by rfl) g1 x1 25 sm.cells (0, 0) _ (HJ.out.rows (g1, sm.cells, 25) (by simp)) Tryd.underlying25 rfl (by kernel_rfl) ?_); have x2 := (eval_put1 (d := 27) (v := .agg sm.cells) (by decide)).trans x1; (refine wpList_load_row (by rfl) 25 (.tmp 1) (by rfl) g1 x2 25 sm.cells (0, 0) _ (HJ.out.rows (g1, sm.cells, 25) (by simp)) Tryd.underlying25 rfl (by kernel_rfl) ?_); have x3 := (eval_put1 (d := 28) (v := .agg sm.cells) (by decide)).trans x2; (refine wpList_load_row (by rfl) 25 (.tmp 1) (by rfl) g1 x3 25 sm.cells (0, 0) _ (HJ.out.rows (g1, sm.cells, 25) (by simp)) Tryd.underlying25 rfl (by kernel_rfl) ?_); have x4 := (eval_put1 (d := 29) (v := .agg sm.cells) (by decide)).trans x3; (refine wpList_load_row (by rfl) 25 (.tmp 1) (by rfl) g1 x4 25 sm.cells (0, 0) _ (HJ.out.rows (g1, sm.cells, 25) (by simp)) Tryd.underlying25 rfl (by kernel_rfl) ?_); have x5 := (eval_put1 (d := 30) (v := .agg sm.cells) (by decide)).trans x4; (refine wpList_load_row (by rfl) 25 (.tmp 1) (by rfl) g1 x5 25 sm.cells (0, 0) _ (HJ.out.rows (g1, sm.cells, 25) (by simp)) Tryd.underlying25 rfl (by kernel_rfl) ?_); have x6 := (eval_put1 (d := 31) (v := .agg sm.cells) (by decide)).trans x5; (refine wpList_load_row (by rfl) 25 (.tmp 1) (by rfl) g1 x6 25 sm.cells (0, 0) _ (HJ.out.rows (g1, sm.cells, 25) (by simp)) Tryd.underlying25 rfl (by kernel_rfl) ?_); have x7 := (eval_put1 (d := 32) (v := .agg sm.cells) (by decide)).trans x6; (refine wpList_load_row (by rfl) 25 (.tmp 1) (by rfl) g1 x7 25 sm.cells (0, 0) _ (HJ.out.rows (g1, sm.cells, 25) (by simp)) Tryd.underlying25 rfl (by kernel_rfl) ?_); have x8 := (eval_put1 (d := 33) (v := .agg sm.cells) (by decide)).trans x7; (refine wpList_load_row (by rfl) 25 (.tmp 1) (by rfl) g1 x8 25 sm.cells (0, 0) _ (HJ.out.rows (g1, sm.cells, 25) (by simp)) Tryd.underlying25 rfl (by kernel_rfl) ?_); have x9 := (eval_put1 (d := 34) (v := .agg sm.cells) (by decide)).trans x8; (refine wpList_load_row (by rfl) 25 (.tmp 1) (by rfl) g1 x9 25 sm.cells (0, 0) _ (HJ.out.rows (g1, sm.cells, 25) (by simp)) Tryd.underlying25 rfl (by kernel_rfl) ?_); have x10 := (eval_put1 (d := 35) (v := .agg sm.cells) (by decide)).trans x9; (refine wpList_load_row (by rfl) 25 (.tmp 1) (by rfl) g1 x10 25 sm.cells (0, 0) _ (HJ.out.rows (g1, sm.cells, 25) (by simp)) Tryd.underlying25 rfl (by kernel_rfl) ?_); have x11 := (eval_put1 (d := 36) (v := .agg sm.cells) (by decide)).trans x10; (refine wpList_load_row (by rfl) 25 (.tmp 1) (by rfl) g1 x11 25 sm.cells (0, 0) _ (HJ.out.rows (g1, sm.cells, 25) (by simp)) Tryd.underlying25 rfl (by kernel_rfl) ?_); have x12 := (eval_put1 (d := 37) (v := .agg sm.cells) (by decide)).trans x11; (refine wpList_load_row (by rfl) 25 (.tmp 1) (by rfl) g1 x12 25 sm.cells (0, 0) _ (HJ.out.rows (g1, sm.cells, 25) (by simp)) Tryd.underlying25 rfl (by kernel_rfl) ?_); have x13 := (eval_put1 (d := 38) (v := .agg sm.cells) (by decide)).trans x12; (refine wpList_load_row (by rfl) 25 (.tmp 1) (by rfl) g1 x13 25 sm.cells (0, 0) _ (HJ.out.rows (g1, sm.cells, 25) (by simp)) Tryd.underlying25 rfl (by kernel_rfl) ?_); have x14 := (eval_put1 (d := 39) (v := .agg sm.cells) (by decide)).trans x13; (refine wpList_load_row (by rfl) 25 (.tmp 1) (by rfl) g1 x14 25 sm.cells (0, 0) _ (HJ.out.rows (g1, sm.cells, 25) (by simp)) Tryd.underlying25 rfl (by kernel_rfl) ?_); have x15 := (eval_put1 (d := 40) (v := .agg sm.cells) (by decide)).trans x14; (refine wpList_load_row (by rfl) 25 (.tmp 1) (by rfl) g1 x15 25 sm.cells (0, 0) _ (HJ.out.rows (g1, sm.cells, 25) (by simp)) Tryd.underlying25 rfl (by kernel_rfl) ?_); have x16 := (eval_put1 (d := 41) (v := .agg sm.cells) (by decide)).trans x15; (refine wpList_load_row (by rfl) 25 (.tmp 1) (by rfl) g1 x16 25 sm.cells (0, 0) _ (HJ.out.rows (g1, sm.cells, 25) (by simp)) Tryd.underlying25 rfl (by kernel_rfl) ?_); have x17 := (eval_put1 (d := 42) (v := .agg sm.cells) (by decide)).trans x16; clear x0 x1 x2 x3 x4 x5 x6 x7 x8 x9 x10 x11 x12 x13 x14 x15 x16 x17; subst ha; simp only [Act.put, List.setIfInBounds_toArray, List.set_cons_zero, List.set_cons_succ]; (refine wpList_build18 (by rfl) _ (by rfl) (by simp only [List.map_toArray, List.map_cons, List.map_nil]; rfl) ?_))
  have HJ2 : Hid (Inr w [(w2.heap.size, bad0, 25), (g1, sm.cells, 25)] (w2.alloc (.cells bad0 25))) := Lib.hid (HJ.out.put bad0 25)
  have HG2 : Hid (w.heap.size ≤ w2.heap.size ∧ g1 < w2.heap.size) := Lib.hid ⟨HJ.out.below.size, row_lt (HJ.out.rows (g1, sm.cells, 25) (by simp))⟩
  clear HJ
  generalize w2.alloc (.cells bad0 25) = W0 at *
  generalize w2.heap.size = gb at *

  have hc : W0.cell? ⟨gb, 2, none⟩ = some (.int .u64 4) := (HJ2.out.cell (b := gb) (cs := bad0) (t := 25) (by simp) 2).trans (by kernel_rfl)
  have hf : W0.frozen? ⟨gb, 2, none⟩ = false := inr_free HJ2.out 2
  go_upto_region 6 with fail
  replace HJ2 := Lib.hid (inr_set HJ2.out (fun r hr => by obtain rfl := List.mem_singleton.1 hr; have := HG2.out; show g1 ≠ gb; omega) HG2.out.1 2 (.int .u64 5))
  clear hc hf
  generalize W0.setCell ⟨gb, 2, none⟩ (.int .u64 5) = W1 at *

  have hc : W1.cell? ⟨gb, 17, none⟩ = some (.int .i64 4) := (HJ2.out.cell (b := gb) (cs := (bad0.setIfInBounds 2 (.int .u64 5))) (t := 25) (by simp) 17).trans (by kernel_rfl)
  have hf : W1.frozen? ⟨gb, 17, none⟩ = false := inr_free HJ2.out 17
  go_upto_region 7 with fail
  replace HJ2 := Lib.hid (inr_set HJ2.out (fun r hr => by obtain rfl := List.mem_singleton.1 hr; have := HG2.out; show g1 ≠ gb; omega) HG2.out.1 17 (.int .i64 3))
  clear hc hf
  generalize W1.setCell ⟨gb, 17, none⟩ (.int .i64 3) = W2 at *

  have hc : W2.cell? ⟨gb, 34, none⟩ = some (.int .i64 1) := (HJ2.out.cell (b := gb) (cs := ((bad0.setIfInBounds 2 (.int .u64 5)).setIfInBounds 17 (.int .i64 3))) (t := 25) (by simp) 34).trans (by kernel_rfl)
  have hf : W2.frozen? ⟨gb, 34, none⟩ = false := inr_free HJ2.out 34
  go_upto_region 8 with fail
  replace HJ2 := Lib.hid (inr_set HJ2.out (fun r hr => by obtain rfl := List.mem_singleton.1 hr; have := HG2.out; show g1 ≠ gb; omega) HG2.out.1 34 (.int .i64 3))
  clear hc hf
  generalize W2.setCell ⟨gb, 34, none⟩ (.int .i64 3) = W3 at *

  have hc : W3.cell? ⟨gb, 39, none⟩ = some (.int .u64 9) := (HJ2.out.cell (b := gb) (cs := (((bad0.setIfInBounds 2 (.int .u64 5)).setIfInBounds 17 (.int .i64 3)).setIfInBounds 34 (.int .i64 3))) (t := 25) (by simp) 39).trans (by kernel_rfl)
  have hf : W3.frozen? ⟨gb, 39, none⟩ = false := inr_free HJ2.out 39
  go_upto_region 9 with fail
  replace HJ2 := Lib.hid (inr_set HJ2.out (fun r hr => by obtain rfl := List.mem_singleton.1 hr; have := HG2.out; show g1 ≠ gb; omega) HG2.out.1 39 (.int .u64 1))
  clear hc hf
  generalize W3.setCell ⟨gb, 39, none⟩ (.int .u64 1) = W4 at *

  have hc : W4.cell? ⟨gb, 50, none⟩ = some (.int .u64 4) := (HJ2.out.cell (b := gb) (cs := ((((bad0.setIfInBounds 2 (.int .u64 5)).setIfInBounds 17 (.int .i64 3)).setIfInBounds 34 (.int .i64 3)).setIfInBounds 39 (.int .u64 1))) (t := 25) (by simp) 50).trans (by kernel_rfl)
  have hf : W4.frozen? ⟨gb, 50, none⟩ = false := inr_free HJ2.out 50
  go_upto_region 10 with fail
  replace HJ2 := Lib.hid (inr_set HJ2.out (fun r hr => by obtain rfl := List.mem_singleton.1 hr; have := HG2.out; show g1 ≠ gb; omega) HG2.out.1 50 (.int .u64 0))
  clear hc hf
  generalize W4.setCell ⟨gb, 50, none⟩ (.int .u64 0) = W5 at *

  have hc : W5.cell? ⟨gb, 61, none⟩ = some (.int .u64 11) := (HJ2.out.cell (b := gb) (cs := (((((bad0.setIfInBounds 2 (.int .u64 5)).setIfInBounds 17 (.int .i64 3)).setIfInBounds 34 (.int .i64 3)).setIfInBounds 39 (.int .u64 1)).setIfInBounds 50 (.int .u64 0))) (t := 25) (by simp) 61).trans (by kernel_rfl)
  have hf : W5.frozen? ⟨gb, 61, none⟩ = false := inr_free HJ2.out 61
  go_upto_region 11 with fail
  replace HJ2 := Lib.hid (inr_set HJ2.out (fun r hr => by obtain rfl := List.mem_singleton.1 hr; have := HG2.out; show g1 ≠ gb; omega) HG2.out.1 61 (.int .u64 22))
  clear hc hf
  generalize W5.setCell ⟨gb, 61, none⟩ (.int .u64 22) = W6 at *

  have hc : W6.cell? ⟨gb, 72, none⟩ = some (.int .u64 23) := (HJ2.out.cell (b := gb) (cs := ((((((bad0.setIfInBounds 2 (.int .u64 5)).setIfInBounds 17 (.int .i64 3)).setIfInBounds 34 (.int .i64 3)).setIfInBounds 39 (.int .u64 1)).setIfInBounds 50 (.int .u64 0)).setIfInBounds 61 (.int .u64 22))) (t := 25) (by simp) 72).trans (by kernel_rfl)
  have hf : W6.frozen? ⟨gb, 72, none⟩ = false := inr_free HJ2.out 72
  go_upto_region 12 with fail
  replace HJ2 := Lib.hid (inr_set HJ2.out (fun r hr => by obtain rfl := List.mem_singleton.1 hr; have := HG2.out; show g1 ≠ gb; omega) HG2.out.1 72 (.int .u64 22))
  clear hc hf
  generalize W6.setCell ⟨gb, 72, none⟩ (.int .u64 22) = W7 at *

  have hc : W7.cell? ⟨gb, 90, none⟩ = some (.int .i64 1) := (HJ2.out.cell (b := gb) (cs := (((((((bad0.setIfInBounds 2 (.int .u64 5)).setIfInBounds 17 (.int .i64 3)).setIfInBounds 34 (.int .i64 3)).setIfInBounds 39 (.int .u64 1)).setIfInBounds 50 (.int .u64 0)).setIfInBounds 61 (.int .u64 22)).setIfInBounds 72 (.int .u64 22))) (t := 25) (by simp) 90).trans (by kernel_rfl)
  have hf : W7.frozen? ⟨gb, 90, none⟩ = false := inr_free HJ2.out 90
  go_upto_region 13 with fail
  replace HJ2 := Lib.hid (inr_set HJ2.out (fun r hr => by obtain rfl := List.mem_singleton.1 hr; have := HG2.out; show g1 ≠ gb; omega) HG2.out.1 90 (.int .i64 0))
  clear hc hf
  generalize W7.setCell ⟨gb, 90, none⟩ (.int .i64 0) = W8 at *

  have hc : W8.cell? ⟨gb, 102, none⟩ = some (.int .i64 1) := (HJ2.out.cell (b := gb) (cs := ((((((((bad0.setIfInBounds 2 (.int .u64 5)).setIfInBounds 17 (.int .i64 3)).setIfInBounds 34 (.int .i64 3)).setIfInBounds 39 (.int .u64 1)).setIfInBounds 50 (.int .u64 0)).setIfInBounds 61 (.int .u64 22)).setIfInBounds 72 (.int .u64 22)).setIfInBounds 90 (.int .i64 0))) (t := 25) (by simp) 102).trans (by kernel_rfl)
  have hf : W8.frozen? ⟨gb, 102, none⟩ = false := inr_free HJ2.out 102
  go_upto_region 14 with fail
  replace HJ2 := Lib.hid (inr_set HJ2.out (fun r hr => by obtain rfl := List.mem_singleton.1 hr; have := HG2.out; show g1 ≠ gb; omega) HG2.out.1 102 (.int .i64 2))
  clear hc hf
  generalize W8.setCell ⟨gb, 102, none⟩ (.int .i64 2) = W9 at *

  have hc : W9.cell? ⟨gb, 112, none⟩ = some (.int .i64 4) := (HJ2.out.cell (b := gb) (cs := (((((((((bad0.setIfInBounds 2 (.int .u64 5)).setIfInBounds 17 (.int .i64 3)).setIfInBounds 34 (.int .i64 3)).setIfInBounds 39 (.int .u64 1)).setIfInBounds 50 (.int .u64 0)).setIfInBounds 61 (.int .u64 22)).setIfInBounds 72 (.int .u64 22)).setIfInBounds 90 (.int .i64 0)).setIfInBounds 102 (.int .i64 2))) (t := 25) (by simp) 112).trans (by kernel_rfl)
  have hf : W9.frozen? ⟨gb, 112, none⟩ = false := inr_free HJ2.out 112
  go_upto_region 15 with fail
  replace HJ2 := Lib.hid (inr_set HJ2.out (fun r hr => by obtain rfl := List.mem_singleton.1 hr; have := HG2.out; show g1 ≠ gb; omega) HG2.out.1 112 (.int .i64 3))
  clear hc hf
  generalize W9.setCell ⟨gb, 112, none⟩ (.int .i64 3) = W10 at *

  have hc : W10.cell? ⟨gb, 124, none⟩ = some (.int .i64 4) := (HJ2.out.cell (b := gb) (cs := ((((((((((bad0.setIfInBounds 2 (.int .u64 5)).setIfInBounds 17 (.int .i64 3)).setIfInBounds 34 (.int .i64 3)).setIfInBounds 39 (.int .u64 1)).setIfInBounds 50 (.int .u64 0)).setIfInBounds 61 (.int .u64 22)).setIfInBounds 72 (.int .u64 22)).setIfInBounds 90 (.int .i64 0)).setIfInBounds 102 (.int .i64 2)).setIfInBounds 112 (.int .i64 3))) (t := 25) (by simp) 124).trans (by kernel_rfl)
  have hf : W10.frozen? ⟨gb, 124, none⟩ = false := inr_free HJ2.out 124
  go_upto_region 16 with fail
  replace HJ2 := Lib.hid (inr_set HJ2.out (fun r hr => by obtain rfl := List.mem_singleton.1 hr; have := HG2.out; show g1 ≠ gb; omega) HG2.out.1 124 (.int .i64 9))
  clear hc hf
  generalize W10.setCell ⟨gb, 124, none⟩ (.int .i64 9) = W11 at *

  have hc : W11.cell? ⟨gb, 139, none⟩ = some (.int .i64 1) := (HJ2.out.cell (b := gb) (cs := (((((((((((bad0.setIfInBounds 2 (.int .u64 5)).setIfInBounds 17 (.int .i64 3)).setIfInBounds 34 (.int .i64 3)).setIfInBounds 39 (.int .u64 1)).setIfInBounds 50 (.int .u64 0)).setIfInBounds 61 (.int .u64 22)).setIfInBounds 72 (.int .u64 22)).setIfInBounds 90 (.int .i64 0)).setIfInBounds 102 (.int .i64 2)).setIfInBounds 112 (.int .i64 3)).setIfInBounds 124 (.int .i64 9))) (t := 25) (by simp) 139).trans (by kernel_rfl)
  have hf : W11.frozen? ⟨gb, 139, none⟩ = false := inr_free HJ2.out 139
  go_upto_region 17 with fail
  replace HJ2 := Lib.hid (inr_set HJ2.out (fun r hr => by obtain rfl := List.mem_singleton.1 hr; have := HG2.out; show g1 ≠ gb; omega) HG2.out.1 139 (.int .i64 3))
  clear hc hf
  generalize W11.setCell ⟨gb, 139, none⟩ (.int .i64 3) = W12 at *

  have hc : W12.cell? ⟨gb, 152, none⟩ = some (.int .i64 1) := (HJ2.out.cell (b := gb) (cs := ((((((((((((bad0.setIfInBounds 2 (.int .u64 5)).setIfInBounds 17 (.int .i64 3)).setIfInBounds 34 (.int .i64 3)).setIfInBounds 39 (.int .u64 1)).setIfInBounds 50 (.int .u64 0)).setIfInBounds 61 (.int .u64 22)).setIfInBounds 72 (.int .u64 22)).setIfInBounds 90 (.int .i64 0)).setIfInBounds 102 (.int .i64 2)).setIfInBounds 112 (.int .i64 3)).setIfInBounds 124 (.int .i64 9)).setIfInBounds 139 (.int .i64 3))) (t := 25) (by simp) 152).trans (by kernel_rfl)
  have hf : W12.frozen? ⟨gb, 152, none⟩ = false := inr_free HJ2.out 152
  go_upto_region 18 with fail
  replace HJ2 := Lib.hid (inr_set HJ2.out (fun r hr => by obtain rfl := List.mem_singleton.1 hr; have := HG2.out; show g1 ≠ gb; omega) HG2.out.1 152 (.int .i64 0))
  clear hc hf
  generalize W12.setCell ⟨gb, 152, none⟩ (.int .i64 0) = W13 at *

  have hc : W13.cell? ⟨gb, 165, none⟩ = some (.int .i64 1) := (HJ2.out.cell (b := gb) (cs := (((((((((((((bad0.setIfInBounds 2 (.int .u64 5)).setIfInBounds 17 (.int .i64 3)).setIfInBounds 34 (.int .i64 3)).setIfInBounds 39 (.int .u64 1)).setIfInBounds 50 (.int .u64 0)).setIfInBounds 61 (.int .u64 22)).setIfInBounds 72 (.int .u64 22)).setIfInBounds 90 (.int .i64 0)).setIfInBounds 102 (.int .i64 2)).setIfInBounds 112 (.int .i64 3)).setIfInBounds 124 (.int .i64 9)).setIfInBounds 139 (.int .i64 3)).setIfInBounds 152 (.int .i64 0))) (t := 25) (by simp) 165).trans (by kernel_rfl)
  have hf : W13.frozen? ⟨gb, 165, none⟩ = false := inr_free HJ2.out 165
  go_upto_region 19 with fail
  replace HJ2 := Lib.hid (inr_set HJ2.out (fun r hr => by obtain rfl := List.mem_singleton.1 hr; have := HG2.out; show g1 ≠ gb; omega) HG2.out.1 165 (.int .i64 2))
  clear hc hf
  generalize W13.setCell ⟨gb, 165, none⟩ (.int .i64 2) = W14 at *

  have hc : W14.cell? ⟨gb, 179, none⟩ = some (.int .i64 1) := (HJ2.out.cell (b := gb) (cs := ((((((((((((((bad0.setIfInBounds 2 (.int .u64 5)).setIfInBounds 17 (.int .i64 3)).setIfInBounds 34 (.int .i64 3)).setIfInBounds 39 (.int .u64 1)).setIfInBounds 50 (.int .u64 0)).setIfInBounds 61 (.int .u64 22)).setIfInBounds 72 (.int .u64 22)).setIfInBounds 90 (.int .i64 0)).setIfInBounds 102 (.int .i64 2)).setIfInBounds 112 (.int .i64 3)).setIfInBounds 124 (.int .i64 9)).setIfInBounds 139 (.int .i64 3)).setIfInBounds 152 (.int .i64 0)).setIfInBounds 165 (.int .i64 2))) (t := 25) (by simp) 179).trans (by kernel_rfl)
  have hf : W14.frozen? ⟨gb, 179, none⟩ = false := inr_free HJ2.out 179
  go_upto_region 20 with fail
  replace HJ2 := Lib.hid (inr_set HJ2.out (fun r hr => by obtain rfl := List.mem_singleton.1 hr; have := HG2.out; show g1 ≠ gb; omega) HG2.out.1 179 (.int .i64 0))
  clear hc hf
  generalize W14.setCell ⟨gb, 179, none⟩ (.int .i64 0) = W15 at *

  have hc : W15.cell? ⟨gb, 183, none⟩ = some (.int .u64 9) := (HJ2.out.cell (b := gb) (cs := (((((((((((((((bad0.setIfInBounds 2 (.int .u64 5)).setIfInBounds 17 (.int .i64 3)).setIfInBounds 34 (.int .i64 3)).setIfInBounds 39 (.int .u64 1)).setIfInBounds 50 (.int .u64 0)).setIfInBounds 61 (.int .u64 22)).setIfInBounds 72 (.int .u64 22)).setIfInBounds 90 (.int .i64 0)).setIfInBounds 102 (.int .i64 2)).setIfInBounds 112 (.int .i64 3)).setIfInBounds 124 (.int .i64 9)).setIfInBounds 139 (.int .i64 3)).setIfInBounds 152 (.int .i64 0)).setIfInBounds 165 (.int .i64 2)).setIfInBounds 179 (.int .i64 0))) (t := 25) (by simp) 183).trans (by kernel_rfl)
  have hf : W15.frozen? ⟨gb, 183, none⟩ = false := inr_free HJ2.out 183
  go_upto_region 21 with fail
  replace HJ2 := Lib.hid (inr_set HJ2.out (fun r hr => by obtain rfl := List.mem_singleton.1 hr; have := HG2.out; show g1 ≠ gb; omega) HG2.out.1 183 (.int .u64 27))
  clear hc hf
  generalize W15.setCell ⟨gb, 183, none⟩ (.int .u64 27) = W16 at *

  have hc : W16.cell? ⟨gb, 199, none⟩ = some (.int .i64 1) := (HJ2.out.cell (b := gb) (cs := ((((((((((((((((bad0.setIfInBounds 2 (.int .u64 5)).setIfInBounds 17 (.int .i64 3)).setIfInBounds 34 (.int .i64 3)).setIfInBounds 39 (.int .u64 1)).setIfInBounds 50 (.int .u64 0)).setIfInBounds 61 (.int .u64 22)).setIfInBounds 72 (.int .u64 22)).setIfInBounds 90 (.int .i64 0)).setIfInBounds 102 (.int .i64 2)).setIfInBounds 112 (.int .i64 3)).setIfInBounds 124 (.int .i64 9)).setIfInBounds 139 (.int .i64 3)).setIfInBounds 152 (.int .i64 0)).setIfInBounds 165 (.int .i64 2)).setIfInBounds 179 (.int .i64 0)).setIfInBounds 183 (.int .u64 27))) (t := 25) (by simp) 199).trans (by kernel_rfl)
  have hf : W16.frozen? ⟨gb, 199, none⟩ = false := inr_free HJ2.out 199
  go_upto_region 22 with fail
  replace HJ2 := Lib.hid (inr_set HJ2.out (fun r hr => by obtain rfl := List.mem_singleton.1 hr; have := HG2.out; show g1 ≠ gb; omega) HG2.out.1 199 (.int .i64 0))
  clear hc hf
  generalize W16.setCell ⟨gb, 199, none⟩ (.int .i64 0) = W17 at *

  have hc : W17.cell? ⟨gb, 213, none⟩ = some (.int .i64 1) := (HJ2.out.cell (b := gb) (cs := (((((((((((((((((bad0.setIfInBounds 2 (.int .u64 5)).setIfInBounds 17 (.int .i64 3)).setIfInBounds 34 (.int .i64 3)).setIfInBounds 39 (.int .u64 1)).setIfInBounds 50 (.int .u64 0)).setIfInBounds 61 (.int .u64 22)).setIfInBounds 72 (.int .u64 22)).setIfInBounds 90 (.int .i64 0)).setIfInBounds 102 (.int .i64 2)).setIfInBounds 112 (.int .i64 3)).setIfInBounds 124 (.int .i64 9)).setIfInBounds 139 (.int .i64 3)).setIfInBounds 152 (.int .i64 0)).setIfInBounds 165 (.int .i64 2)).setIfInBounds 179 (.int .i64 0)).setIfInBounds 183 (.int .u64 27)).setIfInBounds 199 (.int .i64 0))) (t := 25) (by simp) 213).trans (by kernel_rfl)
  have hf : W17.frozen? ⟨gb, 213, none⟩ = false := inr_free HJ2.out 213
  go_upto_region 23 with fail
  replace HJ2 := Lib.hid (inr_set HJ2.out (fun r hr => by obtain rfl := List.mem_singleton.1 hr; have := HG2.out; show g1 ≠ gb; omega) HG2.out.1 213 (.int .i64 0))
  clear hc hf
  generalize W17.setCell ⟨gb, 213, none⟩ (.int .i64 0) = W18 at *

  have HC : Hid (Inr w [(gb, badC, 25), (g1, sm.cells, 25)] W18) := by
    have e : ((((((((((((((((((bad0.setIfInBounds 2 (.int .u64 5)).setIfInBounds 17 (.int .i64 3)).setIfInBounds 34 (.int .i64 3)).setIfInBounds 39 (.int .u64 1)).setIfInBounds 50 (.int .u64 0)).setIfInBounds 61 (.int .u64 22)).setIfInBounds 72 (.int .u64 22)).setIfInBounds 90 (.int .i64 0)).setIfInBounds 102 (.int .i64 2)).setIfInBounds 112 (.int .i64 3)).setIfInBounds 124 (.int .i64 9)).setIfInBounds 139 (.int .i64 3)).setIfInBounds 152 (.int .i64 0)).setIfInBounds 165 (.int .i64 2)).setIfInBounds 179 (.int .i64 0)).setIfInBounds 183 (.int .u64 27)).setIfInBounds 199 (.int .i64 0)).setIfInBounds 213 (.int .i64 0)) = badC := by kernel_rfl
    rw [← e]; exact HJ2
  clear HJ2
  go_wp2_with fail
  go_loopw [3] (fun s3 wx => ∃ k : Nat, k ≤ 18 ∧ s3 = .int .i64 (k : Int) ∧ Hid (Inr w [(gb, badC, 25), (g1, sm.cells, 25)] wx)) (fun s3 _ => 18 - (RowKit.intOf s3).toNat)
  case atStart => exact ⟨0, by omega, rfl, HC⟩
  case round =>
    clear HC
    obtain ⟨k, hk, rfl, HJ⟩ := hrel
    rename_i wr
    by_cases hlt : k < 18
    · have hg := badC_get k hlt
      have hm := bad_may k hlt
      have hb := bad_lt k hlt
      generalize badP k = q at *
      have HM : RetBL 12 #[.agg q.cells] (.bool false) := may_yes hm hb.1 hb.2.1 hb.2.2.1 hb.2.2.2
      obtain ⟨e0, e1, e2, e3, e4, e5, e6, e7, e8, e9, e10, e11⟩ := hg
      replace e0 : wr.cell? ⟨gb, k * 12, none⟩ = some (.int .u64 ((q.P : Nat) : Int)) := (HJ.out.cell (b := gb) (cs := badC) (t := 25) (by simp) _).trans e0
      replace e1 : wr.cell? ⟨gb, k * 12 + 1, none⟩ = some (.int .u64 ((q.Q : Nat) : Int)) := (HJ.out.cell (b := gb) (cs := badC) (t := 25) (by simp) _).trans e1
      replace e2 : wr.cell? ⟨gb, k * 12 + 2, none⟩ = some (.int .u64 ((q.G : Nat) : Int)) := (HJ.out.cell (b := gb) (cs := badC) (t := 25) (by simp) _).trans e2
      replace e3 : wr.cell? ⟨gb, k * 12 + 3, none⟩ = some (.int .u64 ((q.H : Nat) : Int)) := (HJ.out.cell (b := gb) (cs := badC) (t := 25) (by simp) _).trans e3
      replace e4 : wr.cell? ⟨gb, k * 12 + 4, none⟩ = some (.int .i64 q.Nodes) := (HJ.out.cell (b := gb) (cs := badC) (t := 25) (by simp) _).trans e4
      replace e5 : wr.cell? ⟨gb, k * 12 + 5, none⟩ = some (.int .i64 q.N) := (HJ.out.cell (b := gb) (cs := badC) (t := 25) (by simp) _).trans e5
      replace e6 : wr.cell? ⟨gb, k * 12 + 6, none⟩ = some (.int .i64 q.T) := (HJ.out.cell (b := gb) (cs := badC) (t := 25) (by simp) _).trans e6
      replace e7 : wr.cell? ⟨gb, k * 12 + 7, none⟩ = some (.int .i64 q.K) := (HJ.out.cell (b := gb) (cs := badC) (t := 25) (by simp) _).trans e7
      replace e8 : wr.cell? ⟨gb, k * 12 + 8, none⟩ = some (.int .i64 q.D) := (HJ.out.cell (b := gb) (cs := badC) (t := 25) (by simp) _).trans e8
      replace e9 : wr.cell? ⟨gb, k * 12 + 9, none⟩ = some (.int .i64 q.R) := (HJ.out.cell (b := gb) (cs := badC) (t := 25) (by simp) _).trans e9
      replace e10 : wr.cell? ⟨gb, k * 12 + 10, none⟩ = some (.int .i64 q.M) := (HJ.out.cell (b := gb) (cs := badC) (t := 25) (by simp) _).trans e10
      replace e11 : wr.cell? ⟨gb, k * 12 + 11, none⟩ = some (.int .i64 q.X) := (HJ.out.cell (b := gb) (cs := badC) (t := 25) (by simp) _).trans e11
      clear hm hb
      have hlt' : (k : Int) < 18 := by omega
      go_wp2_with (go_at_call 12; (first | (with_reducible refine (HM.at _ (HL.out.below HJ.out.below)).mono ?_)); rintro e w1 ⟨rfl, hb⟩; replace HJ := Lib.hid (HJ.out.step hb); clear hb)
      go_roundw
      case rel => exact ⟨k + 1, by omega, by go_num, HJ⟩
      case measure => simp [RowKit.intOf]; omega

    · obtain rfl : k = 18 := by omega
      clear hlt
      rw [show ((18 : Nat) : Int) = 18 from rfl]
      have HJ : Hid (Inr w [(g1, sm.cells, 25)] wr) := Lib.hid (inr_tail HJ.out)
      go_wp2_with fail
      generalize hW : wr.alloc (.cells _ 23) = V2
      have HC : Hid (Inr w [(wr.heap.size, #[.int .u64 1, .int .u64 4, .int .u64 16, .int .u64 18, .int .u64 3, .int .u64 12, .int .u64 2, .int .u64 8, .int .u64 9, .int .u64 13, .int .u64 6, .int .u64 1], 23), (g1, sm.cells, 25)] V2) := Lib.hid (by rw [← hW]; exact HJ.out.put #[.int .u64 1, .int .u64 4, .int .u64 16, .int .u64 18, .int .u64 3, .int .u64 12, .int .u64 2, .int .u64 8, .int .u64 9, .int .u64 13, .int .u64 6, .int .u64 1] 23)
      clear HJ hW
      generalize wr.heap.size = ga at *
      go_loopw [111] (fun s111 wx => ∃ k : Nat, k ≤ 12 ∧ s111 = .int .i64 (k : Int) ∧ Hid (Inr w [(ga, #[.int .u64 1, .int .u64 4, .int .u64 16, .int .u64 18, .int .u64 3, .int .u64 12, .int .u64 2, .int .u64 8, .int .u64 9, .int .u64 13, .int .u64 6, .int .u64 1], 23), (g1, sm.cells, 25)] wx)) (fun s111 _ => 12 - (RowKit.intOf s111).toNat)
      case atStart => exact ⟨0, by omega, rfl, HC⟩
      case round =>
        clear HC
        obtain ⟨k, hk, rfl, HJ⟩ := hrel
        rename_i wr
        by_cases hlt : k < 12
        · have hcell : wr.cell? ⟨ga, k, none⟩ = some (.int .u64 ((pw4.getD k 0 : Nat) : Int)) := (HJ.out.cell (b := ga) (cs := #[.int .u64 1, .int .u64 4, .int .u64 16, .int .u64 18, .int .u64 3, .int .u64 12, .int .u64 2, .int .u64 8, .int .u64 9, .int .u64 13, .int .u64 6, .int .u64 1]) (t := 23) (by simp) k).trans (nums_get k hlt)
          have hP : RetB 13 #[.agg sm.cells, .int .u64 4, .int .u64 (k : Int)] (.int .u64 ((pw4.getD k 0 : Nat) : Int)) := power_to sm 4 k _ (by omega) (by omega) (pw4_pow k hlt)
          have hI := is_sm (pw4.getD k 0) true (pw4_lt k hlt) (pw4_is k hlt)
          generalize pw4.getD k 0 = x at *
          have hlt' : (k : Int) < 12 := by omega
          go_wp2_with (first | (refine wpList_row_if ?_ 25 _ rfl g1 rfl 25 sm.cells (0, 0) _ (HJ.out.rows (g1, sm.cells, 25) (by simp)) Tryd.underlying25 rfl (by kernel_rfl) ?_; first | rfl | (simp [Region.wanted, yielded]; done)) | (go_at_call 13; (first | (with_reducible refine (hP.at _).mono ?_)); rintro e w1 ⟨rfl, hb⟩; replace HJ := Lib.hid (HJ.out.step hb); clear hb) | (go_at_call 14; (first | (with_reducible refine (hI.at _).mono ?_)); rintro e w1 ⟨rfl, hb⟩; replace HJ := Lib.hid (HJ.out.step hb); clear hb))
          go_roundw
          case rel => exact ⟨k + 1, by omega, by go_num, HJ⟩
          case measure => simp [RowKit.intOf]; omega
        · obtain rfl : k = 12 := by omega
          clear hlt
          go_upto_region 35 with fail
          have HG5 : w.heap.size ≤ wr.heap.size ∧ g1 < wr.heap.size := ⟨HJ.out.below.size, row_lt (HJ.out.rows (g1, sm.cells, 25) (by simp))⟩
          generalize hW : wr.alloc (.cells _ 25) = V3
          have HC : Hid (Inr w [(wr.heap.size, great0.cells, 25), (ga, #[.int .u64 1, .int .u64 4, .int .u64 16, .int .u64 18, .int .u64 3, .int .u64 12, .int .u64 2, .int .u64 8, .int .u64 9, .int .u64 13, .int .u64 6, .int .u64 1], 23), (g1, sm.cells, 25)] V3) := Lib.hid (by rw [← hW]; exact HJ.out.put great0.cells 25)
          clear HJ hW
          have HJ : Hid (Inr w [(wr.heap.size, great0.cells, 25), (g1, sm.cells, 25)] V3) := Lib.hid ⟨fun r hr => HC.out.rows r (by simp at hr ⊢; rcases hr with h | h <;> simp [h]), HC.out.below⟩
          clear HC
          have HG6 : Hid (w.heap.size ≤ wr.heap.size ∧ g1 < wr.heap.size) := Lib.hid HG5
          generalize wr.heap.size = g6 at *
          have d0 : V3.cell? ⟨g6, 0, none⟩ = some (.int .u64 2305843009213693951) := HJ.out.cell (b := g6) (cs := great0.cells) (t := 25) (by simp) 0
          have d1 : V3.cell? ⟨g6, 1, none⟩ = some (.int .u64 1321) := HJ.out.cell (b := g6) (cs := great0.cells) (t := 25) (by simp) 1
          have d2 : V3.cell? ⟨g6, 2, none⟩ = some (.int .u64 0) := HJ.out.cell (b := g6) (cs := great0.cells) (t := 25) (by simp) 2
          have d3 : V3.cell? ⟨g6, 3, none⟩ = some (.int .u64 0) := HJ.out.cell (b := g6) (cs := great0.cells) (t := 25) (by simp) 3
          have d4 : V3.cell? ⟨g6, 4, none⟩ = some (.int .i64 7) := HJ.out.cell (b := g6) (cs := great0.cells) (t := 25) (by simp) 4
          have d5 : V3.cell? ⟨g6, 5, none⟩ = some (.int .i64 7) := HJ.out.cell (b := g6) (cs := great0.cells) (t := 25) (by simp) 5
          have d6 : V3.cell? ⟨g6, 6, none⟩ = some (.int .i64 2) := HJ.out.cell (b := g6) (cs := great0.cells) (t := 25) (by simp) 6
          have d7 : V3.cell? ⟨g6, 7, none⟩ = some (.int .i64 2) := HJ.out.cell (b := g6) (cs := great0.cells) (t := 25) (by simp) 7
          have d8 : V3.cell? ⟨g6, 8, none⟩ = some (.int .i64 2) := HJ.out.cell (b := g6) (cs := great0.cells) (t := 25) (by simp) 8
          have d9 : V3.cell? ⟨g6, 9, none⟩ = some (.int .i64 1) := HJ.out.cell (b := g6) (cs := great0.cells) (t := 25) (by simp) 9
          have d10 : V3.cell? ⟨g6, 10, none⟩ = some (.int .i64 10) := HJ.out.cell (b := g6) (cs := great0.cells) (t := 25) (by simp) 10
          have d11 : V3.cell? ⟨g6, 11, none⟩ = some (.int .i64 10) := HJ.out.cell (b := g6) (cs := great0.cells) (t := 25) (by simp) 11
          have hf : V3.frozen? ⟨g6, 2, none⟩ = false := inr_free HJ.out 2
          have hG : RetB 13 #[.agg #[.int .u64 2305843009213693951, .int .u64 1321, .int .u64 0, .int .u64 0, .int .i64 7, .int .i64 7, .int .i64 2, .int .i64 2, .int .i64 2, .int .i64 1, .int .i64 10, .int .i64 10], .int .u64 3, .int .u64 (IntKind.u64.wrap 1745528394559950)] (.int .u64 234060095121088422) := by
            rw [show IntKind.u64.wrap 1745528394559950 = 1745528394559950 by decide]; exact great_G
          go_cut [6] (fun s6 wx => s6 = .pointer (some ⟨g6, 0, none⟩) ∧ Hid (Inr w [(g6, great1.cells, 25), (g1, sm.cells, 25)] wx))
          case first =>
            go_region_with (first | (go_at_call 13; (with_reducible refine (hG.at _).mono ?_); rintro e w1 ⟨rfl, hb⟩; have HN : Hid (Inr w [(g6, great1.cells, 25), (g1, sm.cells, 25)] (w1.setCell ⟨g6, 2, none⟩ (.int .u64 234060095121088422))) := Lib.hid (great_set1 ▸ inr_set (HJ.out.drew.step hb) (fun r hr => by obtain rfl := List.mem_singleton.1 hr; have := HG6.out; show g1 ≠ g6; omega) HG6.out.1 2 (.int .u64 234060095121088422)); have hf2 : w1.frozen? ⟨g6, 2, none⟩ = false := inr_free (HJ.out.drew.step hb) 2; have hc2 : w1.cell? ⟨g6, 2, none⟩ = some (.int .u64 0) := (HJ.out.drew.step hb).cell (b := g6) (cs := great0.cells) (t := 25) (by simp) 2; clear hb))
            all_goals (go_wp2_with fail; go_meet)
            all_goals exact ⟨rfl, HN⟩
          case rest =>
            clear d0 d1 d2 d3 d4 d5 d6 d7 d8 d9 d10 d11 hf hG HJ
            obtain ⟨rfl, HJ⟩ := hcut
            go_upto_region 36 with fail
            have d0 : wc.cell? ⟨g6, 0, none⟩ = some (.int .u64 2305843009213693951) := HJ.out.cell (b := g6) (cs := great1.cells) (t := 25) (by simp) 0
            have d1 : wc.cell? ⟨g6, 1, none⟩ = some (.int .u64 1321) := HJ.out.cell (b := g6) (cs := great1.cells) (t := 25) (by simp) 1
            have d2 : wc.cell? ⟨g6, 2, none⟩ = some (.int .u64 234060095121088422) := HJ.out.cell (b := g6) (cs := great1.cells) (t := 25) (by simp) 2
            have d3 : wc.cell? ⟨g6, 3, none⟩ = some (.int .u64 0) := HJ.out.cell (b := g6) (cs := great1.cells) (t := 25) (by simp) 3
            have d4 : wc.cell? ⟨g6, 4, none⟩ = some (.int .i64 7) := HJ.out.cell (b := g6) (cs := great1.cells) (t := 25) (by simp) 4
            have d5 : wc.cell? ⟨g6, 5, none⟩ = some (.int .i64 7) := HJ.out.cell (b := g6) (cs := great1.cells) (t := 25) (by simp) 5
            have d6 : wc.cell? ⟨g6, 6, none⟩ = some (.int .i64 2) := HJ.out.cell (b := g6) (cs := great1.cells) (t := 25) (by simp) 6
            have d7 : wc.cell? ⟨g6, 7, none⟩ = some (.int .i64 2) := HJ.out.cell (b := g6) (cs := great1.cells) (t := 25) (by simp) 7
            have d8 : wc.cell? ⟨g6, 8, none⟩ = some (.int .i64 2) := HJ.out.cell (b := g6) (cs := great1.cells) (t := 25) (by simp) 8
            have d9 : wc.cell? ⟨g6, 9, none⟩ = some (.int .i64 1) := HJ.out.cell (b := g6) (cs := great1.cells) (t := 25) (by simp) 9
            have d10 : wc.cell? ⟨g6, 10, none⟩ = some (.int .i64 10) := HJ.out.cell (b := g6) (cs := great1.cells) (t := 25) (by simp) 10
            have d11 : wc.cell? ⟨g6, 11, none⟩ = some (.int .i64 10) := HJ.out.cell (b := g6) (cs := great1.cells) (t := 25) (by simp) 11
            have hf : wc.frozen? ⟨g6, 3, none⟩ = false := inr_free HJ.out 3
            have hG : RetB 13 #[.agg #[.int .u64 2305843009213693951, .int .u64 1321, .int .u64 234060095121088422, .int .u64 0, .int .i64 7, .int .i64 7, .int .i64 2, .int .i64 2, .int .i64 2, .int .i64 1, .int .i64 10, .int .i64 10], .int .u64 5, .int .u64 (IntKind.u64.wrap 1745528394559950)] (.int .u64 814652170479903933) := by
              rw [show IntKind.u64.wrap 1745528394559950 = 1745528394559950 by decide]; exact great_H
            go_cut [6] (fun s6 wx => s6 = .pointer (some ⟨g6, 0, none⟩) ∧ Hid (Inr w [(g6, great2.cells, 25), (g1, sm.cells, 25)] wx))
            case first =>
              go_region_with (first | (go_at_call 13; (with_reducible refine (hG.at _).mono ?_); rintro e w1 ⟨rfl, hb⟩; have HN : Hid (Inr w [(g6, great2.cells, 25), (g1, sm.cells, 25)] (w1.setCell ⟨g6, 3, none⟩ (.int .u64 814652170479903933))) := Lib.hid (great_set2 ▸ inr_set (HJ.out.drew.step hb) (fun r hr => by obtain rfl := List.mem_singleton.1 hr; have := HG6.out; show g1 ≠ g6; omega) HG6.out.1 3 (.int .u64 814652170479903933)); have hf2 : w1.frozen? ⟨g6, 3, none⟩ = false := inr_free (HJ.out.drew.step hb) 3; have hc2 : w1.cell? ⟨g6, 3, none⟩ = some (.int .u64 0) := (HJ.out.drew.step hb).cell (b := g6) (cs := great1.cells) (t := 25) (by simp) 3; clear hb))
              all_goals (go_wp2_with fail; go_meet)
              all_goals exact ⟨rfl, HN⟩
            case rest =>
              clear d0 d1 d2 d3 d4 d5 d6 d7 d8 d9 d10 d11 hf hG HJ
              obtain ⟨rfl, HJ⟩ := hcut
              have dG : wc.cell? ⟨g6, 2, none⟩ = some (.int .u64 234060095121088422) := HJ.out.cell (b := g6) (cs := great2.cells) (t := 25) (by simp) 2
              have dH : wc.cell? ⟨g6, 3, none⟩ = some (.int .u64 814652170479903933) := HJ.out.cell (b := g6) (cs := great2.cells) (t := 25) (by simp) 3
              go_upto_region 40 with (first | (refine wpList_row_if ?_ 25 _ rfl g6 rfl 25 great2.cells (0, 0) _ (HJ.out.rows (g6, great2.cells, 25) (by simp)) Tryd.underlying25 rfl (by kernel_rfl) ?_; first | rfl | (simp [Region.wanted, yielded]; done)) | (go_at_call 14; (first | (with_reducible refine (great_is.at _).mono ?_)); rintro e w1 ⟨rfl, hb⟩; replace HJ := Lib.hid (HJ.out.step hb); clear hb; have dG : w1.cell? ⟨g6, 2, none⟩ = some (.int .u64 234060095121088422) := HJ.out.cell (b := g6) (cs := great2.cells) (t := 25) (by simp) 2; have dH : w1.cell? ⟨g6, 3, none⟩ = some (.int .u64 814652170479903933) := HJ.out.cell (b := g6) (cs := great2.cells) (t := 25) (by simp) 3) | (go_at_call 12; (first | (with_reducible refine (great_may.at _ (HL.out.below HJ.out.below)).mono ?_)); rintro e w1 ⟨rfl, hb⟩; replace HJ := Lib.hid (HJ.out.step hb); clear hb; have dG : w1.cell? ⟨g6, 2, none⟩ = some (.int .u64 234060095121088422) := HJ.out.cell (b := g6) (cs := great2.cells) (t := 25) (by simp) 2; have dH : w1.cell? ⟨g6, 3, none⟩ = some (.int .u64 814652170479903933) := HJ.out.cell (b := g6) (cs := great2.cells) (t := 25) (by simp) 3))
              generalize hW : World.alloc _ (.cells _ 25) = V5
              have HC : Hid (Inr w [(w1.heap.size, none0.cells, 25), (g1, sm.cells, 25)] V5) := Lib.hid (by rw [← hW]; exact (inr_tail HJ.out).put none0.cells 25)
              clear HJ hW
              have HJ := HC
              clear HC
              generalize w1.heap.size = g7 at *
              go_wp2_with (first | (refine wpList_row_if ?_ 25 _ rfl g7 rfl 25 none0.cells (0, 0) _ (HJ.out.rows (g7, none0.cells, 25) (by simp)) Tryd.underlying25 rfl (by kernel_rfl) ?_; first | rfl | (simp [Region.wanted, yielded]; done)) | (refine wpList_row_if ?_ 25 _ rfl g1 rfl 25 sm.cells (0, 0) _ (HJ.out.rows (g1, sm.cells, 25) (by simp)) Tryd.underlying25 rfl (by kernel_rfl) ?_; first | rfl | (simp [Region.wanted, yielded]; done)) | (go_at_call 15; (first | ((with_reducible refine (sm_nil.at _).mono ?_); rintro e w1 ⟨rfl, hb⟩; replace HJ := Lib.hid (HJ.out.step hb); clear hb) | ((refine (none_times _ _ (heap_alloc_new _ _)).mono ?_); rintro e w1 ⟨rfl, hb⟩; replace HJ := Lib.hid ((HJ.out.alloc _).step hb); clear hb))) | (go_at_call 13; (first | (with_reducible refine (none_pow.at _).mono ?_) | (with_reducible refine (sm_pow0.at _).mono ?_)); rintro e w1 ⟨rfl, hb⟩; replace HJ := Lib.hid (HJ.out.step hb); clear hb) | (go_at_call 16; (first | (with_reducible refine (none_commit.at _).mono ?_)); rintro e w1 ⟨rfl, hb⟩; replace HJ := Lib.hid (HJ.out.step hb); clear hb) | (go_at_call 14; (first | (with_reducible refine (none_is.at _).mono ?_)); rintro e w1 ⟨rfl, hb⟩; replace HJ := Lib.hid (HJ.out.step hb); clear hb) | (go_at_call 17; (first | ((with_reducible refine (none_at _ _ ?_).mono ?_); exact heap_alloc_new _ _) | ((with_reducible refine (p23_at _ _ ?_).mono ?_); exact heap_alloc_new _ _) | (refine (p23_at _ _ (heap_alloc_new _ _)).mono ?_)); rintro e w1 ⟨rfl, hb⟩; replace HJ := Lib.hid ((HJ.out.alloc _).step hb); clear hb))
              go_ret
              exact ⟨rfl, HJ.out.below⟩
end GroupNames
end Go.Proofs.YtmeaiindbkkkiaaDoor
