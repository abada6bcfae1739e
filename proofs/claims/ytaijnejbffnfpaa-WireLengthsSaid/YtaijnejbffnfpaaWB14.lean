/- The texts WirApp, WirLenC, one behind the other. -/
import Derived.Test.YtaijnejbffnfpaaWB13
import Derived.Lib.AppendZerosOnto
import Derived.Lib.LazyBuf
import Derived.Laws.OwnMore
import Derived.Test.YtaijnejbffnfpaaWB10
/- A copy of a row behind an empty one; zeros behind it, with room and without. -/
namespace Go.Proofs.Ytaijnejbffnfpaa
open Go Go.RowKit Go.Lib
namespace M
theorem list_copy (w : World) (B g : Nat) (own : w.ownsRow B 26 1 (.slice (some ⟨g, 0, none⟩) 0 0) 0 []) (hB : B ≤ w.heap.size) (ao : Option Addr) (n c : Nat) (z : Nat → Nat) (hn : n ≤ 10000) (hr : Rd w ao n z) :
    ∃ (g' c' : Nat) (w' : World), (Builtin.append_ #[35, 35] 35 #[.slice (some ⟨g, 0, none⟩) 0 0, .slice ao n c]).run Try.prog w = .ok (.slice (some ⟨g', 0, none⟩) n c') w' ∧ w'.ownsRow B 26 1 (.slice (some ⟨g', 0, none⟩) n c') n (zlist n z) ∧ Below B w w' := by
  obtain ⟨i0, hi, hz0, hz1, hz2⟩ := info_parts info_u64
  cases ao with
  | none =>
    obtain rfl : n = 0 := by
      rcases Nat.eq_zero_or_pos n with h | h
      · exact h
      · obtain ⟨_, e, _⟩ := hr h
        cases e
    refine ⟨g, 0, w, ?_, by simpa [zlist] using own, Below.refl _ _⟩
    simp [Builtin.append_, run_underlying Try.underlying35, sizeOf, typeInfo, hi, Builtin.lenOf, Builtin.firstCells, storeCells]
  | some a =>
    obtain ⟨v', w', hrun, ho, hg, hnn⟩ := run_append_own (P := Try.prog) w B 35 35 26 i0 (.int .u64 0) 1 8 Try.underlying35 hi hz0 hz1 hz2 rfl (by decide) (.slice (some ⟨g, 0, none⟩) 0 0) 0 [] own a n c (zlist n z) (zlist_len n z) (fun j u hj => by
      have hl := (List.getElem?_eq_some_iff.1 hj).1
      rw [zlist_len] at hl
      obtain ⟨ad, e, hrow⟩ := hr (by omega)
      cases e
      exact zlist_cells hrow j u hj) (zlist_one n z) (by unfold maxLen; omega) (by omega) hB
    rw [Nat.zero_add, List.nil_append] at ho
    have hsh : ∃ g' c', v' = .slice (some ⟨g', 0, none⟩) n c' := by
      rcases ho.2 with ⟨h1, _⟩ | ⟨g', c', cur, h1, _⟩
      · have h2 := (hnn.1 h1).1
        cases h2
      · exact ⟨g', c', h1⟩
    obtain ⟨g', c', rfl⟩ := hsh
    exact ⟨g', c', w', hrun, ho, ⟨hg.os, hg.tape, hg.output, hg.size, fun j hj => hg.block j (Nat.lt_of_lt_of_le hj hB) (fun e => by have := (own.lt j e.symm).1; omega)⟩⟩
theorem zeros_get (k j : Nat) (h : j < k) : (Builtin.zeroCells #[.int .u64 0] k)[j]? = some (.int .u64 0) := by
  simp [Builtin.zeroCells, h, Nat.mod_one]
theorem zeros_len (k : Nat) : (Builtin.zeroCells #[.int .u64 0] k).toList.length = k := by simp [Builtin.zeroCells]
theorem list_zeros (w : World) (B g n c k : Nat) (z : Nat → Nat) (own : w.ownsRow B 26 1 (.slice (some ⟨g, 0, none⟩) n c) n (zlist n z)) (hB : B ≤ w.heap.size) (hn : n ≤ 10000) (hk : k ≤ 10000) :
    ∃ (g' c' : Nat) (w' : World), (Builtin.append_ #[35, 3] 35 #[.slice (some ⟨g, 0, none⟩) n c, .int .i64 (k : Int)]).run Try.prog w = .ok (.slice (some ⟨g', 0, none⟩) (n + k) c') w' ∧ n + k ≤ c' ∧ B ≤ g' ∧ Below B w w' ∧
      ∀ j, j < n + k → w'.cell? ⟨g', j, none⟩ = some (.int .u64 (((if j < n then z j else 0 : Nat)) : Int)) := by
  obtain ⟨i0, hi, hz0, hz1, hz2⟩ := info_parts info_u64
  have hcell := fun j (hj : j < n) => (own.cellAt j (by omega)).trans (zlist_get hj)
  obtain ⟨_, ⟨h0, _⟩ | ⟨g0, cap, cur, h1, hbg, hheap, hnc, hcm, hcs, htake⟩⟩ := own
  · cases h0
  cases h1
  have hw : IntKind.i64.wrap (k : Int) = k := by rw [IntKind.wrap_i64]; omega
  have hneg : ¬ ((k : Int) < 0) := by omega
  have h48i : ¬ (281474976710656 < (k : Int) * (i0.bytes : Int)) := by rw [hz2]; omega
  rcases Nat.eq_zero_or_pos k with rfl | h0
  · refine ⟨g, c, w, ?_, by omega, hbg, Below.refl _ _, fun j hj => by rw [if_pos (by omega)]; exact hcell j (by omega)⟩
    simp [Builtin.append_, run_underlying Try.underlying35, run_underlying Try.underlying3, sizeOf, typeInfo, hi, asInt, asIntOf, hnc, storeCells, IntKind.wrap_i64]
  by_cases hfit : n + k ≤ c
  · have hthere : ∀ j, j < (Builtin.zeroCells #[.int .u64 0] k).toList.length → (w.cell? ⟨g, n + 0 + j, none⟩).isSome = true := fun j hj => by
      rw [zeros_len] at hj
      rw [cell_of_row w g _ _ _ _ hheap, Array.getElem?_eq_getElem (by omega)]
      rfl
    have hst := run_storeCells_cells (P := Try.prog) g n (Builtin.zeroCells #[.int .u64 0] k).toList 0 w hthere
      (fun j _ => by simp [World.frozen?, hheap]) (fun v hv => by simp [Builtin.zeroCells] at hv; obtain ⟨_, _, rfl⟩ := hv; simp [Value.oneCell', Nat.mod_one])
    rw [Nat.add_zero] at hst
    have hadd : (⟨g, 0, none⟩ : Addr).add n = ⟨g, n, none⟩ := by rw [Addr.add_mid, Nat.zero_add]
    have hne : k ≠ 0 := by omega
    refine ⟨g, c, w.setCells g n (Builtin.zeroCells #[.int .u64 0] k).toList, ?_, hfit, hbg, Go.below_setCells hbg _ _ _ (Below.refl _ _), fun j hj => ?_⟩
    · simp [Builtin.append_, run_underlying Try.underlying35, run_underlying Try.underlying3, sizeOf, typeInfo, zeroValue, hi, hz0, hz1, asInt, asIntOf, hw, hneg, h48i, hne, hfit, hadd, Value.cells, hst]
    · by_cases hj2 : j < n
      · rw [if_pos hj2, World.cell?_setCells_out g _ n w ⟨g, j, none⟩ (fun _ _ => .inl hj2)]
        exact hcell j hj2
      · rw [if_neg hj2]
        obtain ⟨i, rfl⟩ : ∃ i, j = n + i := ⟨j - n, by omega⟩
        rw [World.cell?_setCells_in g _ n w (fun i hi => by have := hthere i hi; rwa [Nat.add_zero] at this) i (by rw [zeros_len]; omega)]
        have := zeros_get k i (by omega)
        rw [← Array.getElem?_toList, List.getElem?_eq_getElem (by rw [zeros_len]; omega)] at this
        exact this
  · have hold : (Builtin.firstCells i0.size n (.slice (some ⟨g, 0, none⟩) n c)).run Try.prog w.drew = .ok (zlist n z).toArray w.drew :=
      run_firstCells_some (P := Try.prog) (w := w.drew) i0.size n ⟨g, 0, none⟩ n c (zlist n z) (by rw [zlist_len, hz1]) (fun j v hv => by
        have hl := (List.getElem?_eq_some_iff.1 hv).1
        rw [zlist_len] at hl
        rw [Addr.add_mid, Nat.zero_add, ← hv, zlist_get (by omega)]
        exact hcell j (by omega))
    have hnsl : Builtin.nextslicecap (n + k) c * i0.bytes ≤ 281474976710656 := by have := nextslicecap_le (need := n + k) (old := c) (by omega); rw [hz2]; omega
    have hr := run_append_grow_zeros (P := Try.prog) w 35 3 35 26 i0 (.int .u64 0) .i64 .i64 Try.underlying35 Try.underlying3 hi hz0 (some ⟨g, 0, none⟩) n c (zlist n z) hold k h0 (by omega) (by omega) (by omega) (by rw [hz2]; omega) hnsl
    refine ⟨w.heap.size, _, _, hr, grownCap_ge _ _ _ _, hB, ((below_drewN' w 1 B).alloc (by simpa using hB) _), fun j hj => ?_⟩
    have hal := heap_alloc_new w.drew (.cells ((zlist n z).toArray ++ Builtin.zeroCells (Value.cells (.int .u64 0)) k ++ Builtin.zeroCells (Value.cells (.int .u64 0)) (grownCap w (n + k) c 26 - (n + k))) 26)
    rw [cell_of_row _ w.heap.size j _ _ _ hal]
    have hzl : (zlist n z).toArray.size = n := by simpa using zlist_len n z
    have hzs : (Builtin.zeroCells (Value.cells (.int .u64 0)) k).size = k := by simp [Builtin.zeroCells, Value.cells]
    rw [Array.getElem?_append_left (by rw [Array.size_append]; omega)]
    by_cases hj2 : j < n
    · rw [if_pos hj2, Array.getElem?_append_left (by omega)]
      have := zlist_get (z := z) hj2
      simpa using this
    · rw [if_neg hj2, Array.getElem?_append_right (by omega), hzl]
      exact zeros_get k (j - n) (by omega)
theorem LB.stepB {W w w' : World} {b B : Nat} {t o : Th} (h : LB W b t o w) (hb : Below B w w') (hB : b + 1 < B) (hW : W.heap.size ≤ B) : LB W b t o w' :=
  ⟨(hb.block _ (by omega)).trans h.a, (hb.block _ hB).trans h.c, h.below.trans (hb.mono hW)⟩
end M
namespace MM
theorem nums_congr {y z : Nat → Nat} : ∀ n, (∀ j, j < n → y j = z j) → nums y n = nums z n
  | 0, _ => by simp [nums]
  | n + 1, h => by rw [nums_succ, nums_succ, nums_congr n (fun j hj => h j (by omega)), h n (by omega)]
theorem nums_inj {y z : Nat → Nat} (hy : ∀ k, y k < 18446744073709551616) (hz : ∀ k, z k < 18446744073709551616) : ∀ n, nums y n = nums z n → ∀ j, j < n → y j = z j
  | 0, _, j, hj => absurd hj (by omega)
  | n + 1, h, j, hj => by
    rw [nums_succ, nums_succ] at h
    obtain ⟨h1, h2⟩ := List.append_inj' h (by simp)
    by_cases e : j = n
    · subst e
      have := congrArg val h2
      rw [val_dig, val_dig] at this
      have a := hy j
      have b := hz j
      omega
    · exact nums_inj hy hz n h1 j (by omega)
theorem listB_same (n : Nat) {y z : Nat → Nat} (hy : ∀ k, y k < 18446744073709551616) (hz : ∀ k, z k < 18446744073709551616) : ((listB n y == listB n z) == decide (∀ j, j < n → y j = z j)) = true := by
  by_cases h : ∀ j, j < n → y j = z j
  · have e : listB n y = listB n z := by unfold listB; rw [nums_congr n h]
    rw [e, decide_eq_true h]; simp
  · have e : listB n y ≠ listB n z := fun e2 => h (by
      unfold listB at e2
      exact nums_inj hy hz n (List.append_cancel_left e2))
    rw [beq_eq_false_iff_ne.2 e, decide_eq_false h]; rfl
theorem all_succ {y z : Nat → Nat} {k : Nat} (h : ∀ j, j < k → y j = z j) : ((y k : Int) == (z k : Int)) = decide (∀ j, j < k + 1 → y j = z j) := by
  by_cases e : y k = z k
  · rw [decide_eq_true (fun j hj => by
      by_cases hjk : j = k
      · subst hjk; exact e
      · exact h j (by omega)), e]
    simp
  · have e2 : ¬ (y k : Int) = (z k : Int) := by omega
    rw [decide_eq_false (fun h2 => e (h2 k (by omega))), beq_eq_false_iff_ne.2 e2]
theorem all_not {y z : Nat → Nat} {k : Nat} (h : ¬ ∀ j, j < k → y j = z j) : decide (∀ j, j < k + 1 → y j = z j) = false := decide_eq_false fun h2 => h fun j hj => h2 j (by omega)
end MM
end Go.Proofs.Ytaijnejbffnfpaa
/- Two lists. -/
namespace Go.Proofs.Ytaijnejbffnfpaa
open Go.ChangeShapes Go.WideShapes Go.ChangeAt Go.RowKit Go.Lib
namespace M
set_option maxHeartbeats 8000000 in
set_option maxRecDepth 100000 in
theorem walk_list (t o : Th) (ht : t.Ok) (ho : o.Ok) (k4 : t.k = 4) (W : World) (hrt : Rd W t.ao t.len t.z) (hst : t.s.length ≤ 140737488355328 ∧ t.len ≤ 140737488355328) (hro : Rd W o.ao o.len o.z) (hso : o.s.length ≤ 140737488355328 ∧ o.len ≤ 140737488355328) :
    Calls Try.prog 7 #[.agg t.cells, .agg o.cells] W fun e w' => e = .returned (.bool true) ∧ Below W.heap.size W w' := by
  have HI : Hid (LB W W.heap.size t o ((W.alloc (.cells t.cells 45)).alloc (.cells o.cells 45))) := Lib.hid ⟨heap_alloc2_old _ _ _, heap_alloc2_new _ _ _, (below_box _ _).alloc (by simp) _⟩
  have g3 : ¬ (t.k : Int) = 3 := by omega
  have q4 : ((t.k : Int) == 4) = true := by simp [k4]
  have q4' : ((t.k : Int) != 4) = false := by simp [k4]
  have g0 : ¬ (t.k : Int) = 0 := by omega
  have HK4 := Lib.hid k4
  clear k4
  go_enter Try.func7, Try.ntmps7
  go_upto_region 1 with fail
  have HLG := Lib.hid (long_two t o hst hso ((W.alloc (.cells t.cells 45)).alloc (.cells o.cells 45)))
  generalize (W.alloc (.cells t.cells 45)).alloc (.cells o.cells 45) = w2 at *
  generalize hbs : W.heap.size = b at *
  have HBS : Hid (W.heap.size = b) := Lib.hid hbs
  clear hbs
  go_upto_region 3 with (first
    | (refine wpList_load_row rfl 45 _ rfl b rfl 45 t.cells (0, 0) _ HI.out.a Try.underlying45 rfl info_th ?_)
    | (refine wpList_load_row rfl 45 _ rfl (b + 1) rfl 45 o.cells (0, 0) _ HI.out.c Try.underlying45 rfl info_th ?_)
    | (go_at_call 16; (with_reducible refine (awake_any _).mono ?_); rintro e w4 ⟨rfl, hb4⟩; have HB4 := Lib.hid hb4; clear hb4)
    | (go_at_call 41; (with_reducible refine HLG.out.mono ?_); rintro e w3 ⟨r, rfl, hsm, hb3⟩; have HSM := Lib.hid hsm; have HB3 := Lib.hid hb3; clear hsm hb3; cases r))
  · have HS := Lib.hid (HSM.out trivial)
    have HL4 := Lib.hid ((HI.out.step' HB3.out).step' HB4.out)
    clear HSM HB3 HB4 HI HLG
    have ha := HL4.out.a
    have hc := HL4.out.c
    have hc0 : w4.cell? ⟨b, 0, none⟩ = some (.int .u8 (t.k : Int)) := (cell_of_row w4 b 0 _ _ _ ha).trans rfl
    have hd0 : w4.cell? ⟨b + 1, 0, none⟩ = some (.int .u8 (o.k : Int)) := (cell_of_row w4 (b + 1) 0 _ _ _ hc).trans rfl
    have hf0 := frozen_of_row w4 (b + 1) 0 _ _ hc
    clear ha hc
    go_upto_region 4 with fail
    have HL5 := Lib.hid (HL4.out.kind (k := t.k) (by rw [HBS.out]; exact Nat.le_succ b))
    clear hc0 hd0 hf0 HL4
    generalize w4.setCell ⟨b + 1, 0, none⟩ (.int .u8 (t.k : Int)) = w5 at *
    have hp : ({ o with k := t.k } : Th).Ok := ⟨ht.k, ho.n, ho.z, ho.m, ho.s, ho.len⟩
    have hpk : ({ o with k := t.k } : Th).k = t.k := rfl
    have hrp : Rd W ({ o with k := t.k } : Th).ao ({ o with k := t.k } : Th).len ({ o with k := t.k } : Th).z := hro
    have HPS : Hid (({ o with k := t.k } : Th).len = o.len) := Lib.hid rfl
    generalize ({ o with k := t.k } : Th) = p at *
    have HPK := Lib.hid hpk
    clear hpk
    have hc0 : w5.cell? ⟨b, 0, none⟩ = some (.int .u8 (t.k : Int)) := (cell_of_row w5 b 0 _ _ _ HL5.out.a).trans rfl
    go_upto_region 7 with fail
    clear hc0
    have hsl : t.len < 9000 := by have := HS.out.1; omega
    have hpl : p.len < 9000 := by have := HS.out.2; have := HPS.out; omega
    have hS5 : LB W b t p w5.drew := HL5.out.step' (Below.drawn (Below.refl _ _) 1)
    refine RK.region (LB W b t p) 13 (by kernel_rfl) ?_
    have how0 := World.ownsRow_lit (e := 26) (size := 1) (base := w5.drew.heap.size) w5.drew #[] 0 (Nat.le_refl _) (by unfold maxLen; omega) rfl
    have hb6 := below_box w5.drew (.cells #[] 26)
    have hS6 := hS5.step' hb6
    have hbw := row_lt hS5.c
    have hww : W.heap.size ≤ w5.drew.heap.size := hS5.below.size
    generalize w5.drew = wd at *
    generalize hw6 : wd.alloc (.cells #[] 26) = w6 at *
    have HW6 := Lib.hid hw6
    clear hw6
    obtain ⟨g1, c1, w7, hr7, how7, hb7⟩ := list_copy w6 wd.heap.size wd.heap.size how0 hb6.size p.ao p.len p.cap p.z (by omega) (Rd.below hrp hS6.below)
    have hS7 := hS6.stepB hb7 hbw hww
    obtain ⟨g2, c2, w8, hr8, hc2, hg2, hb8, hce⟩ := list_zeros w7 wd.heap.size g1 p.len c1 t.len p.z how7 (Nat.le_trans hb6.size hb7.size) (by omega) (by omega)
    have hS8 := hS7.stepB hb8 hbw hww
    have hHR7 := Lib.hid hr7
    have hHR8 := Lib.hid hr8
    have hHCE := Lib.hid hce
    have hcap : (t.len : Int) ≤ (c2 : Int) := by omega
    clear hr7 hr8 hce how0 how7
    refine RK.Any.take 1 41 (.pointer (some ⟨b + 1, 3, none⟩)) rfl rfl (by kernel_rfl) (by kernel_rfl) (by kernel_rfl) (by kernel_rfl) (fun _ _ _ h => h) (by rfl) (fun W' hb => ?_) hS5 ?_
    · go_simp
    simp only [List.setIfInBounds_toArray, List.set_cons_zero, List.set_cons_succ]
    refine RK.Any.take 2 42 (.slice p.ao p.len p.cap) rfl rfl (by kernel_rfl) (by kernel_rfl) (by kernel_rfl) (by kernel_rfl) (fun _ _ _ h => h) (by rfl) (fun W' hb => ?_) hS5 ?_
    · (have hc : W'.cell? ⟨b + 1, 3, none⟩ = some (.slice p.ao p.len p.cap) := (cell_of_row W' (b + 1) 3 _ _ _ hb.c).trans rfl; go_simp)
    simp only [List.setIfInBounds_toArray, List.set_cons_zero, List.set_cons_succ]
    refine RK.Any.take 4 44 (.pointer (some ⟨b, 3, none⟩)) rfl rfl (by kernel_rfl) (by kernel_rfl) (by kernel_rfl) (by kernel_rfl) (fun _ _ _ h => h) (by rfl) (fun W' hb => ?_) hS5 ?_
    · go_simp
    simp only [List.setIfInBounds_toArray, List.set_cons_zero, List.set_cons_succ]
    refine RK.Any.take 5 45 (.slice t.ao t.len t.cap) rfl rfl (by kernel_rfl) (by kernel_rfl) (by kernel_rfl) (by kernel_rfl) (fun _ _ _ h => h) (by rfl) (fun W' hb => ?_) hS5 ?_
    · (have hc : W'.cell? ⟨b, 3, none⟩ = some (.slice t.ao t.len t.cap) := (cell_of_row W' b 3 _ _ _ hb.a).trans rfl; go_simp)
    simp only [List.setIfInBounds_toArray, List.set_cons_zero, List.set_cons_succ]
    refine RK.Any.take 6 46 (.int .i64 (t.len : Int)) rfl rfl (by kernel_rfl) (by kernel_rfl) (by kernel_rfl) (by kernel_rfl) (fun _ _ _ h => h) (by rfl) (fun W' hb => ?_) hS5 ?_
    · go_simp
    simp only [List.setIfInBounds_toArray, List.set_cons_zero, List.set_cons_succ]
    refine RK.Any.take 8 48 (.pointer (some ⟨b, 3, none⟩)) rfl rfl (by kernel_rfl) (by kernel_rfl) (by kernel_rfl) (by kernel_rfl) (fun _ _ _ h => h) (by rfl) (fun W' hb => ?_) hS5 ?_
    · go_simp
    simp only [List.setIfInBounds_toArray, List.set_cons_zero, List.set_cons_succ]
    refine RK.Any.take 9 49 (.slice t.ao t.len t.cap) rfl rfl (by kernel_rfl) (by kernel_rfl) (by kernel_rfl) (by kernel_rfl) (fun _ _ _ h => h) (by rfl) (fun W' hb => ?_) hS5 ?_
    · (have hc : W'.cell? ⟨b, 3, none⟩ = some (.slice t.ao t.len t.cap) := (cell_of_row W' b 3 _ _ _ hb.a).trans rfl; go_simp)
    simp only [List.setIfInBounds_toArray, List.set_cons_zero, List.set_cons_succ]
    refine RK.Any.take 10 50 (.int .i64 (t.len : Int)) rfl rfl (by kernel_rfl) (by kernel_rfl) (by kernel_rfl) (by kernel_rfl) (fun _ _ _ h => h) (by rfl) (fun W' hb => ?_) hS5 ?_
    · go_simp
    simp only [List.setIfInBounds_toArray, List.set_cons_zero, List.set_cons_succ]
    refine RK.Any.exec 0 40 (.slice (some ⟨wd.heap.size, 0, none⟩) 0 0) (w1 := w6) (by kernel_rfl) rfl rfl (by rfl) (by go_simp; exact HW6.out) hS6 ?_
    simp only [List.setIfInBounds_toArray, List.set_cons_zero, List.set_cons_succ]
    refine RK.Any.exec 3 43 (.slice (some ⟨g1, 0, none⟩) p.len c1) (w1 := w7) (by kernel_rfl) rfl rfl (by rfl) (RK.exec_append _ _ _ _ rfl _ _ rfl rfl hHR7.out) hS7 ?_
    simp only [List.setIfInBounds_toArray, List.set_cons_zero, List.set_cons_succ]
    refine RK.Any.exec 7 47 (.slice (some ⟨g2, 0, none⟩) (p.len + t.len) c2) (w1 := w8) (by kernel_rfl) rfl rfl (by rfl) (RK.exec_append _ _ _ _ rfl _ _ rfl rfl hHR8.out) hS8 ?_
    simp only [List.setIfInBounds_toArray, List.set_cons_zero, List.set_cons_succ]
    refine RK.Any.exec 11 51 (.slice (some ⟨g2, 0, none⟩) t.len c2) (w1 := w8) (by kernel_rfl) rfl rfl (by rfl) (by go_simp) hS8 ?_
    simp only [List.setIfInBounds_toArray, List.set_cons_zero, List.set_cons_succ]
    refine RK.Any.exec 12 52 (.pointer (some ⟨b + 1, 3, none⟩)) (w1 := w8) (by kernel_rfl) rfl rfl (by rfl) (by go_simp) hS8 ?_
    simp only [List.setIfInBounds_toArray, List.set_cons_zero, List.set_cons_succ]
    have hst8 : w8.cell? ⟨b + 1, 3, none⟩ = some (.slice p.ao p.len p.cap) := (cell_of_row w8 (b + 1) 3 _ _ _ hS8.c).trans rfl
    have hfr8 := frozen_of_row w8 (b + 1) 3 _ _ hS8.c
    refine RK.Any.store 13 (w1 := w8.setCell ⟨b + 1, 3, none⟩ (.slice (some ⟨g2, 0, none⟩) t.len c2)) (by kernel_rfl) rfl rfl (by rfl) (by go_simp) (fun h => absurd rfl h) ?_
    refine RK.Any.done (by kernel_rfl) ?_
    have HL7 := Lib.hid (hS8.list (by rw [HBS.out]; exact Nat.le_succ b) (ao := some ⟨g2, 0, none⟩) (n := t.len) (c := c2) (z := fun j => if j < p.len then p.z j else 0))
    have hrd9 : Rd (w8.setCell ⟨b + 1, 3, none⟩ (.slice (some ⟨g2, 0, none⟩) t.len c2)) (some ⟨g2, 0, none⟩) t.len (fun j => if j < p.len then p.z j else 0) := fun _ => ⟨_, rfl, fun j hj => by
      rw [Addr.add_mid, Nat.zero_add, World.cell?_setCell_other _ _ _ _ (by simp <;> omega)]
      exact hHCE.out j (by omega)⟩
    clear hst8 hfr8 hS5 hS6 hS7 hS8 hHR7 hHR8 HL5 hb6 hb7 hb8
    generalize w8.setCell ⟨b + 1, 3, none⟩ (.slice (some ⟨g2, 0, none⟩) t.len c2) = w9 at *
    have hp2 : ({ p with ao := some ⟨g2, 0, none⟩, len := t.len, cap := c2, z := fun j => if j < p.len then p.z j else 0 } : Th).Ok := ⟨hp.k, hp.n, fun j => by
      show (if j < p.len then p.z j else 0) < _
      split
      · exact hp.z j
      · omega, hp.m, hp.s, ht.len⟩
    have HPK2 : Hid (({ p with ao := some ⟨g2, 0, none⟩, len := t.len, cap := c2, z := fun j => if j < p.len then p.z j else 0 } : Th).k = t.k) := Lib.hid HPK.out
    have HPL2 : Hid (({ p with ao := some ⟨g2, 0, none⟩, len := t.len, cap := c2, z := fun j => if j < p.len then p.z j else 0 } : Th).len = t.len) := Lib.hid rfl
    have hrp2 : Rd w9 ({ p with ao := some ⟨g2, 0, none⟩, len := t.len, cap := c2, z := fun j => if j < p.len then p.z j else 0 } : Th).ao ({ p with ao := some ⟨g2, 0, none⟩, len := t.len, cap := c2, z := fun j => if j < p.len then p.z j else 0 } : Th).len ({ p with ao := some ⟨g2, 0, none⟩, len := t.len, cap := c2, z := fun j => if j < p.len then p.z j else 0 } : Th).z := hrd9
    clear hrd9 hHCE
    generalize ({ p with ao := some ⟨g2, 0, none⟩, len := t.len, cap := c2, z := fun j => if j < p.len then p.z j else 0 } : Th) = r at *
    have hc0 : w9.cell? ⟨b, 0, none⟩ = some (.int .u8 (t.k : Int)) := (cell_of_row w9 b 0 _ _ _ HL7.out.a).trans rfl
    have HRT := Lib.hid hrt
    have HRP := Lib.hid hrp2
    have hP := fun (y : Th) (hy : y.Ok) (w : World) (hr : Rd w y.ao y.len y.z) => put_any y hy [] (by simp) w hr
    simp only [List.nil_append] at hP
    go_upto_region 8 with fail
    clear hc0 hrt hrp hrp2 hcap hc2 hg2
    by_cases h2 : t.len ≤ 1024
    · have HH2 := Lib.hid h2
      refine RK.region (fun w => LB W b t r w ∧ Rd w r.ao r.len r.z) 100 (by kernel_rfl) ?_
      have hS0 : LB W b t r w9.drew ∧ Rd w9.drew r.ao r.len r.z := ⟨HL7.out.step' (Below.drawn (Below.refl _ _) 1), HRP.out.below (Below.drawn (Below.refl _ _) 1)⟩
      refine RK.Any.take 0 53 (.agg t.cells) rfl rfl (by kernel_rfl) (by kernel_rfl) (by kernel_rfl) (by kernel_rfl) (fun _ _ _ h => h) (by rfl) (fun W' hb => ?_) hS0 ?_
      · exact load_th hb.1.a rfl rfl rfl
      simp only [List.setIfInBounds_toArray, List.set_cons_zero, List.set_cons_succ]
      refine RK.Any.take 2 55 (.agg r.cells) rfl rfl (by kernel_rfl) (by kernel_rfl) (by kernel_rfl) (by kernel_rfl) (fun _ _ _ h => h) (by rfl) (fun W' hb => ?_) hS0 ?_
      · exact load_th hb.1.c rfl rfl rfl
      simp only [List.setIfInBounds_toArray, List.set_cons_zero, List.set_cons_succ]
      refine RK.Any.call 1 54 43 #[.agg t.cells, .string ⟨#[]⟩] (by kernel_rfl) rfl rfl (by rfl) (by go_simp) (Calls.mono (hP t ht _ (HRT.out.below (by exact hS0.1.below))) ?_)
      rintro e x6 ⟨rfl, hb6⟩
      have hS6 : LB W b t r x6 ∧ Rd x6 r.ao r.len r.z := ⟨hS0.1.step' hb6, hS0.2.below hb6⟩
      refine ⟨_, rfl, fun _ => hS6, ?_⟩
      simp only [List.setIfInBounds_toArray, List.set_cons_zero, List.set_cons_succ]
      refine RK.Any.call 3 56 43 #[.agg r.cells, .string ⟨#[]⟩] (by kernel_rfl) rfl rfl (by rfl) (by go_simp) (Calls.mono (hP r hp2 _ hS6.2) ?_)
      rintro e x7 ⟨rfl, hb7⟩
      have hS7 : LB W b t r x7 ∧ Rd x7 r.ao r.len r.z := ⟨hS6.1.step' hb7, hS6.2.below hb7⟩
      refine ⟨_, rfl, fun _ => hS7, ?_⟩
      simp only [List.setIfInBounds_toArray, List.set_cons_zero, List.set_cons_succ]
      refine RK.Any.exec 4 5 (.string ⟨t.bytes.toArray⟩) (w1 := x7) (by kernel_rfl) rfl rfl (by rfl) (by go_simp) hS7 ?_
      simp only [List.setIfInBounds_toArray, List.set_cons_zero, List.set_cons_succ]
      refine RK.Any.exec 5 6 (.string ⟨r.bytes.toArray⟩) (w1 := x7) (by kernel_rfl) rfl rfl (by rfl) (by go_simp) hS7 ?_
      simp only [List.setIfInBounds_toArray, List.set_cons_zero, List.set_cons_succ]
      refine RK.Any.done (by kernel_rfl) ?_
      have HS7 := Lib.hid hS7
      clear hS0 hS6 hS7 hb6 hb7 HL7
      go_upto_region 9 with fail
      go_upto_region 11 with (first
        | (refine wpList_load_row rfl 45 _ rfl b rfl 45 t.cells (0, 0) _ HS7.out.1.a Try.underlying45 rfl info_th ?_)
        | (go_at_call 42; (with_reducible refine (may_any t x7).mono ?_); rintro e x8 ⟨rfl, hb8⟩; have HS8 : Hid (LB W b t r x8 ∧ Rd x8 r.ao r.len r.z) := Lib.hid ⟨HS7.out.1.step' hb8, HS7.out.2.below hb8⟩; clear hb8; have hx8 := HS8.out.1.a; have hy8 := HS8.out.1.c; have hc8 : x8.cell? ⟨b, 0, none⟩ = some (.int .u8 (t.k : Int)) := (cell_of_row x8 b 0 _ _ _ hx8).trans rfl; have he0 : x8.cell? ⟨b + 1, 0, none⟩ = some (.int .u8 (r.k : Int)) := (cell_of_row x8 (b + 1) 0 _ _ _ hy8).trans rfl; have he1 : x8.cell? ⟨b + 1, 1, none⟩ = some (.int .u64 (r.n : Int)) := (cell_of_row x8 (b + 1) 1 _ _ _ hy8).trans rfl; have he2 : x8.cell? ⟨b + 1, 2, none⟩ = some (.string ⟨r.s.toArray⟩) := (cell_of_row x8 (b + 1) 2 _ _ _ hy8).trans rfl; have he3 : x8.cell? ⟨b + 1, 3, none⟩ = some (.slice r.ao r.len r.cap) := (cell_of_row x8 (b + 1) 3 _ _ _ hy8).trans rfl; have he4 : x8.cell? ⟨b + 1, 4, none⟩ = some (.int .i64 r.m) := (cell_of_row x8 (b + 1) 4 _ _ _ hy8).trans rfl; clear hx8 hy8; rcases hmt : t.may with _ | _)
        | (go_at_call 42; (with_reducible refine (may_any r x8).mono ?_); rintro e x9 ⟨rfl, hb9⟩; have HS9 : Hid (LB W b t r x9 ∧ Rd x9 r.ao r.len r.z) := Lib.hid ⟨HS8.out.1.step' hb9, HS8.out.2.below hb9⟩; clear hb9; clear hc8 he0 he1 he2 he3 he4; have hx9 := HS9.out.1.a; have hy9 := HS9.out.1.c; have hc9 : x9.cell? ⟨b, 0, none⟩ = some (.int .u8 (t.k : Int)) := (cell_of_row x9 b 0 _ _ _ hx9).trans rfl; have hn9 : x9.cell? ⟨b, 1, none⟩ = some (.int .u64 (t.n : Int)) := (cell_of_row x9 b 1 _ _ _ hx9).trans rfl; have hm9 : x9.cell? ⟨b + 1, 1, none⟩ = some (.int .u64 (r.n : Int)) := (cell_of_row x9 (b + 1) 1 _ _ _ hy9).trans rfl; clear hx9 hy9; rcases hmp : r.may with _ | _))
      · exfalso
        have hmf : t.may = true := by simp [Th.may, HK4.out, h2]
        rw [hmf] at hmt; cases hmt
      · exfalso
        have hmf : r.may = true := by simp [Th.may, HPK2.out, HK4.out, HPL2.out, h2]
        rw [hmf] at hmp; cases hmp
      · have hbt : t.bytes = MM.listB t.len t.z := by unfold Th.bytes; rw [if_neg (by have := HK4.out; omega), if_neg (by have := HK4.out; omega), if_pos HK4.out, if_pos h2]
        have hbp : r.bytes = MM.listB t.len r.z := by unfold Th.bytes; rw [HPK2.out, if_neg (by have := HK4.out; omega), if_neg (by have := HK4.out; omega), if_pos HK4.out, HPL2.out, if_pos h2]
        have HD := Lib.hid (MM.listB_same t.len ht.z hp2.z)
        have hlb : (MM.listB t.len r.z).length = (MM.listB t.len t.z).length := by unfold MM.listB; simp
        rw [hbt, hbp]
        clear hbt hbp
        generalize MM.listB t.len t.z = bt at *
        generalize MM.listB t.len r.z = br at *
        go_upto_region 19 with fail
        clear hc9 hn9 hm9
        go_wp2_with fail
        go_loopw [7, 8] (fun s7 s8 wx => ∃ k : Nat, k ≤ t.len ∧ s8 = .int .i64 (k : Int) ∧ s7 = .bool (decide (∀ j, j < k → t.z j = r.z j)) ∧ LB W b t r wx ∧ Rd wx r.ao r.len r.z) (fun _ s8 _ => t.len - (RowKit.intOf s8).toNat)
        case atStart => exact ⟨0, Nat.zero_le _, rfl, by rw [decide_eq_true (fun j hj => absurd hj (by omega))], HS9.out⟩
        case round =>
          obtain ⟨k, hk, rfl, rfl, hL, hR⟩ := hrel
          have HL := Lib.hid hL
          have HR := Lib.hid hR
          clear hL hR
          have hsx : wr.cell? ⟨b, 3, none⟩ = some (.slice t.ao t.len t.cap) := (cell_of_row wr b 3 _ _ _ HL.out.a).trans rfl
          have hsy : wr.cell? ⟨b + 1, 3, none⟩ = some (.slice r.ao r.len r.cap) := (cell_of_row wr (b + 1) 3 _ _ _ HL.out.c).trans rfl
          by_cases hlt : k < t.len
          · obtain ⟨ta, hta, hza⟩ := (HRT.out.below HL.out.below).at_ hlt
            obtain ⟨ra, hra, hzr⟩ := HR.out.at_ (by rw [HPL2.out]; exact hlt)
            rw [hta] at hsx
            rw [hra, HPL2.out] at hsy
            have hki : (k : Int) < (t.len : Int) := by omega
            by_cases hall : ∀ j, j < k → t.z j = r.z j
            · have HN := Lib.hid (MM.all_succ (k := k) hall)
              rw [decide_eq_true hall]
              clear hall
              generalize t.z k = tz at *
              generalize r.z k = rz at *
              generalize wr = w0 at *
              go_wp2_with fail
              go_quiet (fail)
              go_wp2_with fail
              go_roundw
              case rel => exact ⟨k + 1, by omega, by go_num, by rw [HN.out], HL.out.step' (Below.drawn (Below.refl _ _) _), HR.out.below (Below.drawn (Below.refl _ _) _)⟩
              case measure => simp [RowKit.intOf]; omega
            · have HN := Lib.hid (MM.all_not (k := k) hall)
              rw [decide_eq_false hall]
              clear hall
              generalize wr = w0 at *
              go_wp2_with fail
              go_quiet (fail)
              go_wp2_with fail
              go_roundw
              case rel => exact ⟨k + 1, by omega, by go_num, by rw [HN.out], HL.out.step' (Below.drawn (Below.refl _ _) _), HR.out.below (Below.drawn (Below.refl _ _) _)⟩
              case measure => simp [RowKit.intOf]; omega
          · obtain rfl : k = t.len := by omega
            generalize decide (∀ j, j < t.len → t.z j = r.z j) = dd at *
            go_wp2_with fail
            go_ret
            exact ⟨by rw [HD.out]; rfl, HL.out.below⟩
    · have HH2 := Lib.hid h2
      refine RK.region (fun w => LB W b t r w ∧ Rd w r.ao r.len r.z) 100 (by kernel_rfl) ?_
      have hS0 : LB W b t r w9.drew ∧ Rd w9.drew r.ao r.len r.z := ⟨HL7.out.step' (Below.drawn (Below.refl _ _) 1), HRP.out.below (Below.drawn (Below.refl _ _) 1)⟩
      refine RK.Any.take 0 53 (.agg t.cells) rfl rfl (by kernel_rfl) (by kernel_rfl) (by kernel_rfl) (by kernel_rfl) (fun _ _ _ h => h) (by rfl) (fun W' hb => ?_) hS0 ?_
      · exact load_th hb.1.a rfl rfl rfl
      simp only [List.setIfInBounds_toArray, List.set_cons_zero, List.set_cons_succ]
      refine RK.Any.take 2 55 (.agg r.cells) rfl rfl (by kernel_rfl) (by kernel_rfl) (by kernel_rfl) (by kernel_rfl) (fun _ _ _ h => h) (by rfl) (fun W' hb => ?_) hS0 ?_
      · exact load_th hb.1.c rfl rfl rfl
      simp only [List.setIfInBounds_toArray, List.set_cons_zero, List.set_cons_succ]
      refine RK.Any.call 1 54 43 #[.agg t.cells, .string ⟨#[]⟩] (by kernel_rfl) rfl rfl (by rfl) (by go_simp) (Calls.mono (hP t ht _ (HRT.out.below (by exact hS0.1.below))) ?_)
      rintro e x6 ⟨rfl, hb6⟩
      have hS6 : LB W b t r x6 ∧ Rd x6 r.ao r.len r.z := ⟨hS0.1.step' hb6, hS0.2.below hb6⟩
      refine ⟨_, rfl, fun _ => hS6, ?_⟩
      simp only [List.setIfInBounds_toArray, List.set_cons_zero, List.set_cons_succ]
      refine RK.Any.call 3 56 43 #[.agg r.cells, .string ⟨#[]⟩] (by kernel_rfl) rfl rfl (by rfl) (by go_simp) (Calls.mono (hP r hp2 _ hS6.2) ?_)
      rintro e x7 ⟨rfl, hb7⟩
      have hS7 : LB W b t r x7 ∧ Rd x7 r.ao r.len r.z := ⟨hS6.1.step' hb7, hS6.2.below hb7⟩
      refine ⟨_, rfl, fun _ => hS7, ?_⟩
      simp only [List.setIfInBounds_toArray, List.set_cons_zero, List.set_cons_succ]
      refine RK.Any.exec 4 5 (.string ⟨t.bytes.toArray⟩) (w1 := x7) (by kernel_rfl) rfl rfl (by rfl) (by go_simp) hS7 ?_
      simp only [List.setIfInBounds_toArray, List.set_cons_zero, List.set_cons_succ]
      refine RK.Any.exec 5 6 (.string ⟨r.bytes.toArray⟩) (w1 := x7) (by kernel_rfl) rfl rfl (by rfl) (by go_simp) hS7 ?_
      simp only [List.setIfInBounds_toArray, List.set_cons_zero, List.set_cons_succ]
      refine RK.Any.done (by kernel_rfl) ?_
      have HS7 := Lib.hid hS7
      clear hS0 hS6 hS7 hb6 hb7 HL7
      have hbt : t.bytes = [] := by unfold Th.bytes; rw [if_neg (by have := HK4.out; omega), if_neg (by have := HK4.out; omega), if_pos HK4.out, if_neg h2]
      rw [hbt]
      clear hbt
      go_upto_region 9 with fail
      go_upto_region 11 with (first
        | (refine wpList_load_row rfl 45 _ rfl b rfl 45 t.cells (0, 0) _ HS7.out.1.a Try.underlying45 rfl info_th ?_)
        | (go_at_call 42; (with_reducible refine (may_any t x7).mono ?_); rintro e x8 ⟨rfl, hb8⟩; have HS8 : Hid (LB W b t r x8 ∧ Rd x8 r.ao r.len r.z) := Lib.hid ⟨HS7.out.1.step' hb8, HS7.out.2.below hb8⟩; clear hb8; have hx8 := HS8.out.1.a; have hy8 := HS8.out.1.c; have hc8 : x8.cell? ⟨b, 0, none⟩ = some (.int .u8 (t.k : Int)) := (cell_of_row x8 b 0 _ _ _ hx8).trans rfl; have he0 : x8.cell? ⟨b + 1, 0, none⟩ = some (.int .u8 (r.k : Int)) := (cell_of_row x8 (b + 1) 0 _ _ _ hy8).trans rfl; have he1 : x8.cell? ⟨b + 1, 1, none⟩ = some (.int .u64 (r.n : Int)) := (cell_of_row x8 (b + 1) 1 _ _ _ hy8).trans rfl; have he2 : x8.cell? ⟨b + 1, 2, none⟩ = some (.string ⟨r.s.toArray⟩) := (cell_of_row x8 (b + 1) 2 _ _ _ hy8).trans rfl; have he3 : x8.cell? ⟨b + 1, 3, none⟩ = some (.slice r.ao r.len r.cap) := (cell_of_row x8 (b + 1) 3 _ _ _ hy8).trans rfl; have he4 : x8.cell? ⟨b + 1, 4, none⟩ = some (.int .i64 r.m) := (cell_of_row x8 (b + 1) 4 _ _ _ hy8).trans rfl; clear hx8 hy8; rcases hmt : t.may with _ | _)
        | (go_at_call 42; (with_reducible refine (may_any r x8).mono ?_); rintro e x9 ⟨rfl, hb9⟩; have HS9 : Hid (LB W b t r x9 ∧ Rd x9 r.ao r.len r.z) := Lib.hid ⟨HS8.out.1.step' hb9, HS8.out.2.below hb9⟩; clear hb9; clear hc8 he0 he1 he2 he3 he4; have hx9 := HS9.out.1.a; have hy9 := HS9.out.1.c; have hc9 : x9.cell? ⟨b, 0, none⟩ = some (.int .u8 (t.k : Int)) := (cell_of_row x9 b 0 _ _ _ hx9).trans rfl; have hn9 : x9.cell? ⟨b, 1, none⟩ = some (.int .u64 (t.n : Int)) := (cell_of_row x9 b 1 _ _ _ hx9).trans rfl; have hm9 : x9.cell? ⟨b + 1, 1, none⟩ = some (.int .u64 (r.n : Int)) := (cell_of_row x9 (b + 1) 1 _ _ _ hy9).trans rfl; clear hx9 hy9; rcases hmp : r.may with _ | _))
      · go_ret
        exact ⟨rfl, HS8.out.1.below⟩
      all_goals (exfalso; have hmf : t.may = false := by simp [Th.may, HK4.out, h2]
                 rw [hmf] at hmt; cases hmt)
  · go_ret
    exact ⟨rfl, ((HI.out.step' HB3.out).step' HB4.out).below⟩
end M
end Go.Proofs.Ytaijnejbffnfpaa
