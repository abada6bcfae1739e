/- BivarNames: the closed statement of layer 6 answers true: the examples, lists of unlike length, polynomials of nothing, and a q that is none. -/
import Derived.Test.YtccpdjjgpkkkbaaRows
import Derived.Test.YtccpdjjgpkkkbaaOpenN
import Derived.Test.YtccpdjjgpkkkbaaRace
namespace Go.Proofs.Ytccpdjjgpkkkbaa
open Go.ChangeShapes Go.WideShapes Go.ChangeAt Go.RowKit
namespace BivarNames
open M

set_option maxRecDepth 100000 in
set_option maxHeartbeats 16000000 in
theorem names_any (w : World) : Calls Try.prog 3 #[] w fun e w' => e = .returned (.bool true) ∧ Below w.heap.size w w' := by
  have hF : Mat (((w.alloc (.cells #[.int .u64 1] 22)).alloc (.cells #[.int .u64 0, .int .u64 2, .int .u64 3] 22)).alloc (.cells #[.slice (some ⟨w.heap.size, 0, none⟩) 1 1, .slice none 0 0, .slice (some ⟨w.heap.size + 1, 0, none⟩) 3 3] 23)) (some ⟨w.heap.size + 1 + 1, 0, none⟩) 3 (MM.lenL [[1], [], [0, 2, 3]]) (MM.nlR [[1], [], [0, 2, 3]]) := mat3 (by simp) (Sl.row ((row_at [1] rfl rfl).alloc _) rfl) (Sl.nil _) (Sl.row (row_at [0, 2, 3] (by simp) rfl) rfl)
  have hS : St w (((w.alloc (.cells #[.int .u64 1] 22)).alloc (.cells #[.int .u64 0, .int .u64 2, .int .u64 3] 22)).alloc (.cells #[.slice (some ⟨w.heap.size, 0, none⟩) 1 1, .slice none 0 0, .slice (some ⟨w.heap.size + 1, 0, none⟩) 3 3] 23)) := (((St.start w).alloc _).alloc _).alloc _
  go_enter Try.func3, Try.ntmps3
  go_upto_region 2 with fail
  generalize ((w.alloc (.cells #[.int .u64 1] 22)).alloc (.cells #[.int .u64 0, .int .u64 2, .int .u64 3] 22)).alloc (.cells #[.slice (some ⟨w.heap.size, 0, none⟩) 1 1, .slice none 0 0, .slice (some ⟨w.heap.size + 1, 0, none⟩) 3 3] 23) = W1 at *
  generalize w.heap.size + 1 + 1 = B at *
  have HF := Lib.hid hF
  have HS := Lib.hid hS
  clear hF hS
  go_wp2_with fail
  refine (through_is [] [] [] 7 0 0 rfl (by decide) (by decide) (by decide +kernel) (rd_nil _ _) (mat0 _ _)).mono ?_
  rintro e w2 ⟨G2, rfl, hg, hb⟩
  have HF2 := Lib.hid (HF.out.below hb)
  have HS2 := Lib.hid (HS.out.step hb)
  clear hg hb HF HS
  go_wp2_with fail
  refine (through_is [3] [[5, 9]] [[5, 2]] 7 1 2 rfl (by decide) (by decide) (by decide +kernel) (((row_rd' (row_at [3] rfl rfl)).alloc _).alloc _) (mat1 (by simp) (Sl.row (row_at [5, 9] (by simp) rfl) rfl))).mono ?_
  rintro e w3 ⟨G3, rfl, hg, hb⟩
  have HF3 := Lib.hid ((((HF2.out.alloc _).alloc _).alloc _).below hb)
  have HS3 := Lib.hid ((((HS2.out.alloc _).alloc _).alloc _).step hb)
  have HB3 := Lib.hid hg
  clear hg hb HF2 HS2
  go_wp2_with fail
  refine (through_is [1, 2] [[], [0, 1]] [[0, 6], [0, 1]] 7 2 2 rfl (by decide) (by decide) (by decide +kernel) (((row_rd' (row_at [1, 2] rfl rfl)).alloc _).alloc _) (mat2 (by simp) (Sl.nil _) (Sl.row (row_at [0, 1] (by simp) rfl) rfl))).mono ?_
  rintro e w4 ⟨G4, rfl, hg, hb⟩
  have HF4 := Lib.hid ((((HF3.out.alloc _).alloc _).alloc _).below hb)
  have HS4 := Lib.hid ((((HS3.out.alloc _).alloc _).alloc _).step hb)
  have HB4 := Lib.hid ((((HB3.out.alloc _).alloc _).alloc _).below hb)
  have HC4 := Lib.hid hg
  clear hg hb HF3 HS3 HB3
  go_wp2_with fail
  refine (through_is [1, 2] [[], []] [[], []] 7 2 0 rfl (by decide) (by decide) (by decide +kernel) ((row_rd' (row_at [1, 2] rfl rfl)).alloc _) (mat2 (by simp) (Sl.nil _) (Sl.nil _))).mono ?_
  rintro e w5 ⟨G5, rfl, hg, hb⟩
  have HF5 := Lib.hid (((HF4.out.alloc _).alloc _).below hb)
  have HS5 := Lib.hid (((HS4.out.alloc _).alloc _).step hb)
  have HB5 := Lib.hid (((HB4.out.alloc _).alloc _).below hb)
  have HC5 := Lib.hid (((HC4.out.alloc _).alloc _).below hb)
  have HD5 := Lib.hid hg
  clear hg hb HF4 HS4 HB4 HC4
  go_upto_region 6 with fail
  obtain ⟨_, d0, c0, hd1, hd2, _⟩ := HD5.out 0 (by decide)
  obtain ⟨_, d1, c1, hd3, hd4, _⟩ := HD5.out 1 (by decide)
  cases hd1
  cases hd3
  rw [add_zero'] at hd2 hd4
  change w5.cell? ⟨G5, 0, none⟩ = some (.slice d0 0 c0) at hd2
  change w5.cell? ⟨G5, 1, none⟩ = some (.slice d1 0 c1) at hd4
  refine RK.region (Below w5.heap.size w5) 100 (by kernel_rfl) ?_
  have HS0 : Below w5.heap.size w5 w5.drew := below_drewN' w5 1 _
  refine RK.Any.call 0 37 8 #[] (by kernel_rfl) rfl rfl (by rfl) (by go_simp) (Calls.mono (works_any _) ?_)
  rintro e w6 ⟨rfl, hb⟩
  have HS1 : Below w5.heap.size w5 w6 := HS0.trans (hb.mono HS0.size)
  clear hb
  refine ⟨_, rfl, fun _ => HS1, ?_⟩
  simp only [List.setIfInBounds_toArray, List.set_cons_zero, List.set_cons_succ]
  refine RK.Any.take 1 38 (.bool false) rfl rfl (by kernel_rfl) (by kernel_rfl) (by kernel_rfl) (by kernel_rfl) (fun _ _ _ h => h) (by rfl) (fun W' hb => ?_) HS1 ?_
  · skip; go_simp
  simp only [List.setIfInBounds_toArray, List.set_cons_zero, List.set_cons_succ]
  refine RK.Any.take 2 39 (.bool false) rfl rfl (by kernel_rfl) (by kernel_rfl) (by kernel_rfl) (by kernel_rfl) (fun _ _ _ h => h) (by rfl) (fun W' hb => ?_) HS1 ?_
  · skip; go_simp
  simp only [List.setIfInBounds_toArray, List.set_cons_zero, List.set_cons_succ]
  refine RK.Any.take 3 40 (.bool false) rfl rfl (by kernel_rfl) (by kernel_rfl) (by kernel_rfl) (by kernel_rfl) (fun _ _ _ h => h) (by rfl) (fun W' hb => ?_) HS1 ?_
  · skip; go_simp
  simp only [List.setIfInBounds_toArray, List.set_cons_zero, List.set_cons_succ]
  refine RK.Any.take 4 41 (.bool false) rfl rfl (by kernel_rfl) (by kernel_rfl) (by kernel_rfl) (by kernel_rfl) (fun _ _ _ h => h) (by rfl) (fun W' hb => ?_) HS1 ?_
  · skip; go_simp
  simp only [List.setIfInBounds_toArray, List.set_cons_zero, List.set_cons_succ]
  refine RK.Any.take 5 42 (.bool false) rfl rfl (by kernel_rfl) (by kernel_rfl) (by kernel_rfl) (by kernel_rfl) (fun _ _ _ h => h) (by rfl) (fun W' hb => ?_) HS1 ?_
  · skip; go_simp
  simp only [List.setIfInBounds_toArray, List.set_cons_zero, List.set_cons_succ]
  refine RK.Any.take 6 43 (.bool false) rfl rfl (by kernel_rfl) (by kernel_rfl) (by kernel_rfl) (by kernel_rfl) (fun _ _ _ h => h) (by rfl) (fun W' hb => ?_) HS1 ?_
  · skip; go_simp
  simp only [List.setIfInBounds_toArray, List.set_cons_zero, List.set_cons_succ]
  refine RK.Any.take 7 44 (.int .i64 0) rfl rfl (by kernel_rfl) (by kernel_rfl) (by kernel_rfl) (by kernel_rfl) (fun _ _ _ h => h) (by rfl) (fun W' hb => ?_) HS1 ?_
  · skip; go_simp
  simp only [List.setIfInBounds_toArray, List.set_cons_zero, List.set_cons_succ]
  refine RK.Any.take 8 45 (.bool false) rfl rfl (by kernel_rfl) (by kernel_rfl) (by kernel_rfl) (by kernel_rfl) (fun _ _ _ h => h) (by rfl) (fun W' hb => ?_) HS1 ?_
  · skip; go_simp
  simp only [List.setIfInBounds_toArray, List.set_cons_zero, List.set_cons_succ]
  refine RK.Any.take 9 46 (.bool false) rfl rfl (by kernel_rfl) (by kernel_rfl) (by kernel_rfl) (by kernel_rfl) (fun _ _ _ h => h) (by rfl) (fun W' hb => ?_) HS1 ?_
  · skip; go_simp
  simp only [List.setIfInBounds_toArray, List.set_cons_zero, List.set_cons_succ]
  refine RK.Any.take 10 47 (.bool false) rfl rfl (by kernel_rfl) (by kernel_rfl) (by kernel_rfl) (by kernel_rfl) (fun _ _ _ h => h) (by rfl) (fun W' hb => ?_) HS1 ?_
  · skip; go_simp
  simp only [List.setIfInBounds_toArray, List.set_cons_zero, List.set_cons_succ]
  refine RK.Any.take 11 48 (.slice (some ⟨G2, 0, none⟩) 0 0) rfl rfl (by kernel_rfl) (by kernel_rfl) (by kernel_rfl) (by kernel_rfl) (fun _ _ _ h => h) (by rfl) (fun W' hb => ?_) HS1 ?_
  · skip; go_simp
  simp only [List.setIfInBounds_toArray, List.set_cons_zero, List.set_cons_succ]
  refine RK.Any.take 12 49 (.int .i64 0) rfl rfl (by kernel_rfl) (by kernel_rfl) (by kernel_rfl) (by kernel_rfl) (fun _ _ _ h => h) (by rfl) (fun W' hb => ?_) HS1 ?_
  · skip; go_simp
  simp only [List.setIfInBounds_toArray, List.set_cons_zero, List.set_cons_succ]
  refine RK.Any.take 13 50 (.bool false) rfl rfl (by kernel_rfl) (by kernel_rfl) (by kernel_rfl) (by kernel_rfl) (fun _ _ _ h => h) (by rfl) (fun W' hb => ?_) HS1 ?_
  · skip; go_simp
  simp only [List.setIfInBounds_toArray, List.set_cons_zero, List.set_cons_succ]
  refine RK.Any.take 14 51 (.bool false) rfl rfl (by kernel_rfl) (by kernel_rfl) (by kernel_rfl) (by kernel_rfl) (fun _ _ _ h => h) (by rfl) (fun W' hb => ?_) HS1 ?_
  · skip; go_simp
  simp only [List.setIfInBounds_toArray, List.set_cons_zero, List.set_cons_succ]
  refine RK.Any.take 15 52 (.bool false) rfl rfl (by kernel_rfl) (by kernel_rfl) (by kernel_rfl) (by kernel_rfl) (fun _ _ _ h => h) (by rfl) (fun W' hb => ?_) HS1 ?_
  · skip; go_simp
  simp only [List.setIfInBounds_toArray, List.set_cons_zero, List.set_cons_succ]
  refine RK.Any.take 16 53 (.int .i64 0) rfl rfl (by kernel_rfl) (by kernel_rfl) (by kernel_rfl) (by kernel_rfl) (fun _ _ _ h => h) (by rfl) (fun W' hb => ?_) HS1 ?_
  · skip; go_simp
  simp only [List.setIfInBounds_toArray, List.set_cons_zero, List.set_cons_succ]
  refine RK.Any.take 17 54 (.bool false) rfl rfl (by kernel_rfl) (by kernel_rfl) (by kernel_rfl) (by kernel_rfl) (fun _ _ _ h => h) (by rfl) (fun W' hb => ?_) HS1 ?_
  · skip; go_simp
  simp only [List.setIfInBounds_toArray, List.set_cons_zero, List.set_cons_succ]
  refine RK.Any.take 18 55 (.bool false) rfl rfl (by kernel_rfl) (by kernel_rfl) (by kernel_rfl) (by kernel_rfl) (fun _ _ _ h => h) (by rfl) (fun W' hb => ?_) HS1 ?_
  · skip; go_simp
  simp only [List.setIfInBounds_toArray, List.set_cons_zero, List.set_cons_succ]
  refine RK.Any.take 19 56 (.bool false) rfl rfl (by kernel_rfl) (by kernel_rfl) (by kernel_rfl) (by kernel_rfl) (fun _ _ _ h => h) (by rfl) (fun W' hb => ?_) HS1 ?_
  · skip; go_simp
  simp only [List.setIfInBounds_toArray, List.set_cons_zero, List.set_cons_succ]
  refine RK.Any.take 20 57 (.slice (some ⟨G3, 0, none⟩) 1 1) rfl rfl (by kernel_rfl) (by kernel_rfl) (by kernel_rfl) (by kernel_rfl) (fun _ _ _ h => h) (by rfl) (fun W' hb => ?_) HS1 ?_
  · skip; go_simp
  simp only [List.setIfInBounds_toArray, List.set_cons_zero, List.set_cons_succ]
  have hr7 := row_at (W := w6) [5, 2] rfl rfl
  have hb7 := below_box w6 (.cells #[.int .u64 5, .int .u64 2] 22)
  obtain ⟨w7, hw7⟩ : ∃ w7, w6.alloc (.cells #[.int .u64 5, .int .u64 2] 22) = w7 := ⟨_, rfl⟩
  change Row (w6.alloc (.cells #[.int .u64 5, .int .u64 2] 22)) _ _ _ at hr7
  rw [hw7] at hr7 hb7
  have HS7 : Below w5.heap.size w5 w7 := HS1.trans (hb7.mono HS1.size)
  refine RK.Any.exec 21 58 (.slice (some ⟨w6.heap.size, 0, none⟩) 2 2) (w1 := w7) (by kernel_rfl) rfl rfl (by rfl) (by go_simp) HS7 ?_
  simp only [List.setIfInBounds_toArray, List.set_cons_zero, List.set_cons_succ]
  have hm8 := mat1 (W := w7) (v0 := .slice (some ⟨w6.heap.size, 0, none⟩) 2 2) (b := w7.heap.size) rfl (Sl.row hr7 rfl)
  have hb8 := below_box w7 (.cells #[.slice (some ⟨w6.heap.size, 0, none⟩) 2 2] 23)
  obtain ⟨w8, hw8⟩ : ∃ w8, w7.alloc (.cells #[.slice (some ⟨w6.heap.size, 0, none⟩) 2 2] 23) = w8 := ⟨_, rfl⟩
  rw [hw8] at hm8 hb8
  have HS8 : Below w5.heap.size w5 w8 := HS7.trans (hb8.mono HS7.size)
  refine RK.Any.exec 22 59 (.slice (some ⟨w7.heap.size, 0, none⟩) 1 1) (w1 := w8) (by kernel_rfl) rfl rfl (by rfl) (by go_simp) HS8 ?_
  simp only [List.setIfInBounds_toArray, List.set_cons_zero, List.set_cons_succ]
  refine RK.Any.call 23 60 9 #[.slice (some ⟨G3, 0, none⟩) 1 1, .slice (some ⟨w7.heap.size, 0, none⟩) 1 1] (by kernel_rfl) rfl rfl (by rfl) (by go_simp) (Calls.mono (polys_is (by decide) (HB5.out.below HS8) hm8) ?_)
  rintro e w9 ⟨rfl, hb⟩
  have HS9 : Below w5.heap.size w5 w9 := HS8.trans (hb.mono HS8.size)
  clear hb hr7 hb7 hw7 hm8 hb8 hw8 HS7 HS8
  refine ⟨_, rfl, fun _ => HS9, ?_⟩
  simp only [List.setIfInBounds_toArray, List.set_cons_zero, List.set_cons_succ]
  refine RK.Any.take 24 61 (.bool false) rfl rfl (by kernel_rfl) (by kernel_rfl) (by kernel_rfl) (by kernel_rfl) (fun _ _ _ h => h) (by rfl) (fun W' hb => ?_) HS9 ?_
  · skip; go_simp
  simp only [List.setIfInBounds_toArray, List.set_cons_zero, List.set_cons_succ]
  refine RK.Any.take 25 62 (.bool false) rfl rfl (by kernel_rfl) (by kernel_rfl) (by kernel_rfl) (by kernel_rfl) (fun _ _ _ h => h) (by rfl) (fun W' hb => ?_) HS9 ?_
  · skip; go_simp
  simp only [List.setIfInBounds_toArray, List.set_cons_zero, List.set_cons_succ]
  refine RK.Any.take 26 63 (.bool false) rfl rfl (by kernel_rfl) (by kernel_rfl) (by kernel_rfl) (by kernel_rfl) (fun _ _ _ h => h) (by rfl) (fun W' hb => ?_) HS9 ?_
  · skip; go_simp
  simp only [List.setIfInBounds_toArray, List.set_cons_zero, List.set_cons_succ]
  refine RK.Any.take 27 64 (.int .i64 0) rfl rfl (by kernel_rfl) (by kernel_rfl) (by kernel_rfl) (by kernel_rfl) (fun _ _ _ h => h) (by rfl) (fun W' hb => ?_) HS9 ?_
  · skip; go_simp
  simp only [List.setIfInBounds_toArray, List.set_cons_zero, List.set_cons_succ]
  refine RK.Any.take 28 65 (.bool false) rfl rfl (by kernel_rfl) (by kernel_rfl) (by kernel_rfl) (by kernel_rfl) (fun _ _ _ h => h) (by rfl) (fun W' hb => ?_) HS9 ?_
  · skip; go_simp
  simp only [List.setIfInBounds_toArray, List.set_cons_zero, List.set_cons_succ]
  refine RK.Any.take 29 66 (.bool false) rfl rfl (by kernel_rfl) (by kernel_rfl) (by kernel_rfl) (by kernel_rfl) (fun _ _ _ h => h) (by rfl) (fun W' hb => ?_) HS9 ?_
  · skip; go_simp
  simp only [List.setIfInBounds_toArray, List.set_cons_zero, List.set_cons_succ]
  refine RK.Any.take 30 67 (.bool false) rfl rfl (by kernel_rfl) (by kernel_rfl) (by kernel_rfl) (by kernel_rfl) (fun _ _ _ h => h) (by rfl) (fun W' hb => ?_) HS9 ?_
  · skip; go_simp
  simp only [List.setIfInBounds_toArray, List.set_cons_zero, List.set_cons_succ]
  refine RK.Any.take 31 68 (.slice (some ⟨G4, 0, none⟩) 2 2) rfl rfl (by kernel_rfl) (by kernel_rfl) (by kernel_rfl) (by kernel_rfl) (fun _ _ _ h => h) (by rfl) (fun W' hb => ?_) HS9 ?_
  · skip; go_simp
  simp only [List.setIfInBounds_toArray, List.set_cons_zero, List.set_cons_succ]
  refine RK.Any.race 32 33 69 70 (fun v1 v2 W => ∃ a b, v1 = .slice (some ⟨a, 0, none⟩) 2 2 ∧ v2 = .slice (some ⟨b, 0, none⟩) 2 2 ∧ Row W ⟨a, 0, none⟩ 2 (MM.nl [0, 6]) ∧ Row W ⟨b, 0, none⟩ 2 (MM.nl [0, 1]) ∧ Below w9.heap.size w9 W) (by kernel_rfl) (by kernel_rfl) (by kernel_rfl) rfl rfl rfl rfl (by rfl) (by rfl) (by decide) (by decide)
    ⟨.slice (some ⟨w9.heap.size, 0, none⟩) 2 2, .slice (some ⟨w9.heap.size + 1, 0, none⟩) 2 2, w9.alloc (.cells #[.int .u64 0, .int .u64 6] 22), (w9.alloc (.cells #[.int .u64 0, .int .u64 6] 22)).alloc (.cells #[.int .u64 0, .int .u64 1] 22), by go_simp, by go_simp, ⟨_, _, rfl, rfl, (row_at [0, 6] rfl rfl).alloc _, row_at [0, 1] (World.size_alloc _ _) rfl, (below_box _ _).trans ((below_box _ _).mono (below_box _ _).size)⟩, by rfl, HS9.trans ((below_box _ _).mono HS9.size)⟩
    ⟨.slice (some ⟨w9.heap.size + 1, 0, none⟩) 2 2, .slice (some ⟨w9.heap.size, 0, none⟩) 2 2, w9.alloc (.cells #[.int .u64 0, .int .u64 1] 22), (w9.alloc (.cells #[.int .u64 0, .int .u64 1] 22)).alloc (.cells #[.int .u64 0, .int .u64 6] 22), by go_simp, by go_simp, ⟨_, _, rfl, rfl, row_at [0, 6] (World.size_alloc _ _) rfl, (row_at [0, 1] rfl rfl).alloc _, (below_box _ _).trans ((below_box _ _).mono (below_box _ _).size)⟩, by rfl, HS9.trans ((below_box _ _).mono HS9.size)⟩
    (fun _ _ W h => by obtain ⟨_, _, _, _, _, _, h⟩ := h; exact HS9.trans (h.mono HS9.size)) ?_
  rintro v1 v2 w11 ⟨x1, x2, rfl, rfl, hr1, hr2, hb⟩
  have HS11 : Below w5.heap.size w5 w11 := HS9.trans (hb.mono HS9.size)
  simp only [List.setIfInBounds_toArray, List.set_cons_zero, List.set_cons_succ]
  have hm12 := mat2 (W := w11) (v0 := .slice (some ⟨x1, 0, none⟩) 2 2) (v1 := .slice (some ⟨x2, 0, none⟩) 2 2) (b := w11.heap.size) rfl (Sl.row hr1 rfl) (Sl.row hr2 rfl)
  have hb12 := below_box w11 (.cells #[.slice (some ⟨x1, 0, none⟩) 2 2, .slice (some ⟨x2, 0, none⟩) 2 2] 23)
  obtain ⟨w12, hw12⟩ : ∃ w12, w11.alloc (.cells #[.slice (some ⟨x1, 0, none⟩) 2 2, .slice (some ⟨x2, 0, none⟩) 2 2] 23) = w12 := ⟨_, rfl⟩
  rw [hw12] at hm12 hb12
  have HS12 : Below w5.heap.size w5 w12 := HS11.trans (hb12.mono HS11.size)
  refine RK.Any.exec 34 71 (.slice (some ⟨w11.heap.size, 0, none⟩) 2 2) (w1 := w12) (by kernel_rfl) rfl rfl (by rfl) (by go_simp) HS12 ?_
  simp only [List.setIfInBounds_toArray, List.set_cons_zero, List.set_cons_succ]
  refine RK.Any.call 35 72 9 #[.slice (some ⟨G4, 0, none⟩) 2 2, .slice (some ⟨w11.heap.size, 0, none⟩) 2 2] (by kernel_rfl) rfl rfl (by rfl) (by go_simp) (Calls.mono (polys_is (by decide) (HC5.out.below HS12) hm12) ?_)
  rintro e w13 ⟨rfl, hb3⟩
  have HS13 : Below w5.heap.size w5 w13 := HS12.trans (hb3.mono HS12.size)
  clear hb hb3 hr1 hr2 hm12 hb12 hw12 HS11 HS12
  refine ⟨_, rfl, fun _ => HS13, ?_⟩
  simp only [List.setIfInBounds_toArray, List.set_cons_zero, List.set_cons_succ]
  refine RK.Any.take 36 73 (.bool false) rfl rfl (by kernel_rfl) (by kernel_rfl) (by kernel_rfl) (by kernel_rfl) (fun _ _ _ h => h) (by rfl) (fun W' hb => ?_) HS13 ?_
  · skip; go_simp
  simp only [List.setIfInBounds_toArray, List.set_cons_zero, List.set_cons_succ]
  refine RK.Any.take 37 74 (.bool false) rfl rfl (by kernel_rfl) (by kernel_rfl) (by kernel_rfl) (by kernel_rfl) (fun _ _ _ h => h) (by rfl) (fun W' hb => ?_) HS13 ?_
  · skip; go_simp
  simp only [List.setIfInBounds_toArray, List.set_cons_zero, List.set_cons_succ]
  refine RK.Any.take 38 75 (.bool false) rfl rfl (by kernel_rfl) (by kernel_rfl) (by kernel_rfl) (by kernel_rfl) (fun _ _ _ h => h) (by rfl) (fun W' hb => ?_) HS13 ?_
  · skip; go_simp
  simp only [List.setIfInBounds_toArray, List.set_cons_zero, List.set_cons_succ]
  refine RK.Any.take 39 76 (.int .i64 0) rfl rfl (by kernel_rfl) (by kernel_rfl) (by kernel_rfl) (by kernel_rfl) (fun _ _ _ h => h) (by rfl) (fun W' hb => ?_) HS13 ?_
  · skip; go_simp
  simp only [List.setIfInBounds_toArray, List.set_cons_zero, List.set_cons_succ]
  refine RK.Any.take 40 77 (.bool false) rfl rfl (by kernel_rfl) (by kernel_rfl) (by kernel_rfl) (by kernel_rfl) (fun _ _ _ h => h) (by rfl) (fun W' hb => ?_) HS13 ?_
  · skip; go_simp
  simp only [List.setIfInBounds_toArray, List.set_cons_zero, List.set_cons_succ]
  refine RK.Any.take 41 78 (.bool false) rfl rfl (by kernel_rfl) (by kernel_rfl) (by kernel_rfl) (by kernel_rfl) (fun _ _ _ h => h) (by rfl) (fun W' hb => ?_) HS13 ?_
  · skip; go_simp
  simp only [List.setIfInBounds_toArray, List.set_cons_zero, List.set_cons_succ]
  refine RK.Any.take 42 79 (.bool false) rfl rfl (by kernel_rfl) (by kernel_rfl) (by kernel_rfl) (by kernel_rfl) (fun _ _ _ h => h) (by rfl) (fun W' hb => ?_) HS13 ?_
  · skip; go_simp
  simp only [List.setIfInBounds_toArray, List.set_cons_zero, List.set_cons_succ]
  refine RK.Any.take 43 80 (.slice (some ⟨G5, 0, none⟩) 2 2) rfl rfl (by kernel_rfl) (by kernel_rfl) (by kernel_rfl) (by kernel_rfl) (fun _ _ _ h => h) (by rfl) (fun W' hb => ?_) HS13 ?_
  · skip; go_simp
  simp only [List.setIfInBounds_toArray, List.set_cons_zero, List.set_cons_succ]
  refine RK.Any.take 44 81 (.int .i64 2) rfl rfl (by kernel_rfl) (by kernel_rfl) (by kernel_rfl) (by kernel_rfl) (fun _ _ _ h => h) (by rfl) (fun W' hb => ?_) HS13 ?_
  · skip; go_simp
  simp only [List.setIfInBounds_toArray, List.set_cons_zero, List.set_cons_succ]
  refine RK.Any.take 45 82 (.bool false) rfl rfl (by kernel_rfl) (by kernel_rfl) (by kernel_rfl) (by kernel_rfl) (fun _ _ _ h => h) (by rfl) (fun W' hb => ?_) HS13 ?_
  · skip; go_simp
  simp only [List.setIfInBounds_toArray, List.set_cons_zero, List.set_cons_succ]
  refine RK.Any.take 46 83 (.bool false) rfl rfl (by kernel_rfl) (by kernel_rfl) (by kernel_rfl) (by kernel_rfl) (fun _ _ _ h => h) (by rfl) (fun W' hb => ?_) HS13 ?_
  · skip; go_simp
  simp only [List.setIfInBounds_toArray, List.set_cons_zero, List.set_cons_succ]
  refine RK.Any.take 47 84 (.bool false) rfl rfl (by kernel_rfl) (by kernel_rfl) (by kernel_rfl) (by kernel_rfl) (fun _ _ _ h => h) (by rfl) (fun W' hb => ?_) HS13 ?_
  · skip; go_simp
  simp only [List.setIfInBounds_toArray, List.set_cons_zero, List.set_cons_succ]
  refine RK.Any.take 48 85 (.slice (some ⟨G5, 0, none⟩) 2 2) rfl rfl (by kernel_rfl) (by kernel_rfl) (by kernel_rfl) (by kernel_rfl) (fun _ _ _ h => h) (by rfl) (fun W' hb => ?_) HS13 ?_
  · skip; go_simp
  simp only [List.setIfInBounds_toArray, List.set_cons_zero, List.set_cons_succ]
  refine RK.Any.take 49 86 (.pointer (some ⟨G5, 0, none⟩)) rfl rfl (by kernel_rfl) (by kernel_rfl) (by kernel_rfl) (by kernel_rfl) (fun _ _ _ h => h) (by rfl) (fun W' hb => ?_) HS13 ?_
  · skip; go_simp
  simp only [List.setIfInBounds_toArray, List.set_cons_zero, List.set_cons_succ]
  refine RK.Any.take 50 87 (.slice d0 0 c0) rfl rfl (by kernel_rfl) (by kernel_rfl) (by kernel_rfl) (by kernel_rfl) (fun _ _ _ h => h) (by rfl) (fun W' hb => ?_) HS13 ?_
  · have c := (hb.cell (World.block_lt_of_cell? w5 _ hd2)).trans hd2; go_simp
  simp only [List.setIfInBounds_toArray, List.set_cons_zero, List.set_cons_succ]
  refine RK.Any.take 51 88 (.int .i64 0) rfl rfl (by kernel_rfl) (by kernel_rfl) (by kernel_rfl) (by kernel_rfl) (fun _ _ _ h => h) (by rfl) (fun W' hb => ?_) HS13 ?_
  · skip; go_simp
  simp only [List.setIfInBounds_toArray, List.set_cons_zero, List.set_cons_succ]
  refine RK.Any.take 52 89 (.slice (some ⟨G5, 0, none⟩) 2 2) rfl rfl (by kernel_rfl) (by kernel_rfl) (by kernel_rfl) (by kernel_rfl) (fun _ _ _ h => h) (by rfl) (fun W' hb => ?_) HS13 ?_
  · skip; go_simp
  simp only [List.setIfInBounds_toArray, List.set_cons_zero, List.set_cons_succ]
  refine RK.Any.take 53 90 (.pointer (some ⟨G5, 1, none⟩)) rfl rfl (by kernel_rfl) (by kernel_rfl) (by kernel_rfl) (by kernel_rfl) (fun _ _ _ h => h) (by rfl) (fun W' hb => ?_) HS13 ?_
  · skip; go_simp
  simp only [List.setIfInBounds_toArray, List.set_cons_zero, List.set_cons_succ]
  refine RK.Any.take 54 91 (.slice d1 0 c1) rfl rfl (by kernel_rfl) (by kernel_rfl) (by kernel_rfl) (by kernel_rfl) (fun _ _ _ h => h) (by rfl) (fun W' hb => ?_) HS13 ?_
  · have c := (hb.cell (World.block_lt_of_cell? w5 _ hd4)).trans hd4; go_simp
  simp only [List.setIfInBounds_toArray, List.set_cons_zero, List.set_cons_succ]
  refine RK.Any.take 55 92 (.int .i64 0) rfl rfl (by kernel_rfl) (by kernel_rfl) (by kernel_rfl) (by kernel_rfl) (fun _ _ _ h => h) (by rfl) (fun W' hb => ?_) HS13 ?_
  · skip; go_simp
  simp only [List.setIfInBounds_toArray, List.set_cons_zero, List.set_cons_succ]
  refine RK.Any.take 56 93 (.int .i64 0) rfl rfl (by kernel_rfl) (by kernel_rfl) (by kernel_rfl) (by kernel_rfl) (fun _ _ _ h => h) (by rfl) (fun W' hb => ?_) HS13 ?_
  · skip; go_simp; rfl
  simp only [List.setIfInBounds_toArray, List.set_cons_zero, List.set_cons_succ]
  refine RK.Any.take 57 94 (.bool false) rfl rfl (by kernel_rfl) (by kernel_rfl) (by kernel_rfl) (by kernel_rfl) (fun _ _ _ h => h) (by rfl) (fun W' hb => ?_) HS13 ?_
  · skip; go_simp
  simp only [List.setIfInBounds_toArray, List.set_cons_zero, List.set_cons_succ]
  refine RK.Any.take 58 95 (.bool false) rfl rfl (by kernel_rfl) (by kernel_rfl) (by kernel_rfl) (by kernel_rfl) (fun _ _ _ h => h) (by rfl) (fun W' hb => ?_) HS13 ?_
  · skip; go_simp
  simp only [List.setIfInBounds_toArray, List.set_cons_zero, List.set_cons_succ]
  refine RK.Any.done (by kernel_rfl) ?_
  have HF13 := Lib.hid (HF5.out.below HS13)
  have HS14 := Lib.hid (HS5.out.step HS13)
  clear HS0 HS1 HS9 HS13 hd2 hd4 HF5 HS5 HB5 HC5 HD5
  go_wp2_with fail
  refine (at_is [] 1 1 7 0 0 rfl rfl rfl rfl (by decide +kernel) (mat0 _ _)).mono ?_
  rintro e u1 ⟨rfl, hb⟩
  have HF14 := Lib.hid (HF13.out.below hb)
  have HS15 := Lib.hid (HS14.out.step hb)
  clear hb HF13 HS14
  go_wp2_with fail
  refine (row_is [] [] 1 7 0 0 rfl rfl (by decide) (by decide +kernel) (mat0 _ _)).mono ?_
  rintro e u2 ⟨B2, rfl, _, hb⟩
  have HF15 := Lib.hid (HF14.out.below hb)
  have HS16 := Lib.hid (HS15.out.step hb)
  clear hb HF14 HS15
  go_wp2_with fail
  refine (col_is [] [] 1 7 0 rfl rfl (by decide +kernel) (mat0 _ _)).mono ?_
  rintro e u3 ⟨B3, rfl, _, hb⟩
  have HF16 := Lib.hid (HF15.out.below hb)
  have HS17 := Lib.hid (HS16.out.step hb)
  clear hb HF15 HS16
  go_wp2_with fail
  refine (row_is [[1], [], [0, 2, 3]] [1, 1, 5] 2 7 3 3 rfl rfl (by decide) (by decide +kernel) HF16.out).mono ?_
  rintro e u4 ⟨B4, rfl, hr, hb⟩
  have HF17 := Lib.hid (HF16.out.below hb)
  have HS18 := Lib.hid (HS17.out.step hb)
  have HR := Lib.hid hr
  clear hb hr HF16 HS17
  go_wp2_with fail
  refine (nums_is (by decide) (row_rd' (HR.out.alloc _)) (row_rd' (row_at [1, 1, 5] rfl rfl))).mono ?_
  rintro e u5 ⟨rfl, hb⟩
  have HF18 := Lib.hid ((HF17.out.alloc _).below hb)
  have HS19 := Lib.hid ((HS18.out.alloc _).step hb)
  clear hb HF17 HS18 HR
  go_wp2_with fail
  refine (col_is [[1], [], [0, 2, 3]] [1, 0, 2] 2 7 3 rfl rfl (by decide +kernel) HF18.out).mono ?_
  rintro e u6 ⟨B6, rfl, hr, hb⟩
  have HF19 := Lib.hid (HF18.out.below hb)
  have HS20 := Lib.hid (HS19.out.step hb)
  have HR := Lib.hid hr
  clear hb hr HF18 HS19
  go_wp2_with fail
  refine (nums_is (by decide) (row_rd' (HR.out.alloc _)) (row_rd' (row_at [1, 0, 2] rfl rfl))).mono ?_
  rintro e u7 ⟨rfl, hb⟩
  have HF20 := Lib.hid ((HF19.out.alloc _).below hb)
  have HS21 := Lib.hid ((HS20.out.alloc _).step hb)
  clear hb HF19 HS20 HR
  go_wp2_with fail
  refine (at_is [[1], [], [0, 2, 3]] 2 2 7 3 2 rfl rfl rfl rfl (by decide +kernel) HF20.out).mono ?_
  rintro e u8 ⟨rfl, hb⟩
  have HF21 := Lib.hid (HF20.out.below hb)
  have HS22 := Lib.hid (HS21.out.step hb)
  clear hb HF20 HS21
  go_wp2_with fail
  refine (at_is [[1], [], [0, 2, 3]] 2 2 0 3 0 rfl rfl rfl rfl (by decide +kernel) HF21.out).mono ?_
  rintro e u9 ⟨rfl, hb⟩
  have HF22 := Lib.hid (HF21.out.below hb)
  have HS23 := Lib.hid (HS22.out.step hb)
  clear hb HF21 HS22
  go_wp2_with fail
  refine (row_is [[1], [], [0, 2, 3]] [0, 0, 0] 2 0 3 3 rfl rfl (by decide) (by decide +kernel) HF22.out).mono ?_
  rintro e u10 ⟨B10, rfl, hr, hb⟩
  have HF23 := Lib.hid (HF22.out.below hb)
  have HS24 := Lib.hid (HS23.out.step hb)
  have HR := Lib.hid hr
  clear hb hr HF22 HS23
  go_wp2_with fail
  refine (nums_is (by decide) (row_rd' (HR.out.alloc _)) (row_rd' (row_at [0, 0, 0] rfl rfl))).mono ?_
  rintro e u11 ⟨rfl, hb⟩
  have HF24 := Lib.hid ((HF23.out.alloc _).below hb)
  have HS25 := Lib.hid ((HS24.out.alloc _).step hb)
  clear hb HF23 HS24 HR
  go_wp2_with fail
  refine (at_is [[1], [], [0, 2, 3]] 0 0 7 3 1 rfl rfl rfl rfl (by decide +kernel) HF24.out).mono ?_
  rintro e u12 ⟨rfl, hb⟩
  have HF25 := Lib.hid (HF24.out.below hb)
  have HS26 := Lib.hid (HS25.out.step hb)
  clear hb HF24 HS25
  go_wp2_with fail
  refine (at_is [[1], [], [0, 2, 3]] 0 0 1 3 0 rfl rfl rfl rfl (by decide +kernel) HF25.out).mono ?_
  rintro e u13 ⟨rfl, hb⟩
  have HS27 := Lib.hid (HS26.out.step hb)
  clear hb HF25 HS26
  go_wp2_with fail
  go_ret
  exact ⟨rfl, HS27.out.below⟩
theorem walk (w : World) : Calls Try.prog 3 #[] w fun e w' => e = .returned (.bool true) ∧ Below w.heap.size w w' := names_any w

set_option maxRecDepth 100000 in
theorem lifted (os : Os) (started : os.Started) (H : Type) (enc : TypeId × Value → H) :
    ReturnsInHanded {} Try.checked os 3 .any (Rows.bivarNamesSpec.pre6 enc Try.prog Try.f3 Rows.bivarNamesRow.domain false) (Rows.bivarNamesSpec.post enc Try.prog Try.f3 false true false false) := by
  refine returnsInHanded_of_change (C := Try.checked) M.own started (by kernel_rfl) Try.func3
    (ChangeSpec.witness6 (enc := enc) (C := Try.checked) false ⟨#[], #[], []⟩ 8 (by kernel_rfl) (by kernel_rfl) (by kernel_rfl) (by kernel_rfl)) ?_
  intro W base args ds gs before hval0 hW _ _
  have hval : ∀ (j : Nat) t v, Try.f3.params[j]? = some t → args[j]? = some v → Value.okWide Try.prog W .any base t v := hval0
  have hW' := hW
  obtain ⟨p, q, hA0, hV, rfl, _, _⟩ := hW
  have hA : DataW.TrodAll enc Try.prog W 0 (fun _ => true) true Try.f3.params.toList args.toList ds p := hA0
  rw [Try.params3] at hA hval
  obtain ⟨rfl, rfl, rfl⟩ := trodAll_none hA
  obtain ⟨rfl, rfl⟩ := trodVars_none hV
  clear hA0 hval0
  simp only [List.append_nil] at hW'
  refine (walk  W ).mono fun e W' ⟨he, bel⟩ => ?_
  subst he
  exact ⟨_, rfl, _, _, _, [], _, [], hW', (trodAll_cons_mk (shut_bool Try.underlying4 _) trodAll_mk0), trodAll_mk0, rfl, bel.frame _, fun h => by cases h⟩

theorem holds : Rows.BivarNamesSaid :=
  OpenClaim.holds_of_wide 3 Try.f3 rfl rfl rfl rfl rfl rfl rfl ⟨rfl, rfl, rfl, rfl, rfl⟩ rfl rfl rfl rfl rfl (by kernel_rfl) Try.func3 (by kernel_rfl)
    (of_decide_eq_true (by kernel_rfl)) (by unfold Func.isWrapper; first | (rw [if_pos (by decide +kernel)]; kernel_rfl) | (rw [if_neg (by decide +kernel)]; exact ⟨rfl, rfl⟩))
    (fun os started H enc _ => lifted os started H enc)

end BivarNames

theorem bivarNames_holds : Rows.BivarNamesSaid := BivarNames.holds
#print axioms bivarNames_holds
end Go.Proofs.Ytccpdjjgpkkkbaa
