/- The walk of GroupSums over variables: given what each call answers, it returns true. -/
import Derived.Test.YtmeaiindbkkkiaaDoorInn
import Derived.Deep.Cut
import Derived.Deep.DeepCutAuto
import Derived.Deep.RegionHeld3
namespace Go.Proofs.YtmeaiindbkkkiaaDoor
open Go Go.RowKit Go.Lib
namespace GroupSums
open M
attribute [local go_sem] setCell_drewN alloc_drewN
set_option maxHeartbeats 4000000 in
set_option maxRecDepth 100000 in
theorem core (p : Pm) (xs xb ys yb k s1 s2 f1 f2 cx cy cs cf : Nat) (w : World) (hl : Laid w)
    (HK : RetBL 10 #[] (.bool true))
    (HM : RetBL 12 #[.agg p.cells] (.bool true))
    (A1 : Ret 19 #[.int .u64 (xs : Int), .int .u64 (ys : Int), .int .u64 (p.Q : Int)] (.int .u64 (s1 : Int)))
    (A2 : Ret 19 #[.int .u64 (xb : Int), .int .u64 (yb : Int), .int .u64 (p.Q : Int)] (.int .u64 (s2 : Int)))
    (M1 : Ret 20 #[.int .u64 (xs : Int), .int .u64 (k : Int), .int .u64 (p.Q : Int)] (.int .u64 (f1 : Int)))
    (M2 : Ret 20 #[.int .u64 (xb : Int), .int .u64 (k : Int), .int .u64 (p.Q : Int)] (.int .u64 (f2 : Int)))
    (C1 : RetB 16 #[.agg p.cells, .agg (pair xs xb)] (.int .u64 (cx : Int)))
    (C2 : RetB 16 #[.agg p.cells, .agg (pair ys yb)] (.int .u64 (cy : Int)))
    (C3 : RetB 16 #[.agg p.cells, .agg (pair s1 s2)] (.int .u64 (cs : Int)))
    (P1 : RetB 13 #[.agg p.cells, .int .u64 (cx : Int), .int .u64 (k : Int)] (.int .u64 (cf : Int)))
    (C4 : RetB 16 #[.agg p.cells, .agg (pair f1 f2)] (.int .u64 (cf : Int)))
    (HT : ∀ (W : World) (b : Nat), W.heap[b]? = some (.cells #[.int .u64 (cx : Int), .int .u64 (cy : Int)] 23 (0, 0)) → Calls Tryd.prog 15 #[.agg p.cells, .slice (some ⟨b, 0, none⟩) 2 2] W fun e w' => e = .returned (.int .u64 (cs : Int)) ∧ Below W.heap.size W w') :
   Calls Tryd.prog 7 #[.agg p.cells, .agg (pair xs xb), .agg (pair ys yb), .int .u64 (k : Int)] w fun e w' => e = .returned (.bool true) ∧ Below w.heap.size w w' := by
  have HI1 : Hid (Inn w [(w.heap.size, p.cells, 25)] (w.alloc (.cells p.cells 25))) := (Inn.mk (fun _ h => by cases h) hl (Below.refl _ _)).alloc _ |>.add _ _ _ (heap_alloc_new _ _)
  have HI2 : Hid (Inn w [(w.heap.size + 1, pair xs xb, 35), (w.heap.size, p.cells, 25)] ((w.alloc (.cells p.cells 25)).alloc (.cells (pair xs xb) 35))) := (HI1.out.alloc _).add _ _ _ (by have := heap_alloc_new (w.alloc (.cells p.cells 25)) (.cells (pair xs xb) 35); simpa using this)
  have HI3 : Hid (Inn w [(w.heap.size + 1 + 1, pair ys yb, 35), (w.heap.size + 1, pair xs xb, 35), (w.heap.size, p.cells, 25)] (((w.alloc (.cells p.cells 25)).alloc (.cells (pair xs xb) 35)).alloc (.cells (pair ys yb) 35))) := (HI2.out.alloc _).add _ _ _ (by have := heap_alloc_new ((w.alloc (.cells p.cells 25)).alloc (.cells (pair xs xb) 35)) (.cells (pair ys yb) 35); simpa using this)
  clear HI1 HI2 hl
  go_enter Tryd.func7, Tryd.ntmps7
  go_upto_region 1 with fail
  generalize hg2 : w.heap.size + 1 + 1 = g2 at HI3 ⊢
  generalize hg1 : w.heap.size + 1 = g1 at *
  generalize hg0 : w.heap.size = g0 at HI3
  generalize ((w.alloc (.cells p.cells 25)).alloc (.cells (pair xs xb) 35)).alloc (.cells (pair ys yb) 35) = w1 at *
  have HI := HI3
  clear HI3 hg2 hg1
  go_upto_region 3 with (first | (go_at_call 10; (first | (with_reducible refine (HK.at _ HI.out.laid).mono ?_)); rintro e w1 ⟨rfl, hb⟩; replace HI := Lib.hid (HI.out.step hb); clear hb) | (go_at_call 12; (first | (with_reducible refine (HM.at _ HI.out.laid).mono ?_)); rintro e w1 ⟨rfl, hb⟩; replace HI := Lib.hid (HI.out.step hb); clear hb) | (refine wpList_row_if (by first | rfl | simp [Region.wanted, yielded]) 25 _ rfl g0 rfl 25 p.cells (0, 0) _ (HI.out.rows (g0, p.cells, 25) (by simp)) Tryd.underlying25 rfl (by kernel_rfl) ?_))
  have HJ := HI.out
  clear HI hg0
  have kS1 : ∀ {w' : World}, Inn w [(g2, pair ys yb, 35), (g1, pair xs xb, 35), (g0, p.cells, 25)] w' → Inn w [(g2, pair ys yb, 35), (g1, pair xs xb, 35), (g0, p.cells, 25)] w' ∧ w'.cell? ⟨g2, 0, none⟩ = some (.int .u64 (ys : Int)) ∧ w'.cell? ⟨g2, 1, none⟩ = some (.int .u64 (yb : Int)) ∧ w'.cell? ⟨g1, 0, none⟩ = some (.int .u64 (xs : Int)) ∧ w'.cell? ⟨g1, 1, none⟩ = some (.int .u64 (xb : Int)) ∧ w'.cell? ⟨g0, 1, none⟩ = some (.int .u64 (p.Q : Int)) := fun h => ⟨h, h.cell (b := g2) (cs := pair ys yb) (t := 35) (by simp) 0, h.cell (b := g2) (cs := pair ys yb) (t := 35) (by simp) 1, h.cell (b := g1) (cs := pair xs xb) (t := 35) (by simp) 0, h.cell (b := g1) (cs := pair xs xb) (t := 35) (by simp) 1, h.cell (b := g0) (cs := p.cells) (t := 25) (by simp) 1⟩
  go_cut [9] (fun s9 wx => ∃ gs : Nat, s9 = .pointer (some ⟨gs, 0, none⟩) ∧ Inn w [(gs, pair s1 s2, 35), (g2, pair ys yb, 35), (g1, pair xs xb, 35), (g0, p.cells, 25)] wx)
  case first =>
    obtain ⟨_, y0, y1, y2, y3, y4⟩ := kS1 HJ
    go_region_held3 (fun w' => Inn w [(g2, pair ys yb, 35), (g1, pair xs xb, 35), (g0, p.cells, 25)] w' ∧ w'.cell? ⟨g2, 0, none⟩ = some (.int .u64 (ys : Int)) ∧ w'.cell? ⟨g2, 1, none⟩ = some (.int .u64 (yb : Int)) ∧ w'.cell? ⟨g1, 0, none⟩ = some (.int .u64 (xs : Int)) ∧ w'.cell? ⟨g1, 1, none⟩ = some (.int .u64 (xb : Int)) ∧ w'.cell? ⟨g0, 1, none⟩ = some (.int .u64 (p.Q : Int))) (exact kS1 (by repeat (first | assumption | refine Inn.drew ?_ | refine Inn.drewN ?_ _ | refine Inn.alloc ?_ _)))
      (first | (go_at_call 19; (first | (with_reducible refine (A1.at _).mono ?_) | (with_reducible refine (A2.at _).mono ?_)); rintro e w1 ⟨rfl, n, rfl⟩))
    all_goals (go_wp2_with fail; go_meet)
    all_goals exact ⟨_, rfl, ((Inn.alloc HJ _).add _ _ _ (heap_alloc_new _ _)).drewN _⟩
  case rest =>
    obtain ⟨gs, rfl, HJ2⟩ := hcut
    clear kS1 HJ
    have kS2 : ∀ {w' : World}, Inn w [(gs, pair s1 s2, 35), (g2, pair ys yb, 35), (g1, pair xs xb, 35), (g0, p.cells, 25)] w' → Inn w [(gs, pair s1 s2, 35), (g2, pair ys yb, 35), (g1, pair xs xb, 35), (g0, p.cells, 25)] w' ∧ w'.cell? ⟨gs, 0, none⟩ = some (.int .u64 (s1 : Int)) ∧ w'.cell? ⟨gs, 1, none⟩ = some (.int .u64 (s2 : Int)) ∧ w'.cell? ⟨g2, 0, none⟩ = some (.int .u64 (ys : Int)) ∧ w'.cell? ⟨g2, 1, none⟩ = some (.int .u64 (yb : Int)) ∧ w'.cell? ⟨g1, 0, none⟩ = some (.int .u64 (xs : Int)) ∧ w'.cell? ⟨g1, 1, none⟩ = some (.int .u64 (xb : Int)) ∧ w'.cell? ⟨g0, 1, none⟩ = some (.int .u64 (p.Q : Int)) := fun h => ⟨h, h.cell (b := gs) (cs := pair s1 s2) (t := 35) (by simp) 0, h.cell (b := gs) (cs := pair s1 s2) (t := 35) (by simp) 1, h.cell (b := g2) (cs := pair ys yb) (t := 35) (by simp) 0, h.cell (b := g2) (cs := pair ys yb) (t := 35) (by simp) 1, h.cell (b := g1) (cs := pair xs xb) (t := 35) (by simp) 0, h.cell (b := g1) (cs := pair xs xb) (t := 35) (by simp) 1, h.cell (b := g0) (cs := p.cells) (t := 25) (by simp) 1⟩
    go_upto_region 4 with fail
    go_cut [10] (fun s10 wx => ∃ gf : Nat, s10 = .pointer (some ⟨gf, 0, none⟩) ∧ Inn w [(gf, pair f1 f2, 35), (gs, pair s1 s2, 35), (g2, pair ys yb, 35), (g1, pair xs xb, 35), (g0, p.cells, 25)] wx)
    case first =>
      obtain ⟨_, y0, y1, y2, y3, y4, y5, y6⟩ := kS2 HJ2
      go_region_held3 (fun w' => Inn w [(gs, pair s1 s2, 35), (g2, pair ys yb, 35), (g1, pair xs xb, 35), (g0, p.cells, 25)] w' ∧ w'.cell? ⟨gs, 0, none⟩ = some (.int .u64 (s1 : Int)) ∧ w'.cell? ⟨gs, 1, none⟩ = some (.int .u64 (s2 : Int)) ∧ w'.cell? ⟨g2, 0, none⟩ = some (.int .u64 (ys : Int)) ∧ w'.cell? ⟨g2, 1, none⟩ = some (.int .u64 (yb : Int)) ∧ w'.cell? ⟨g1, 0, none⟩ = some (.int .u64 (xs : Int)) ∧ w'.cell? ⟨g1, 1, none⟩ = some (.int .u64 (xb : Int)) ∧ w'.cell? ⟨g0, 1, none⟩ = some (.int .u64 (p.Q : Int))) (exact kS2 (by repeat (first | assumption | refine Inn.drew ?_ | refine Inn.drewN ?_ _ | refine Inn.alloc ?_ _)))
        (first | (go_at_call 20; (first | (with_reducible refine (M1.at _).mono ?_) | (with_reducible refine (M2.at _).mono ?_)); rintro e w1 ⟨rfl, n, rfl⟩))
      all_goals (go_wp2_with fail; go_meet)
      all_goals exact ⟨_, rfl, ((Inn.alloc HJ2 _).add _ _ _ (heap_alloc_new _ _)).drewN _⟩
    case rest =>
      obtain ⟨gf, rfl, HJ3⟩ := hcut
      clear kS2 HJ2
      have kS3 : ∀ {w' : World}, Inn w [(gf, pair f1 f2, 35), (gs, pair s1 s2, 35), (g2, pair ys yb, 35), (g1, pair xs xb, 35), (g0, p.cells, 25)] w' → Inn w [(gf, pair f1 f2, 35), (gs, pair s1 s2, 35), (g2, pair ys yb, 35), (g1, pair xs xb, 35), (g0, p.cells, 25)] w' ∧ w'.cell? ⟨gf, 0, none⟩ = some (.int .u64 (f1 : Int)) ∧ w'.cell? ⟨gf, 1, none⟩ = some (.int .u64 (f2 : Int)) ∧ w'.cell? ⟨gs, 0, none⟩ = some (.int .u64 (s1 : Int)) ∧ w'.cell? ⟨gs, 1, none⟩ = some (.int .u64 (s2 : Int)) ∧ w'.cell? ⟨g2, 0, none⟩ = some (.int .u64 (ys : Int)) ∧ w'.cell? ⟨g2, 1, none⟩ = some (.int .u64 (yb : Int)) ∧ w'.cell? ⟨g1, 0, none⟩ = some (.int .u64 (xs : Int)) ∧ w'.cell? ⟨g1, 1, none⟩ = some (.int .u64 (xb : Int)) ∧ w'.cell? ⟨g0, 0, none⟩ = some (.int .u64 (p.P : Int)) ∧ w'.cell? ⟨g0, 1, none⟩ = some (.int .u64 (p.Q : Int)) ∧ w'.cell? ⟨g0, 2, none⟩ = some (.int .u64 (p.G : Int)) ∧ w'.cell? ⟨g0, 3, none⟩ = some (.int .u64 (p.H : Int)) ∧ w'.cell? ⟨g0, 4, none⟩ = some (.int .i64 p.Nodes) ∧ w'.cell? ⟨g0, 5, none⟩ = some (.int .i64 p.N) ∧ w'.cell? ⟨g0, 6, none⟩ = some (.int .i64 p.T) ∧ w'.cell? ⟨g0, 7, none⟩ = some (.int .i64 p.K) ∧ w'.cell? ⟨g0, 8, none⟩ = some (.int .i64 p.D) ∧ w'.cell? ⟨g0, 9, none⟩ = some (.int .i64 p.R) ∧ w'.cell? ⟨g0, 10, none⟩ = some (.int .i64 p.M) ∧ w'.cell? ⟨g0, 11, none⟩ = some (.int .i64 p.X) := fun h => ⟨h, h.cell (b := gf) (cs := pair f1 f2) (t := 35) (by simp) 0, h.cell (b := gf) (cs := pair f1 f2) (t := 35) (by simp) 1, h.cell (b := gs) (cs := pair s1 s2) (t := 35) (by simp) 0, h.cell (b := gs) (cs := pair s1 s2) (t := 35) (by simp) 1, h.cell (b := g2) (cs := pair ys yb) (t := 35) (by simp) 0, h.cell (b := g2) (cs := pair ys yb) (t := 35) (by simp) 1, h.cell (b := g1) (cs := pair xs xb) (t := 35) (by simp) 0, h.cell (b := g1) (cs := pair xs xb) (t := 35) (by simp) 1, h.cell (b := g0) (cs := p.cells) (t := 25) (by simp) 0, h.cell (b := g0) (cs := p.cells) (t := 25) (by simp) 1, h.cell (b := g0) (cs := p.cells) (t := 25) (by simp) 2, h.cell (b := g0) (cs := p.cells) (t := 25) (by simp) 3, h.cell (b := g0) (cs := p.cells) (t := 25) (by simp) 4, h.cell (b := g0) (cs := p.cells) (t := 25) (by simp) 5, h.cell (b := g0) (cs := p.cells) (t := 25) (by simp) 6, h.cell (b := g0) (cs := p.cells) (t := 25) (by simp) 7, h.cell (b := g0) (cs := p.cells) (t := 25) (by simp) 8, h.cell (b := g0) (cs := p.cells) (t := 25) (by simp) 9, h.cell (b := g0) (cs := p.cells) (t := 25) (by simp) 10, h.cell (b := g0) (cs := p.cells) (t := 25) (by simp) 11⟩
      obtain ⟨_, y0, y1, y2, y3, y4, y5, y6, y7, y8, y9, y10, y11, y12, y13, y14, y15, y16, y17, y18, y19⟩ := kS3 HJ3
      go_upto_region 5 with fail
      have HJ := HJ3
      clear HJ3
      go_region_held3 (fun w' => Inn w [(gf, pair f1 f2, 35), (gs, pair s1 s2, 35), (g2, pair ys yb, 35), (g1, pair xs xb, 35), (g0, p.cells, 25)] w' ∧ w'.cell? ⟨gf, 0, none⟩ = some (.int .u64 (f1 : Int)) ∧ w'.cell? ⟨gf, 1, none⟩ = some (.int .u64 (f2 : Int)) ∧ w'.cell? ⟨gs, 0, none⟩ = some (.int .u64 (s1 : Int)) ∧ w'.cell? ⟨gs, 1, none⟩ = some (.int .u64 (s2 : Int)) ∧ w'.cell? ⟨g2, 0, none⟩ = some (.int .u64 (ys : Int)) ∧ w'.cell? ⟨g2, 1, none⟩ = some (.int .u64 (yb : Int)) ∧ w'.cell? ⟨g1, 0, none⟩ = some (.int .u64 (xs : Int)) ∧ w'.cell? ⟨g1, 1, none⟩ = some (.int .u64 (xb : Int)) ∧ w'.cell? ⟨g0, 0, none⟩ = some (.int .u64 (p.P : Int)) ∧ w'.cell? ⟨g0, 1, none⟩ = some (.int .u64 (p.Q : Int)) ∧ w'.cell? ⟨g0, 2, none⟩ = some (.int .u64 (p.G : Int)) ∧ w'.cell? ⟨g0, 3, none⟩ = some (.int .u64 (p.H : Int)) ∧ w'.cell? ⟨g0, 4, none⟩ = some (.int .i64 p.Nodes) ∧ w'.cell? ⟨g0, 5, none⟩ = some (.int .i64 p.N) ∧ w'.cell? ⟨g0, 6, none⟩ = some (.int .i64 p.T) ∧ w'.cell? ⟨g0, 7, none⟩ = some (.int .i64 p.K) ∧ w'.cell? ⟨g0, 8, none⟩ = some (.int .i64 p.D) ∧ w'.cell? ⟨g0, 9, none⟩ = some (.int .i64 p.R) ∧ w'.cell? ⟨g0, 10, none⟩ = some (.int .i64 p.M) ∧ w'.cell? ⟨g0, 11, none⟩ = some (.int .i64 p.X)) (first | exact kS3 HJ | exact kS3 (Inn.drew HJ) | exact kS3 (Inn.alloc HJ _) | exact kS3 (Inn.alloc (Inn.drew HJ) _) | exact kS3 (Inn.drew (Inn.alloc HJ _)))
        (first | (go_at_call 16; (first | (with_reducible refine (C1.at _).mono ?_) | (with_reducible refine (C2.at _).mono ?_) | (with_reducible refine (C3.at _).mono ?_) | (with_reducible refine (C4.at _).mono ?_)); rintro e w1 ⟨rfl, hb⟩; (first | (have HJ := Inn.step HJ hb) | (have HJ := Inn.step (Inn.drew HJ) hb) | (have HJ := Inn.step (Inn.alloc HJ _) hb) | (have HJ := Inn.step (Inn.alloc (Inn.drew HJ) _) hb)); clear hb) | (go_at_call 13; (first | (with_reducible refine (P1.at _).mono ?_)); rintro e w1 ⟨rfl, hb⟩; (first | (have HJ := Inn.step HJ hb) | (have HJ := Inn.step (Inn.drew HJ) hb) | (have HJ := Inn.step (Inn.alloc HJ _) hb) | (have HJ := Inn.step (Inn.alloc (Inn.drew HJ) _) hb)); clear hb) | (go_at_call 15; (refine (HT _ _ (heap_alloc_new _ _)).mono ?_); rintro e w1 ⟨rfl, hb⟩; (first | (have HJ := Inn.step HJ hb) | (have HJ := Inn.step (Inn.drew HJ) hb) | (have HJ := Inn.step (Inn.alloc HJ _) hb) | (have HJ := Inn.step (Inn.alloc (Inn.drew HJ) _) hb)); clear hb))
      go_wp2_with fail
      go_ret
      exact ⟨rfl, HJ.below⟩

set_option maxHeartbeats 1000000 in
theorem core_no (p : Pm) (xs xb ys yb k : Nat) (w : World) (hl : Laid w)
    (HK : RetBL 10 #[] (.bool true))
    (HM : RetBL 12 #[.agg p.cells] (.bool false)) :
   Calls Tryd.prog 7 #[.agg p.cells, .agg (pair xs xb), .agg (pair ys yb), .int .u64 (k : Int)] w fun e w' => e = .returned (.bool true) ∧ Below w.heap.size w w' := by
  have HI1 : Hid (Inn w [(w.heap.size, p.cells, 25)] (w.alloc (.cells p.cells 25))) := (Inn.mk (fun _ h => by cases h) hl (Below.refl _ _)).alloc _ |>.add _ _ _ (heap_alloc_new _ _)
  have HI2 : Hid (Inn w [(w.heap.size + 1, pair xs xb, 35), (w.heap.size, p.cells, 25)] ((w.alloc (.cells p.cells 25)).alloc (.cells (pair xs xb) 35))) := (HI1.out.alloc _).add _ _ _ (by have := heap_alloc_new (w.alloc (.cells p.cells 25)) (.cells (pair xs xb) 35); simpa using this)
  have HI3 : Hid (Inn w [(w.heap.size + 1 + 1, pair ys yb, 35), (w.heap.size + 1, pair xs xb, 35), (w.heap.size, p.cells, 25)] (((w.alloc (.cells p.cells 25)).alloc (.cells (pair xs xb) 35)).alloc (.cells (pair ys yb) 35))) := (HI2.out.alloc _).add _ _ _ (by have := heap_alloc_new ((w.alloc (.cells p.cells 25)).alloc (.cells (pair xs xb) 35)) (.cells (pair ys yb) 35); simpa using this)
  clear HI1 HI2 hl
  go_enter Tryd.func7, Tryd.ntmps7
  go_upto_region 1 with fail
  generalize hg2 : w.heap.size + 1 + 1 = g2 at HI3 ⊢
  generalize hg1 : w.heap.size + 1 = g1 at *
  generalize hg0 : w.heap.size = g0 at HI3
  generalize ((w.alloc (.cells p.cells 25)).alloc (.cells (pair xs xb) 35)).alloc (.cells (pair ys yb) 35) = w1 at *
  have HI := HI3
  clear HI3 hg2 hg1
  go_wp2_with (first | (go_at_call 10; (first | (with_reducible refine (HK.at _ HI.out.laid).mono ?_)); rintro e w1 ⟨rfl, hb⟩; replace HI := Lib.hid (HI.out.step hb); clear hb) | (go_at_call 12; (first | (with_reducible refine (HM.at _ HI.out.laid).mono ?_)); rintro e w1 ⟨rfl, hb⟩; replace HI := Lib.hid (HI.out.step hb); clear hb) | (refine wpList_row_if (by first | rfl | simp [Region.wanted, yielded]) 25 _ rfl g0 rfl 25 p.cells (0, 0) _ (HI.out.rows (g0, p.cells, 25) (by simp)) Tryd.underlying25 rfl (by kernel_rfl) ?_))
  go_ret
  exact ⟨rfl, HI.out.below⟩
end GroupSums
end Go.Proofs.YtmeaiindbkkkiaaDoor
