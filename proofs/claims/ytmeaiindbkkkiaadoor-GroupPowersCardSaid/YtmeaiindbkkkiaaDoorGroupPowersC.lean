import Derived.Test.YtmeaiindbkkkiaaDoorPm
import Derived.Deep.Cut
import Derived.Deep.RegionHeld3
import Derived.ProofKit
namespace Go.Proofs.YtmeaiindbkkkiaaDoor
open Go Go.RowKit Go.Lib
namespace GroupPowers
open M
set_option maxHeartbeats 4000000 in
set_option maxRecDepth 100000 in
theorem core (p : Pm) (a e f x y1 y2 z s e1 u v : Nat) (w : World) (hl : Laid w)
    (HK : RetBL 10 #[] (.bool true))
    (HM : RetBL 12 #[.agg p.cells] (.bool true))
    (HX : RetB 13 #[.agg p.cells, .int .u64 (p.G : Int), .int .u64 (a : Int)] (.int .u64 (x : Int)))
    (H1 : RetB 13 #[.agg p.cells, .int .u64 (x : Int), .int .u64 (e : Int)] (.int .u64 (y1 : Int)))
    (H2 : RetB 13 #[.agg p.cells, .int .u64 (x : Int), .int .u64 (f : Int)] (.int .u64 (y2 : Int)))
    (H4 : RetB 19 #[.int .u64 (e : Int), .int .u64 (f : Int), .int .u64 (p.Q : Int)] (.int .u64 (s : Int)))
    (H5 : RetB 13 #[.agg p.cells, .int .u64 (x : Int), .int .u64 (s : Int)] (.int .u64 (z : Int)))
    (H6 : RetB 13 #[.agg p.cells, .int .u64 (x : Int), .int .u64 (e1 : Int)] (.int .u64 (y1 : Int)))
    (H7 : RetB 13 #[.agg p.cells, .int .u64 (y1 : Int), .int .u64 (f : Int)] (.int .u64 (u : Int)))
    (H8 : RetB 20 #[.int .u64 (e : Int), .int .u64 (f : Int), .int .u64 (p.Q : Int)] (.int .u64 (v : Int)))
    (H9 : RetB 13 #[.agg p.cells, .int .u64 (x : Int), .int .u64 (v : Int)] (.int .u64 (u : Int)))
    (H3 : ∀ (W : World) (b : Nat), W.heap[b]? = some (.cells #[.int .u64 (y1 : Int), .int .u64 (y2 : Int)] 23 (0, 0)) → Calls Tryd.prog 15 #[.agg p.cells, .slice (some ⟨b, 0, none⟩) 2 2] W fun e w' => e = .returned (.int .u64 (z : Int)) ∧ Below W.heap.size W w')
    (hQ0 : p.Q ≠ 0) (he2 : Int.tmod (e : Int) (p.Q : Int) = (e1 : Int)) :
   Calls Tryd.prog 6 #[.agg p.cells, .int .u64 (a : Int), .int .u64 (e : Int), .int .u64 (f : Int)] w fun e w' => e = .returned (.bool true) ∧ Below w.heap.size w w' := by
  have HI0 : Hid (In w w.heap.size p (w.alloc (.cells p.cells 25))) := In.new w p hl
  generalize hg : w.heap.size = g at HI0
  have HE := Lib.hid hg
  clear hl
  go_enter Tryd.func6, Tryd.ntmps6
  go_upto_region 1 with fail
  generalize w.alloc (.cells p.cells 25) = w1 at *
  have HI := HI0
  clear HI0 hg
  have q2 := HI.out.kept.2.2.1
  go_upto_region 4 with (first | (go_at_call 10; (first | (with_reducible refine (HK.at _ HI.out.laid).mono ?_)); rintro e w1 ⟨rfl, hb⟩; replace HI := Lib.hid (HI.out.step hb); replace q2 := HI.out.kept.2.2.1; clear hb) | (go_at_call 12; (first | (with_reducible refine (HM.at _ HI.out.laid).mono ?_)); rintro e w1 ⟨rfl, hb⟩; replace HI := Lib.hid (HI.out.step hb); replace q2 := HI.out.kept.2.2.1; clear hb) | (go_at_call 13; (first | (with_reducible refine (HX.at _).mono ?_)); rintro e w1 ⟨rfl, hb⟩; replace HI := Lib.hid (HI.out.step hb); replace q2 := HI.out.kept.2.2.1; clear hb) | (refine wpList_row_if (by first | rfl | simp [Region.wanted, yielded]) 25 _ rfl g rfl 25 p.cells (0, 0) _ HI.out.box Tryd.underlying25 rfl (by kernel_rfl) ?_))
  have HJ : In w g p w1 := HI.out
  clear HI q2
  obtain ⟨q0, q1, q2, q3, q4, q5, q6, q7, q8, q9, q10, q11⟩ := HJ.kept
  go_region_held3 (fun w' => In w g p w' ∧ w'.cell? ⟨g, 0, none⟩ = some (.int .u64 (p.P : Int)) ∧ w'.cell? ⟨g, 1, none⟩ = some (.int .u64 (p.Q : Int)) ∧ w'.cell? ⟨g, 2, none⟩ = some (.int .u64 (p.G : Int)) ∧ w'.cell? ⟨g, 3, none⟩ = some (.int .u64 (p.H : Int)) ∧ w'.cell? ⟨g, 4, none⟩ = some (.int .i64 p.Nodes) ∧ w'.cell? ⟨g, 5, none⟩ = some (.int .i64 p.N) ∧ w'.cell? ⟨g, 6, none⟩ = some (.int .i64 p.T) ∧ w'.cell? ⟨g, 7, none⟩ = some (.int .i64 p.K) ∧ w'.cell? ⟨g, 8, none⟩ = some (.int .i64 p.D) ∧ w'.cell? ⟨g, 9, none⟩ = some (.int .i64 p.R) ∧ w'.cell? ⟨g, 10, none⟩ = some (.int .i64 p.M) ∧ w'.cell? ⟨g, 11, none⟩ = some (.int .i64 p.X)) (first | exact In.kS (by assumption) | exact In.kS (In.drew (by assumption)) | exact In.kS (In.alloc (by assumption) _) | exact In.kS (In.drew (In.alloc (by assumption) _)) | exact In.kS (In.alloc (In.drew (by assumption)) _))
    (first | (go_at_call 13; (first | (with_reducible refine (HX.at _).mono ?_) | (with_reducible refine (H1.at _).mono ?_) | (with_reducible refine (H2.at _).mono ?_) | (with_reducible refine (H5.at _).mono ?_) | (with_reducible refine (H6.at _).mono ?_) | (with_reducible refine (H7.at _).mono ?_) | (with_reducible refine (H9.at _).mono ?_)); rintro e w1 ⟨rfl, hb⟩; have HJ := In.step (by first | assumption | exact In.drew (by assumption) | exact In.alloc (by assumption) _ | exact In.alloc (In.drew (by assumption)) _) hb; clear hb) | (go_at_call 19; (first | (with_reducible refine (H4.at _).mono ?_)); rintro e w1 ⟨rfl, hb⟩; have HJ := In.step (by first | assumption | exact In.drew (by assumption) | exact In.alloc (by assumption) _ | exact In.alloc (In.drew (by assumption)) _) hb; clear hb) | (go_at_call 20; (first | (with_reducible refine (H8.at _).mono ?_)); rintro e w1 ⟨rfl, hb⟩; have HJ := In.step (by first | assumption | exact In.drew (by assumption) | exact In.alloc (by assumption) _ | exact In.alloc (In.drew (by assumption)) _) hb; clear hb) | (go_at_call 15; (refine (H3 _ _ (heap_alloc_new _ _)).mono ?_); rintro e w1 ⟨rfl, hb⟩; have HJ := In.step (by first | assumption | exact In.drew (by assumption) | exact In.alloc (by assumption) _ | exact In.alloc (In.drew (by assumption)) _) hb; clear hb))
  go_upto_region 6 with fail
  go_region_held3 (fun w' => In w g p w' ∧ w'.cell? ⟨g, 0, none⟩ = some (.int .u64 (p.P : Int)) ∧ w'.cell? ⟨g, 1, none⟩ = some (.int .u64 (p.Q : Int)) ∧ w'.cell? ⟨g, 2, none⟩ = some (.int .u64 (p.G : Int)) ∧ w'.cell? ⟨g, 3, none⟩ = some (.int .u64 (p.H : Int)) ∧ w'.cell? ⟨g, 4, none⟩ = some (.int .i64 p.Nodes) ∧ w'.cell? ⟨g, 5, none⟩ = some (.int .i64 p.N) ∧ w'.cell? ⟨g, 6, none⟩ = some (.int .i64 p.T) ∧ w'.cell? ⟨g, 7, none⟩ = some (.int .i64 p.K) ∧ w'.cell? ⟨g, 8, none⟩ = some (.int .i64 p.D) ∧ w'.cell? ⟨g, 9, none⟩ = some (.int .i64 p.R) ∧ w'.cell? ⟨g, 10, none⟩ = some (.int .i64 p.M) ∧ w'.cell? ⟨g, 11, none⟩ = some (.int .i64 p.X)) (first | exact In.kS (by assumption) | exact In.kS (In.drew (by assumption)) | exact In.kS (In.alloc (by assumption) _) | exact In.kS (In.drew (In.alloc (by assumption) _)) | exact In.kS (In.alloc (In.drew (by assumption)) _))
    (first | (go_at_call 13; (first | (with_reducible refine (HX.at _).mono ?_) | (with_reducible refine (H1.at _).mono ?_) | (with_reducible refine (H2.at _).mono ?_) | (with_reducible refine (H5.at _).mono ?_) | (with_reducible refine (H6.at _).mono ?_) | (with_reducible refine (H7.at _).mono ?_) | (with_reducible refine (H9.at _).mono ?_)); rintro e w1 ⟨rfl, hb⟩; have HJ := In.step (by first | assumption | exact In.drew (by assumption) | exact In.alloc (by assumption) _ | exact In.alloc (In.drew (by assumption)) _) hb; clear hb) | (go_at_call 19; (first | (with_reducible refine (H4.at _).mono ?_)); rintro e w1 ⟨rfl, hb⟩; have HJ := In.step (by first | assumption | exact In.drew (by assumption) | exact In.alloc (by assumption) _ | exact In.alloc (In.drew (by assumption)) _) hb; clear hb) | (go_at_call 20; (first | (with_reducible refine (H8.at _).mono ?_)); rintro e w1 ⟨rfl, hb⟩; have HJ := In.step (by first | assumption | exact In.drew (by assumption) | exact In.alloc (by assumption) _ | exact In.alloc (In.drew (by assumption)) _) hb; clear hb) | (go_at_call 15; (refine (H3 _ _ (heap_alloc_new _ _)).mono ?_); rintro e w1 ⟨rfl, hb⟩; have HJ := In.step (by first | assumption | exact In.drew (by assumption) | exact In.alloc (by assumption) _ | exact In.alloc (In.drew (by assumption)) _) hb; clear hb))
  go_wp2_with fail
  go_ret
  exact ⟨rfl, by rw [← HE.out]; exact In.below (g := g) (p := p) (by first | assumption | exact In.drew (by assumption))⟩

set_option maxHeartbeats 1000000 in
theorem core_no (p : Pm) (a e f : Nat) (w : World) (hl : Laid w)
    (HK : RetBL 10 #[] (.bool true))
    (HM : RetBL 12 #[.agg p.cells] (.bool false)) :
   Calls Tryd.prog 6 #[.agg p.cells, .int .u64 (a : Int), .int .u64 (e : Int), .int .u64 (f : Int)] w fun e w' => e = .returned (.bool true) ∧ Below w.heap.size w w' := by
  have HI0 : Hid (In w w.heap.size p (w.alloc (.cells p.cells 25))) := In.new w p hl
  generalize hg : w.heap.size = g at HI0
  have HE := Lib.hid hg
  clear hl
  go_enter Tryd.func6, Tryd.ntmps6
  go_upto_region 1 with fail
  generalize w.alloc (.cells p.cells 25) = w1 at *
  have HI := HI0
  clear HI0 hg
  have q2 := HI.out.kept.2.2.1
  go_wp2_with (first | (go_at_call 10; (first | (with_reducible refine (HK.at _ HI.out.laid).mono ?_)); rintro e w1 ⟨rfl, hb⟩; replace HI := Lib.hid (HI.out.step hb); replace q2 := HI.out.kept.2.2.1; clear hb) | (go_at_call 12; (first | (with_reducible refine (HM.at _ HI.out.laid).mono ?_)); rintro e w1 ⟨rfl, hb⟩; replace HI := Lib.hid (HI.out.step hb); replace q2 := HI.out.kept.2.2.1; clear hb) | (go_at_call 13; (first | (with_reducible refine (HX.at _).mono ?_)); rintro e w1 ⟨rfl, hb⟩; replace HI := Lib.hid (HI.out.step hb); replace q2 := HI.out.kept.2.2.1; clear hb) | (refine wpList_row_if (by first | rfl | simp [Region.wanted, yielded]) 25 _ rfl g rfl 25 p.cells (0, 0) _ HI.out.box Tryd.underlying25 rfl (by kernel_rfl) ?_))
  go_ret
  exact ⟨rfl, by rw [← HE.out]; exact HI.out.below⟩
end GroupPowers
end Go.Proofs.YtmeaiindbkkkiaaDoor
