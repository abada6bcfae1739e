/- The walks of GroupAt where there are no coefficients, too many, or the parameters are not valid. -/
import Derived.Test.YtmeaiindbkkkiaaDoorGroupAtC
import Derived.LoopN
namespace Go.Proofs.YtmeaiindbkkkiaaDoor
open Go Go.RowKit Go.Lib
namespace GroupAt
open M
attribute [local go_sem] setCell_drewN alloc_drewN
set_option maxHeartbeats 4000000 in
set_option maxRecDepth 100000 in
theorem core_zero (p : Pm) (ao : Option Addr) (cap i i2 r : Nat) (w : World) (hl : Laid w) (hQ0 : p.Q ≠ 0) (he2 : Int.tmod (i : Int) (p.Q : Int) = (i2 : Int))
    (HK : RetBL 10 #[] (.bool true)) (HM : RetBL 12 #[.agg p.cells] (.bool true))
    (HA : RetB 17 #[.agg p.cells, .slice none 0 0, .int .u64 (i : Int)] (.int .u64 (r : Int)))
    (HA2 : RetB 17 #[.agg p.cells, .slice none 0 0, .int .u64 (i2 : Int)] (.int .u64 (r : Int)))
    (HV : RetB 16 #[.agg p.cells, .agg #[.int .u64 0, .int .u64 0]] (.int .u64 (r : Int))) :
    Calls Tryd.prog 8 #[.agg p.cells, .slice ao 0 cap, .int .u64 (i : Int)] w fun e w' => e = .returned (.bool true) ∧ Below w.heap.size w w' := by
  have HQ := Lib.hid (show p.Q ≠ 0 ∧ Int.tmod (i : Int) (p.Q : Int) = (i2 : Int) from ⟨hQ0, he2⟩)
  clear hQ0 he2
  have HI0 : Hid (In w w.heap.size p (w.alloc (.cells p.cells 25))) := Lib.hid (In.new w p hl)
  generalize hg : w.heap.size = g0 at HI0
  have HE := Lib.hid hg
  clear hl hg
  go_enter Tryd.func8, Tryd.ntmps8
  go_upto_region 1 with fail
  rw [HE.out]
  generalize w.alloc (.cells p.cells 25) = w1 at *
  have HI := HI0
  clear HI0
  go_upto_region 4 with (first | (go_at_call 10; (first | (with_reducible refine (HK.at _ HI.out.laid).mono ?_)); rintro e w1 ⟨rfl, hb⟩; replace HI := Lib.hid (HI.out.step hb); clear hb) | (go_at_call 12; (first | (with_reducible refine (HM.at _ HI.out.laid).mono ?_)); rintro e w1 ⟨rfl, hb⟩; replace HI := Lib.hid (HI.out.step hb); clear hb) | (refine wpList_row_if ?_ 25 _ rfl g0 rfl 25 p.cells (0, 0) _ HI.out.box Tryd.underlying25 rfl (by kernel_rfl) ?_; first | rfl | (simp [Region.wanted, yielded]; done)))
  have HJ0 : Hid (Inr w [(w1.heap.size, pair 0 0, 35), (g0, p.cells, 25)] (w1.alloc (.cells #[.int .u64 0, .int .u64 0] 35))) := Lib.hid ((⟨fun r hr => by
    obtain rfl := List.mem_singleton.1 hr
    exact HI.out.box, HI.out.below⟩ : Inr w [(g0, p.cells, 25)] w1).put (pair 0 0) 35)
  clear HI HK HM
  go_wp2_with fail
  generalize w1.alloc (.cells #[.int .u64 0, .int .u64 0] 35) = wr at *
  generalize w1.heap.size = gv at *
  refine wp_loop_rounds 1 ?_
  rw [rounds_succ]
  go_upto_region 13 with fail
  have HBW := Lib.hid HJ0.out.below
  have HJ : Inr wr [(gv, pair 0 0, 35), (g0, p.cells, 25)] wr := ⟨HJ0.out.rows, Below.refl _ _⟩
  clear HJ0
  have kS14 : ∀ {w' : World}, Inr wr [(gv, pair 0 0, 35), (g0, p.cells, 25)] w' → w'.cell? ⟨gv, 0, none⟩ = some (.int .u64 0) ∧ w'.cell? ⟨gv, 1, none⟩ = some (.int .u64 0) ∧ w'.cell? ⟨g0, 0, none⟩ = some (.int .u64 (p.P : Int)) ∧ w'.cell? ⟨g0, 1, none⟩ = some (.int .u64 (p.Q : Int)) ∧ w'.cell? ⟨g0, 2, none⟩ = some (.int .u64 (p.G : Int)) ∧ w'.cell? ⟨g0, 3, none⟩ = some (.int .u64 (p.H : Int)) ∧ w'.cell? ⟨g0, 4, none⟩ = some (.int .i64 p.Nodes) ∧ w'.cell? ⟨g0, 5, none⟩ = some (.int .i64 p.N) ∧ w'.cell? ⟨g0, 6, none⟩ = some (.int .i64 p.T) ∧ w'.cell? ⟨g0, 7, none⟩ = some (.int .i64 p.K) ∧ w'.cell? ⟨g0, 8, none⟩ = some (.int .i64 p.D) ∧ w'.cell? ⟨g0, 9, none⟩ = some (.int .i64 p.R) ∧ w'.cell? ⟨g0, 10, none⟩ = some (.int .i64 p.M) ∧ w'.cell? ⟨g0, 11, none⟩ = some (.int .i64 p.X) := fun h => ⟨h.cell (b := gv) (cs := pair 0 0) (t := 35) (by simp) 0, h.cell (b := gv) (cs := pair 0 0) (t := 35) (by simp) 1, h.cell (b := g0) (cs := p.cells) (t := 25) (by simp) 0, h.cell (b := g0) (cs := p.cells) (t := 25) (by simp) 1, h.cell (b := g0) (cs := p.cells) (t := 25) (by simp) 2, h.cell (b := g0) (cs := p.cells) (t := 25) (by simp) 3, h.cell (b := g0) (cs := p.cells) (t := 25) (by simp) 4, h.cell (b := g0) (cs := p.cells) (t := 25) (by simp) 5, h.cell (b := g0) (cs := p.cells) (t := 25) (by simp) 6, h.cell (b := g0) (cs := p.cells) (t := 25) (by simp) 7, h.cell (b := g0) (cs := p.cells) (t := 25) (by simp) 8, h.cell (b := g0) (cs := p.cells) (t := 25) (by simp) 9, h.cell (b := g0) (cs := p.cells) (t := 25) (by simp) 10, h.cell (b := g0) (cs := p.cells) (t := 25) (by simp) 11⟩
  have hQ0 := HQ.out.1
  have he2 := HQ.out.2
  obtain ⟨y0, y1, y2, y3, y4, y5, y6, y7, y8, y9, y10, y11, y12, y13⟩ := kS14 HJ
  go_region_held3 (fun w' => w'.cell? ⟨gv, 0, none⟩ = some (.int .u64 0) ∧ w'.cell? ⟨gv, 1, none⟩ = some (.int .u64 0) ∧ w'.cell? ⟨g0, 0, none⟩ = some (.int .u64 (p.P : Int)) ∧ w'.cell? ⟨g0, 1, none⟩ = some (.int .u64 (p.Q : Int)) ∧ w'.cell? ⟨g0, 2, none⟩ = some (.int .u64 (p.G : Int)) ∧ w'.cell? ⟨g0, 3, none⟩ = some (.int .u64 (p.H : Int)) ∧ w'.cell? ⟨g0, 4, none⟩ = some (.int .i64 p.Nodes) ∧ w'.cell? ⟨g0, 5, none⟩ = some (.int .i64 p.N) ∧ w'.cell? ⟨g0, 6, none⟩ = some (.int .i64 p.T) ∧ w'.cell? ⟨g0, 7, none⟩ = some (.int .i64 p.K) ∧ w'.cell? ⟨g0, 8, none⟩ = some (.int .i64 p.D) ∧ w'.cell? ⟨g0, 9, none⟩ = some (.int .i64 p.R) ∧ w'.cell? ⟨g0, 10, none⟩ = some (.int .i64 p.M) ∧ w'.cell? ⟨g0, 11, none⟩ = some (.int .i64 p.X)) (first | exact kS14 HJ | exact kS14 (Inr.drew HJ) | exact kS14 (Inr.drewN HJ _) | exact kS14 (Inr.alloc HJ _) | exact kS14 (Inr.alloc (Inr.drew HJ) _) | exact kS14 (Inr.alloc (Inr.drewN HJ _) _) | exact kS14 (Inr.drew (Inr.alloc HJ _)) | exact kS14 (Inr.drewN (Inr.alloc HJ _) _))
    (first | (go_at_call 17; (first | (with_reducible refine (HA.at _).mono ?_) | (with_reducible refine (HA2.at _).mono ?_)); rintro e w1 ⟨rfl, hb⟩; (first | (have HJ := Inr.step HJ hb) | (have HJ := Inr.step (Inr.drew HJ) hb) | (have HJ := Inr.step (Inr.drewN HJ _) hb) | (have HJ := Inr.step (Inr.alloc HJ _) hb) | (have HJ := Inr.step (Inr.alloc (Inr.drew HJ) _) hb) | (have HJ := Inr.step (Inr.alloc (Inr.drewN HJ _) _) hb) | (have HJ := Inr.step (Inr.drew (Inr.alloc HJ _)) hb) | (have HJ := Inr.step (Inr.drewN (Inr.alloc HJ _) _) hb)); clear hb) | (go_at_call 16; (first | (with_reducible refine (HV.at _).mono ?_)); rintro e w1 ⟨rfl, hb⟩; (first | (have HJ := Inr.step HJ hb) | (have HJ := Inr.step (Inr.drew HJ) hb) | (have HJ := Inr.step (Inr.drewN HJ _) hb) | (have HJ := Inr.step (Inr.alloc HJ _) hb) | (have HJ := Inr.step (Inr.alloc (Inr.drew HJ) _) hb) | (have HJ := Inr.step (Inr.alloc (Inr.drewN HJ _) _) hb) | (have HJ := Inr.step (Inr.drew (Inr.alloc HJ _)) hb) | (have HJ := Inr.step (Inr.drewN (Inr.alloc HJ _) _) hb)); clear hb))
  clear kS14 hQ0 he2
  go_wp2_with fail
  go_ret
  exact ⟨rfl, HE.out ▸ HBW.out.trans (HJ.below.mono HBW.out.size)⟩

set_option maxHeartbeats 2000000 in
theorem core_long (p : Pm) (a : Addr) (n cap i : Nat) (w : World) (hl : Laid w) (hn : 20 < n)
    (HK : RetBL 10 #[] (.bool true)) (HM : RetBL 12 #[.agg p.cells] (.bool true)) :
    Calls Tryd.prog 8 #[.agg p.cells, .slice (some a) n cap, .int .u64 (i : Int)] w fun e w' => e = .returned (.bool true) ∧ Below w.heap.size w w' := by
  have HI0 : Hid (In w w.heap.size p (w.alloc (.cells p.cells 25))) := Lib.hid (In.new w p hl)
  generalize hg : w.heap.size = g0 at HI0
  have HE := Lib.hid hg
  clear hl hg
  go_enter Tryd.func8, Tryd.ntmps8
  go_upto_region 1 with fail
  rw [HE.out]
  generalize w.alloc (.cells p.cells 25) = w1 at *
  have HI := HI0
  clear HI0
  go_wp2_with (first | (go_at_call 10; (first | (with_reducible refine (HK.at _ HI.out.laid).mono ?_)); rintro e w1 ⟨rfl, hb⟩; replace HI := Lib.hid (HI.out.step hb); clear hb) | (go_at_call 12; (first | (with_reducible refine (HM.at _ HI.out.laid).mono ?_)); rintro e w1 ⟨rfl, hb⟩; replace HI := Lib.hid (HI.out.step hb); clear hb) | (refine wpList_row_if ?_ 25 _ rfl g0 rfl 25 p.cells (0, 0) _ HI.out.box Tryd.underlying25 rfl (by kernel_rfl) ?_; first | rfl | (simp [Region.wanted, yielded]; done)))
  go_ret
  exact ⟨rfl, HE.out ▸ HI.out.below⟩

set_option maxHeartbeats 2000000 in
theorem core_no (p : Pm) (v : Value) (i : Nat) (w : World) (hl : Laid w)
    (HK : RetBL 10 #[] (.bool true)) (HM : RetBL 12 #[.agg p.cells] (.bool false)) :
    Calls Tryd.prog 8 #[.agg p.cells, v, .int .u64 (i : Int)] w fun e w' => e = .returned (.bool true) ∧ Below w.heap.size w w' := by
  have HI0 : Hid (In w w.heap.size p (w.alloc (.cells p.cells 25))) := Lib.hid (In.new w p hl)
  generalize hg : w.heap.size = g0 at HI0
  have HE := Lib.hid hg
  clear hl hg
  go_enter Tryd.func8, Tryd.ntmps8
  go_upto_region 1 with fail
  rw [HE.out]
  generalize w.alloc (.cells p.cells 25) = w1 at *
  have HI := HI0
  clear HI0
  go_wp2_with (first | (go_at_call 10; (first | (with_reducible refine (HK.at _ HI.out.laid).mono ?_)); rintro e w1 ⟨rfl, hb⟩; replace HI := Lib.hid (HI.out.step hb); clear hb) | (go_at_call 12; (first | (with_reducible refine (HM.at _ HI.out.laid).mono ?_)); rintro e w1 ⟨rfl, hb⟩; replace HI := Lib.hid (HI.out.step hb); clear hb) | (refine wpList_row_if ?_ 25 _ rfl g0 rfl 25 p.cells (0, 0) _ HI.out.box Tryd.underlying25 rfl (by kernel_rfl) ?_; first | rfl | (simp [Region.wanted, yielded]; done)))
  go_ret
  exact ⟨rfl, HE.out ▸ HI.out.below⟩
end GroupAt
end Go.Proofs.YtmeaiindbkkkiaaDoor
