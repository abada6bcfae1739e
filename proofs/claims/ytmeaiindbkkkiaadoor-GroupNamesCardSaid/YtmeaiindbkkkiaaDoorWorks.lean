/- The examples of layer 2 (works), given what each call answers. -/
import Derived.Test.YtmeaiindbkkkiaaDoorPm
import Derived.Deep.Cut
import Derived.ProofKit
namespace Go.Proofs.YtmeaiindbkkkiaaDoor
open Go Go.RowKit Go.Lib
namespace M
/-- The parameters of the examples. -/
abbrev sm : Pm := ⟨23, 11, 4, 9, 4, 4, 1, 1, 1, 1, 1, 1⟩
set_option maxHeartbeats 400000 in
theorem small_any : RetB 11 #[] (.agg sm.cells) := by
  intro w
  go_enter Tryd.func11, Tryd.ntmps11
  go_wp2_with fail
  refine bodyPost_ret (v := .agg sm.cells) (by simp [results, Tryd.results11, go_sem]) rfl ⟨rfl, ?_⟩
  exact (Below.refl _ _).alloc (Nat.le_refl _) _

set_option maxHeartbeats 2000000 in
set_option maxRecDepth 100000 in
theorem works_core (HM : RetBL 12 #[.agg sm.cells] (.bool true))
    (I2 : RetB 14 #[.agg sm.cells, .int .u64 2] (.bool true))
    (I5 : RetB 14 #[.agg sm.cells, .int .u64 5] (.bool false))
    (I0 : RetB 14 #[.agg sm.cells, .int .u64 0] (.bool false))
    (I24 : RetB 14 #[.agg sm.cells, .int .u64 24] (.bool false))
    (HT : ∀ (W : World) (b : Nat), W.heap[b]? = some (.cells #[.int .u64 4, .int .u64 9] 23 (0, 0)) → Calls Tryd.prog 15 #[.agg sm.cells, .slice (some ⟨b, 0, none⟩) 2 2] W fun e w' => e = .returned (.int .u64 13) ∧ Below W.heap.size W w')
    (HP : RetB 13 #[.agg sm.cells, .int .u64 4, .int .u64 3] (.int .u64 18))
    (HC : RetB 16 #[.agg sm.cells, .agg #[.int .u64 1, .int .u64 1]] (.int .u64 13))
    (HA : ∀ (W : World) (b : Nat), W.heap[b]? = some (.cells #[.int .u64 4, .int .u64 9] 23 (0, 0)) → Calls Tryd.prog 17 #[.agg sm.cells, .slice (some ⟨b, 0, none⟩) 2 2, .int .u64 2] W fun e w' => e = .returned (.int .u64 2) ∧ Below W.heap.size W w') :
    RetBL 10 #[] (.bool true) := by
  intro w hl
  have HS := small_any
  have HL := Lib.hid hl
  clear hl
  go_enter Tryd.func10, Tryd.ntmps10
  go_upto_region 2 with (go_at_call 11; (with_reducible refine (HS.at _).mono ?_); rintro e w0 ⟨rfl, hb⟩; have HB := Lib.hid hb; clear hb)
  have HI : Hid (In w w0.heap.size sm (w0.alloc (.cells sm.cells 25))) :=
    ⟨Box.new w0 sm, (HL.out.below HB.out).alloc _, HB.out.alloc HB.out.size _⟩
  generalize w0.heap.size = g at *
  generalize w0.alloc (.cells _ 25) = w1 at *
  go_wp2_with (first | (refine wpList_row_if (by first | rfl | simp [Region.wanted, yielded]) 25 _ rfl g rfl 25 sm.cells (0, 0) _ HI.out.box Tryd.underlying25 rfl (by kernel_rfl) ?_) | (refine wpList_row_if (by first | rfl | simp [Region.wanted, yielded]) 25 _ rfl g rfl 25 sm.cells (0, 0) _ (HI.out.alloc _).box Tryd.underlying25 rfl (by kernel_rfl) ?_) | (go_at_call 12; (first | (with_reducible refine (HM.at _ HI.out.laid).mono ?_)); rintro e w1 ⟨rfl, hb⟩; replace HI := Lib.hid (HI.out.step hb); clear hb) | (go_at_call 14; (first | (with_reducible refine (I2.at _).mono ?_) | (with_reducible refine (I5.at _).mono ?_) | (with_reducible refine (I0.at _).mono ?_) | (with_reducible refine (I24.at _).mono ?_)); rintro e w1 ⟨rfl, hb⟩; replace HI := Lib.hid (HI.out.step hb); clear hb) | (go_at_call 15; (refine (HT _ _ (heap_alloc_new _ _)).mono ?_); rintro e w1 ⟨rfl, hb⟩; replace HI := Lib.hid ((HI.out.alloc _).step hb); clear hb) | (go_at_call 13; (first | (with_reducible refine (HP.at _).mono ?_)); rintro e w1 ⟨rfl, hb⟩; replace HI := Lib.hid (HI.out.step hb); clear hb) | (go_at_call 16; (first | (with_reducible refine (HC.at _).mono ?_)); rintro e w1 ⟨rfl, hb⟩; replace HI := Lib.hid (HI.out.step hb); clear hb) | (go_at_call 17; (refine (HA _ _ (heap_alloc_new _ _)).mono ?_); rintro e w1 ⟨rfl, hb⟩; replace HI := Lib.hid ((HI.out.alloc _).step hb); clear hb))
  go_ret
  exact ⟨rfl, HI.out.below⟩
end M
end Go.Proofs.YtmeaiindbkkkiaaDoor
