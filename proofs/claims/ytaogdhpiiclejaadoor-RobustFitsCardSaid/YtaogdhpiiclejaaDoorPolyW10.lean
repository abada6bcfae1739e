/- Where the program's weights and its polynomial through pairs are refused at once. -/
import Derived.Test.YtaogdhpiiclejaaDoorPolyW9
namespace Go.Proofs.YtaogdhpiiclejaaDoor
open Go Go.RowKit Go.Lib Go.Shelf
namespace M
attribute [local go_sem] Oper.semAt_some
set_option maxRecDepth 100000 in
set_option maxHeartbeats 4000000 in
theorem weights_err (ao : Option Addr) (n cap p q : Nat) (c : Int) (hc : c ≠ 0) (w : World)
    (hck : ∀ W, Below w.heap.size w W → Calls Tryd.prog 26 #[.slice ao n cap, .int .u64 (q : Int)] W fun e w' => e = .returned (.int .i64 c) ∧ Below W.heap.size W w') :
    Calls Tryd.prog 24 #[.slice ao n cap, .int .u64 (p : Int), .int .u64 (q : Int)] w fun e w' => e = .returned (.tuple #[.slice none 0 0, .int .i64 c]) ∧ Below w.heap.size w w' := by
  refine (callsIn_wide (n := 3)).1 ?_
  have HCK := Lib.hid hck
  have hl1 : 1 ≤ 3 := by omega
  have hc1 : (c != 0) = true := by simpa using hc
  clear hck
  refine callsIn_of_wp_marks Tryd.func24 rfl trivial ?_ rfl
  simp only [Tryd.ntmps24, List.size_toArray, List.length_cons, List.length_nil, Nat.reduceAdd, Nat.reduceSub, Array.replicate_succ, Array.replicate_zero, List.push_toArray, List.append_toArray, List.nil_append, List.cons_append]
  have hb0 : Below w.heap.size w ((w.alloc (.cells #[.int .u64 (p : Int)] 23)).alloc (.cells #[.int .u64 (q : Int)] 23)) := ((Below.refl _ w).alloc (Nat.le_refl _) _).alloc (by simp) _
  have HB0 := Lib.hid hb0
  clear hb0
  gi_wp2_with (refine ⟨trivial, ?_⟩; gi_at_call 26; refine (callsIn_wide.2 (HCK.out _ HB0.out)).mono ?_; rintro e w' ⟨rfl, hb⟩; have HB := Lib.hid hb; clear hb)
  exact ⟨_, results_tmp2 rfl _ _ _, rfl, HB0.out.trans (HB.out.mono HB0.out.size)⟩
set_option maxRecDepth 100000 in
set_option maxHeartbeats 4000000 in
theorem through_len (xo yo : Option Addr) (n m cx cy q : Nat) (hne : n ≠ m) (w : World) :
    Calls Tryd.prog 14 #[.slice xo n cx, .slice yo m cy, .int .u64 (q : Int)] w fun e w' => e = .returned (.tuple #[.slice none 0 0, .int .i64 1]) ∧ Below w.heap.size w w' := by
  refine (callsIn_wide (n := 3)).1 ?_
  have hl1 : 1 ≤ 3 := by omega
  have e1 : ((n : Int) != (m : Int)) = true := by simp; omega
  have e2 : (n != m) = true := by simpa using hne
  clear hne
  refine callsIn_of_wp_marks Tryd.func14 rfl trivial ?_ rfl
  simp only [Tryd.ntmps14, List.size_toArray, List.length_cons, List.length_nil, Nat.reduceAdd, Nat.reduceSub, Array.replicate_succ, Array.replicate_zero, List.push_toArray, List.append_toArray, List.nil_append, List.cons_append]
  gi_upto_region 1 with fail
  obtain ⟨g0, hg0⟩ : ∃ g, w.heap.size = g := ⟨_, rfl⟩
  obtain ⟨W1, h1, b1, s1, x1, x2, x3, x4, x5⟩ := boxes5 w 22 22 23 22 29 (.slice xo n cx) (.slice yo m cy) (.int .u64 (q : Int)) (.slice none 0 0) (.int .i64 0)
  rw [hg0] at s1 x1 x2 x3 x4 x5
  rw [h1, hg0]
  have c1 := x1.cell
  have c2 := x2.cell
  have c4 := x4.cell
  have f4 := x4.free
  have c5 := (x5.other ⟨g0 + 1 + 1 + 1, 0, none⟩ (.slice none 0 0) (by show g0 + 1 + 1 + 1 + 1 ≠ g0 + 1 + 1 + 1; omega)).cell
  have f5 := x5.free
  have HX := Lib.hid (And.intro b1 (And.intro x4 (And.intro x5 hg0)))
  clear h1 b1 x1 x2 x3 x4 x5 hg0
  gi_wp2
  obtain ⟨b1, x4, x5, hg0⟩ := HX.out
  have q4 := ((x4.set (.slice none 0 0)).other ⟨g0 + 1 + 1 + 1 + 1, 0, none⟩ (.int .i64 1) (by show g0 + 1 + 1 + 1 ≠ g0 + 1 + 1 + 1 + 1; omega)).cell
  have q5 := ((x5.other ⟨g0 + 1 + 1 + 1, 0, none⟩ (.slice none 0 0) (by show g0 + 1 + 1 + 1 + 1 ≠ g0 + 1 + 1 + 1; omega)).set (.int .i64 1)).cell
  refine ⟨.tuple #[.slice none 0 0, .int .i64 1], ?_, rfl, (b1.setCell (p := ⟨g0 + 1 + 1 + 1, 0, none⟩) (by show w.heap.size ≤ g0 + 1 + 1 + 1; omega) _).setCell (p := ⟨g0 + 1 + 1 + 1 + 1, 0, none⟩) (by show w.heap.size ≤ g0 + 1 + 1 + 1 + 1; omega) _⟩
  rw [results_cells rfl]
  simp [go_sem, q4, q5]
set_option maxRecDepth 100000 in
set_option maxHeartbeats 4000000 in
theorem through_err (xo yo : Option Addr) (n cx cy q : Nat) (c : Int) (hc : c ≠ 0) (w : World)
    (hck : ∀ W, Below w.heap.size w W → Calls Tryd.prog 26 #[.slice xo n cx, .int .u64 (q : Int)] W fun e w' => e = .returned (.int .i64 c) ∧ Below W.heap.size W w') :
    Calls Tryd.prog 14 #[.slice xo n cx, .slice yo n cy, .int .u64 (q : Int)] w fun e w' => e = .returned (.tuple #[.slice none 0 0, .int .i64 c]) ∧ Below w.heap.size w w' := by
  refine (callsIn_wide (n := 3)).1 ?_
  have HCK := Lib.hid hck
  have hl1 : 1 ≤ 3 := by omega
  have hc1 : (c != 0) = true := by simpa using hc
  clear hck
  refine callsIn_of_wp_marks Tryd.func14 rfl trivial ?_ rfl
  simp only [Tryd.ntmps14, List.size_toArray, List.length_cons, List.length_nil, Nat.reduceAdd, Nat.reduceSub, Array.replicate_succ, Array.replicate_zero, List.push_toArray, List.append_toArray, List.nil_append, List.cons_append]
  gi_upto_region 1 with fail
  obtain ⟨g0, hg0⟩ : ∃ g, w.heap.size = g := ⟨_, rfl⟩
  obtain ⟨W1, h1, b1, s1, x1, x2, x3, x4, x5⟩ := boxes5 w 22 22 23 22 29 (.slice xo n cx) (.slice yo n cy) (.int .u64 (q : Int)) (.slice none 0 0) (.int .i64 0)
  rw [hg0] at s1 x1 x2 x3 x4 x5
  rw [h1, hg0]
  have c1 := x1.cell
  have c2 := x2.cell
  have c3 := x3.cell
  have HX := Lib.hid (And.intro b1 (And.intro x4 (And.intro x5 hg0)))
  clear h1 b1 x1 x2 x3 x4 x5 hg0
  gi_upto_region 4 with (refine ⟨trivial, ?_⟩; gi_at_call 26; refine (callsIn_wide.2 (HCK.out _ HX.out.1)).mono ?_; rintro e w' ⟨rfl, hb⟩; have HB := Lib.hid hb; clear hb)
  have x4 := HX.out.2.1.below HB.out
  have x5 := HX.out.2.2.1.below HB.out
  have c4 := x4.cell
  have f4 := x4.free
  have c5 := (x5.other ⟨g0 + 1 + 1 + 1, 0, none⟩ (.slice none 0 0) (by show g0 + 1 + 1 + 1 + 1 ≠ g0 + 1 + 1 + 1; omega)).cell
  have f5 := x5.free
  clear x4 x5 c1 c2 c3
  gi_wp2
  have x4 := HX.out.2.1.below HB.out
  have x5 := HX.out.2.2.1.below HB.out
  have hg0 := HX.out.2.2.2
  have q4 := ((x4.set (.slice none 0 0)).other ⟨g0 + 1 + 1 + 1 + 1, 0, none⟩ (.int .i64 c) (by show g0 + 1 + 1 + 1 ≠ g0 + 1 + 1 + 1 + 1; omega)).cell
  have q5 := ((x5.other ⟨g0 + 1 + 1 + 1, 0, none⟩ (.slice none 0 0) (by show g0 + 1 + 1 + 1 + 1 ≠ g0 + 1 + 1 + 1; omega)).set (.int .i64 c)).cell
  refine ⟨.tuple #[.slice none 0 0, .int .i64 c], ?_, rfl, ((HX.out.1.trans (HB.out.mono HX.out.1.size)).setCell (p := ⟨g0 + 1 + 1 + 1, 0, none⟩) (by show w.heap.size ≤ g0 + 1 + 1 + 1; omega) _).setCell (p := ⟨g0 + 1 + 1 + 1 + 1, 0, none⟩) (by show w.heap.size ≤ g0 + 1 + 1 + 1 + 1; omega) _⟩
  rw [results_cells rfl]
  simp [go_sem, q4, q5]
end M
end Go.Proofs.YtaogdhpiiclejaaDoor
