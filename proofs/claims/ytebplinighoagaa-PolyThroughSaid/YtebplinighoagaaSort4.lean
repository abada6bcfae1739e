/- The library's sort beyond insertion: how it chooses a pivot, and whether a row is in order already. -/
import Derived.Test.YtebplinighoagaaSort3
import Derived.Test.YtebplinighoagaaPolyW4
namespace Go.Proofs.Ytebplinighoagaa
open Go Go.RowKit Go.Lib
namespace M
/-- Two places in either order; a count beside the row is one more at most. -/
def O2 (W0 : World) (B n : Nat) (z : Nat → Nat) (S s a b : Nat) (e : Ending) (w' : World) : Prop :=
  ∃ x y s' : Nat, e = .returned (.tuple #[.int .i64 (x : Int), .int .i64 (y : Int)]) ∧ (x = a ∧ y = b ∨ x = b ∧ y = a) ∧ s' ≤ s + 1 ∧ Mine W0 B n z w' ∧ Box w' S 3 (.int .i64 (s' : Int))
theorem Mine.box {W0 w : World} {B n S : Nat} {z : Nat → Nat} (h : Mine W0 B n z w) (hS : W0.heap.size ≤ S) (hne : S ≠ B) (v : Value) : Mine W0 B n z (w.setCell ⟨S, 0, none⟩ v) := by
  refine ⟨?_, h.low, h.below.setCell (p := ⟨S, 0, none⟩) hS v⟩
  obtain ⟨cs, h1, h2⟩ := h.block
  exact ⟨cs, (Below.heap_setCell w ⟨S, 0, none⟩ v B (fun e => hne e.symm)).trans h1, h2⟩
set_option maxHeartbeats 4000000 in
theorem order2_any (W0 : World) (B n cap a b S s : Nat) (z : Nat → Nat) (_hn : n ≤ 1000000) (ha : a < n) (hb : b < n) (hS : W0.heap.size ≤ S) (hne : S ≠ B) (hs : s ≤ 1000) (w : World) (hM : Mine W0 B n z w) (hB : Box w S 3 (.int .i64 (s : Int))) :
    Calls Try.prog 72 #[.slice (some ⟨B, 0, none⟩) n cap, .int .i64 (a : Int), .int .i64 (b : Int), .pointer (some ⟨S, 0, none⟩)] w (O2 W0 B n z S s a b) := by
  have hL := less_any (z b) (z a)
  have c1 := hM.cell ha
  have c2 := hM.cell hb
  have c3 := hB.cell
  have f3 := hB.free
  have p1 : (0 : Int) ≤ (a : Int) := Int.natCast_nonneg _
  have p2 : (0 : Int) ≤ (b : Int) := Int.natCast_nonneg _
  have p3 : (a : Int) < (n : Int) := by omega
  have p4 : (b : Int) < (n : Int) := by omega
  have HM := Lib.hid hM
  have HB := Lib.hid hB
  clear hM hB
  by_cases hls : z b < z a
  · have hl2 : ltB (z b) (z a) = true := by unfold ltB; simpa using hls
    rw [hl2] at hL
    clear hl2 hls
    generalize z a = za at *
    generalize z b = zb at *
    go_enter Try.func72, Try.ntmps72
    go_upto_region 1 with fail
    go_quiet ((go_at_call 60; exact hL.quiet))
    go_wp2_with fail
    go_ret2
    refine ⟨b, a, s + 1, rfl, .inr ⟨rfl, rfl⟩, Nat.le_refl _, (HM.out.drewN _).box hS hne _, (HB.out.drewN _).set _⟩
  · have hl2 : ltB (z b) (z a) = false := by unfold ltB; simpa using hls
    rw [hl2] at hL
    clear hl2 hls
    generalize z a = za at *
    generalize z b = zb at *
    go_enter Try.func72, Try.ntmps72
    go_upto_region 1 with fail
    go_quiet ((go_at_call 60; exact hL.quiet))
    go_wp2_with fail
    go_ret2
    exact ⟨a, b, s, rfl, .inl ⟨rfl, rfl⟩, by omega, HM.out.drewN _, HB.out.drewN _⟩
/-- The median of three places. -/
def M3 (W0 : World) (B n : Nat) (z : Nat → Nat) (S s a b c : Nat) (e : Ending) (w' : World) : Prop :=
  ∃ j s' : Nat, e = .returned (.int .i64 (j : Int)) ∧ (j = a ∨ j = b ∨ j = c) ∧ s' ≤ s + 3 ∧ Mine W0 B n z w' ∧ Box w' S 3 (.int .i64 (s' : Int))
set_option maxHeartbeats 4000000 in
theorem median_any (W0 : World) (B n cap a b c S s : Nat) (z : Nat → Nat) (hn : n ≤ 1000000) (ha : a < n) (hb : b < n) (hc : c < n) (hS : W0.heap.size ≤ S) (hne : S ≠ B) (hs : s ≤ 900) (w : World) (hM : Mine W0 B n z w) (hB : Box w S 3 (.int .i64 (s : Int))) :
    Calls Try.prog 70 #[.slice (some ⟨B, 0, none⟩) n cap, .int .i64 (a : Int), .int .i64 (b : Int), .int .i64 (c : Int), .pointer (some ⟨S, 0, none⟩)] w (M3 W0 B n z S s a b c) := by
  have HM := Lib.hid hM
  have HB := Lib.hid hB
  clear hM hB
  go_enter Try.func70, Try.ntmps70
  go_wp2_with fail
  refine (order2_any W0 B n cap a b S s z hn ha hb hS hne (by omega) _ HM.out HB.out).mono ?_
  rintro e w1 ⟨x1, y1, s1, rfl, h1, hs1, hM1, hB1⟩
  have HM1 := Lib.hid hM1
  have HB1 := Lib.hid hB1
  clear hM1 hB1 HM HB
  go_wp2_with fail
  refine (order2_any W0 B n cap y1 c S s1 z hn (by omega) hc hS hne (by omega) _ HM1.out HB1.out).mono ?_
  rintro e w2 ⟨x2, y2, s2, rfl, h2, hs2, hM2, hB2⟩
  have HM2 := Lib.hid hM2
  have HB2 := Lib.hid hB2
  clear hM2 hB2 HM1 HB1
  go_wp2_with fail
  refine (order2_any W0 B n cap x1 x2 S s2 z hn (by omega) (by omega) hS hne (by omega) _ HM2.out HB2.out).mono ?_
  rintro e w3 ⟨x3, y3, s3, rfl, h3, hs3, hM3, hB3⟩
  have HM3 := Lib.hid hM3
  have HB3 := Lib.hid hB3
  clear hM3 hB3 HM2 HB2
  go_wp2_with fail
  go_ret
  exact ⟨y3, s3, rfl, by omega, by omega, HM3.out, HB3.out⟩
/-- A pivot of the row, and a hint that is not that the row is falling. -/
def Piv (W0 : World) (B n : Nat) (z : Nat → Nat) (a b : Nat) (e : Ending) (w' : World) : Prop :=
  ∃ j k : Nat, e = .returned (.tuple #[.int .i64 (j : Int), .int .i64 (k : Int)]) ∧ a < j ∧ j < b ∧ k < 2 ∧ Mine W0 B n z w'
set_option maxHeartbeats 8000000 in
theorem choose_any (W0 : World) (B n cap a b : Nat) (z : Nat → Nat) (hn : n ≤ 1000000) (hb : b ≤ n) (h12 : a + 12 < b) (h16 : b < a + 16) (w : World) (hM : Mine W0 B n z w) :
    Calls Try.prog 57 #[.slice (some ⟨B, 0, none⟩) n cap, .int .i64 (a : Int), .int .i64 (b : Int)] w (Piv W0 B n z a b) := by
  obtain ⟨L, hL⟩ : ∃ L, b - a = L := ⟨_, rfl⟩
  have e0 : (b : Int) - (a : Int) = (L : Int) := by omega
  have e3 : (L : Int) / 4 = 3 := by omega
  have q1 : ¬ (L : Int) < 8 := by omega
  have q2 : (8 : Int) ≤ (L : Int) := by omega
  have q3 : ¬ (50 : Int) ≤ (L : Int) := by omega
  have hlt := hM.lt
  have HMD := Lib.hid (median_any W0 B n cap (a + 3) (a + 6) (a + 9) w.heap.size 0 z hn (by omega) (by omega) (by omega) hM.below.size (by omega) (by omega) (w.alloc (.cells #[.int .i64 0] 3)) (hM.alloc _) (Box.new w _ _))
  clear hM hlt
  go_enter Try.func57, Try.ntmps57
  go_wp2_with fail
  refine HMD.out.mono ?_
  rintro e w1 ⟨j, s, rfl, hj, hs, hM1, hB1⟩
  have HM1 := Lib.hid hM1
  have c1 := hB1.cell
  clear hM1 hB1 HMD
  by_cases h0 : s = 0
  · subst h0
    go_wp2_with fail
    go_ret2
    exact ⟨j, 1, rfl, by omega, by omega, by omega, HM1.out⟩
  · have b0 : ((s : Int) == 0) = false := by simp; omega
    have b1 : ((s : Int) == 12) = false := by simp; omega
    go_wp2_with fail
    go_ret2
    exact ⟨j, 0, rfl, by omega, by omega, by omega, HM1.out⟩
end M
end Go.Proofs.Ytebplinighoagaa
