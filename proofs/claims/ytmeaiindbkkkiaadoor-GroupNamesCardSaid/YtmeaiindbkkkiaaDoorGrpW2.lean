/- The walks of group.between, generates, and of each condition on parameters: what each answers. -/
import Derived.Test.YtmeaiindbkkkiaaDoorGrpW1
namespace Go.Proofs.YtmeaiindbkkkiaaDoor
open Go Go.RowKit Go.Lib
namespace M
/-- Whether a number lies between two others. -/
def btw (x lo hi : Int) : Bool := decide (lo ≤ x) && decide (x ≤ hi)

set_option maxHeartbeats 400000 in
theorem betI (x lo hi : Int) : Ret 38 #[.int .i64 x, .int .i64 lo, .int .i64 hi] (.bool (btw x lo hi)) := by
  intro w
  by_cases h0 : lo ≤ x
  · by_cases h1 : x ≤ hi
    · have HT : Hid (btw x lo hi = true) := Lib.hid (by simp [btw, h0, h1])
      rw [HT.out]
      go_enter Tryd.func38, Tryd.ntmps38
      go_wp2_with fail
      go_ret
      exact ⟨rfl, 0, rfl⟩
    · have HT : Hid (btw x lo hi = false) := Lib.hid (by simp [btw, h1])
      rw [HT.out]
      go_enter Tryd.func38, Tryd.ntmps38
      go_wp2_with fail
      go_ret
      exact ⟨rfl, 0, rfl⟩
  · have HT : Hid (btw x lo hi = false) := Lib.hid (by simp [btw, h0])
    rw [HT.out]
    go_enter Tryd.func38, Tryd.ntmps38
    go_wp2_with fail
    go_ret
    exact ⟨rfl, 0, rfl⟩

set_option maxHeartbeats 400000 in
theorem betL (x lo hi : Int) : Ret 46 #[.int .i64 x, .int .i64 lo, .int .i64 hi] (.bool (btw x lo hi)) := by
  intro w
  by_cases h0 : lo ≤ x
  · by_cases h1 : x ≤ hi
    · have HT : Hid (btw x lo hi = true) := Lib.hid (by simp [btw, h0, h1])
      rw [HT.out]
      go_enter Tryd.func46, Tryd.ntmps46
      go_wp2_with fail
      go_ret
      exact ⟨rfl, 0, rfl⟩
    · have HT : Hid (btw x lo hi = false) := Lib.hid (by simp [btw, h1])
      rw [HT.out]
      go_enter Tryd.func46, Tryd.ntmps46
      go_wp2_with fail
      go_ret
      exact ⟨rfl, 0, rfl⟩
  · have HT : Hid (btw x lo hi = false) := Lib.hid (by simp [btw, h0])
    rw [HT.out]
    go_enter Tryd.func46, Tryd.ntmps46
    go_wp2_with fail
    go_ret
    exact ⟨rfl, 0, rfl⟩

/-- Whether a number has the order Q, where Q is a prime. -/
def genB (p : Pm) (x : Nat) : Bool := isB p x && (x != 1)
set_option maxHeartbeats 1000000 in
theorem gen_any (p : Pm) (x : Nat) (hx : x < 18446744073709551616) (hq : p.Q < 18446744073709551616) : RetB 35 #[.agg p.cells, .int .u64 (x : Int)] (.bool (genB p x)) := by
  intro w
  have HB : Hid (In1 w w.heap.size p (w.alloc (.cells p.cells 25))) := Lib.hid (In1.new w p)
  have HI := is_any p x hx hq
  unfold genB
  clear hx hq
  cases hi : isB p x
  · rw [hi] at HI
    clear hi
    generalize hg : w.heap.size = g at HB
    have HE := Lib.hid hg
    clear hg
    rw [Bool.false_and]
    go_enter Tryd.func35, Tryd.ntmps35
    go_upto_region 1 with fail
    rw [HE.out]
    generalize w.alloc (.cells p.cells 25) = w1 at *
    go_wp2_with (first | (refine wpList_row_if ?_ 25 _ rfl g rfl 25 p.cells (0, 0) _ HB.out.box Tryd.underlying25 rfl (by kernel_rfl) ?_; first | rfl | (simp [Region.wanted, yielded]; done)) | (go_at_call 14; (with_reducible refine (HI.at _).mono ?_); rintro e w1 ⟨rfl, hb⟩; replace HB := Lib.hid (HB.out.step hb); clear hb))
    go_ret
    exact ⟨rfl, HE.out ▸ HB.out.below⟩
  · rw [hi] at HI
    clear hi
    generalize hg : w.heap.size = g at HB
    have HE := Lib.hid hg
    clear hg
    rw [Bool.true_and]
    by_cases h1 : x = 1
    · have e1 : ((x : Int) != 1) = false := by simp; omega
      have e2 : ((x : Int) == 1) = true := by simp; omega
      have HT : Hid ((x != 1) = false) := Lib.hid (by simp [h1])
      clear h1
      rw [HT.out]
      go_enter Tryd.func35, Tryd.ntmps35
      go_upto_region 1 with fail
      rw [HE.out]
      generalize w.alloc (.cells p.cells 25) = w1 at *
      go_wp2_with (first | (refine wpList_row_if ?_ 25 _ rfl g rfl 25 p.cells (0, 0) _ HB.out.box Tryd.underlying25 rfl (by kernel_rfl) ?_; first | rfl | (simp [Region.wanted, yielded]; done)) | (go_at_call 14; (with_reducible refine (HI.at _).mono ?_); rintro e w1 ⟨rfl, hb⟩; replace HB := Lib.hid (HB.out.step hb); clear hb))
      go_ret
      exact ⟨rfl, HE.out ▸ HB.out.below⟩
    · have e1 : ((x : Int) != 1) = true := by simp; omega
      have e2 : ((x : Int) == 1) = false := by simp; omega
      have HT : Hid ((x != 1) = true) := Lib.hid (by simp [h1])
      clear h1
      rw [HT.out]
      go_enter Tryd.func35, Tryd.ntmps35
      go_upto_region 1 with fail
      rw [HE.out]
      generalize w.alloc (.cells p.cells 25) = w1 at *
      go_wp2_with (first | (refine wpList_row_if ?_ 25 _ rfl g rfl 25 p.cells (0, 0) _ HB.out.box Tryd.underlying25 rfl (by kernel_rfl) ?_; first | rfl | (simp [Region.wanted, yielded]; done)) | (go_at_call 14; (with_reducible refine (HI.at _).mono ?_); rintro e w1 ⟨rfl, hb⟩; replace HB := Lib.hid (HB.out.step hb); clear hb))
      go_ret
      exact ⟨rfl, HE.out ▸ HB.out.below⟩

/-- What a condition answers in a world where the parameters lie in the block that it was handed. -/
def RetG (f : FuncId) (p : Pm) (b : Bool) : Prop := ∀ (W : World) (g : Nat), Box W g p → Laid W → Calls Tryd.prog f #[.pointer (some ⟨g, 0, none⟩)] W fun e w' => e = .returned (.bool b) ∧ Below W.heap.size W w'
theorem RetG.at {f : FuncId} {p : Pm} {b : Bool} (h : RetG f p b) {w0 W : World} {g : Nat} (hi : In w0 g p W) : Calls Tryd.prog f #[.pointer (some ⟨g, 0, none⟩)] W fun e w' => e = .returned (.bool b) ∧ Below W.heap.size W w' := h W g hi.box hi.laid
theorem below_drewN0 (w : World) (n : Nat) : Below w.heap.size w (w.drewN n) := below_drewN' w n _

set_option maxHeartbeats 400000 in
theorem cond0 (p : Pm) : RetG 30 p (MM.primeOf p.P) := by
  intro w g hbox hlaid
  have HX := Lib.hid hbox
  have HL := Lib.hid hlaid
  clear hbox hlaid
  have q0 : w.cell? ⟨g, 0, none⟩ = some (.int .u64 (p.P : Int)) := HX.out.cell 0
  have HC := ret_prime p.P (MM.primeOf p.P) rfl
  go_enter Tryd.func30, Tryd.ntmps30
  go_wp2_with (go_at_call 31; (with_reducible refine (HC.at _ HL.out).mono ?_); rintro e w1 ⟨rfl, nd, rfl⟩)
  go_ret
  exact ⟨rfl, below_drewN0 _ _⟩

set_option maxHeartbeats 400000 in
theorem cond1 (p : Pm) : RetG 32 p (MM.primeOf p.Q) := by
  intro w g hbox hlaid
  have HX := Lib.hid hbox
  have HL := Lib.hid hlaid
  clear hbox hlaid
  have q1 : w.cell? ⟨g, 1, none⟩ = some (.int .u64 (p.Q : Int)) := HX.out.cell 1
  have HC := ret_prime p.Q (MM.primeOf p.Q) rfl
  go_enter Tryd.func32, Tryd.ntmps32
  go_wp2_with (go_at_call 31; (with_reducible refine (HC.at _ HL.out).mono ?_); rintro e w1 ⟨rfl, nd, rfl⟩)
  go_ret
  exact ⟨rfl, below_drewN0 _ _⟩

set_option maxHeartbeats 400000 in
theorem cond2 (p : Pm) (h0 : 2 ≤ p.P) (h1 : 2 ≤ p.Q) (h2 : p.P < 18446744073709551616) : RetG 33 p ((((p.P - 1 : Nat) : Int) % (p.Q : Int) == 0)) := by
  intro w g hbox hlaid
  have HX := Lib.hid hbox
  have HL := Lib.hid hlaid
  clear hbox hlaid
  have q0 : w.cell? ⟨g, 0, none⟩ = some (.int .u64 (p.P : Int)) := HX.out.cell 0
  have q1 : w.cell? ⟨g, 1, none⟩ = some (.int .u64 (p.Q : Int)) := HX.out.cell 1
  have s1 : (p.P : Int) - 1 = ((p.P - 1 : Nat) : Int) := by omega
  have s2 : IntKind.u64.wrap ((p.P - 1 : Nat) : Int) = ((p.P - 1 : Nat) : Int) := wrapN _ (by omega)
  have s3 : p.Q ≠ 0 := by omega
  go_enter Tryd.func33, Tryd.ntmps33
  go_wp2_with fail
  go_ret
  exact ⟨rfl, Below.refl _ _⟩

set_option maxHeartbeats 400000 in
theorem cond3 (p : Pm) (hx : p.G < 18446744073709551616) (hq : p.Q < 18446744073709551616) : RetG 34 p (genB p p.G) := by
  intro w g hbox hlaid
  have HX := Lib.hid hbox
  have HL := Lib.hid hlaid
  clear hbox hlaid
  have q2 : w.cell? ⟨g, 2, none⟩ = some (.int .u64 (p.G : Int)) := HX.out.cell 2
  have HC := gen_any p p.G hx hq
  go_enter Tryd.func34, Tryd.ntmps34
  go_wp2_with (first | (refine wpList_row_if ?_ 25 _ rfl g rfl 25 p.cells (0, 0) _ HX.out Tryd.underlying25 rfl (by kernel_rfl) ?_; first | rfl | (simp [Region.wanted, yielded]; done)) | (go_at_call 35; (with_reducible refine (HC.at _).mono ?_); rintro e w1 ⟨rfl, hb⟩))
  go_ret
  exact ⟨rfl, hb⟩

set_option maxHeartbeats 400000 in
theorem cond4 (p : Pm) (hx : p.H < 18446744073709551616) (hq : p.Q < 18446744073709551616) : RetG 36 p (genB p p.H) := by
  intro w g hbox hlaid
  have HX := Lib.hid hbox
  have HL := Lib.hid hlaid
  clear hbox hlaid
  have q3 : w.cell? ⟨g, 3, none⟩ = some (.int .u64 (p.H : Int)) := HX.out.cell 3
  have HC := gen_any p p.H hx hq
  go_enter Tryd.func36, Tryd.ntmps36
  go_wp2_with (first | (refine wpList_row_if ?_ 25 _ rfl g rfl 25 p.cells (0, 0) _ HX.out Tryd.underlying25 rfl (by kernel_rfl) ?_; first | rfl | (simp [Region.wanted, yielded]; done)) | (go_at_call 35; (with_reducible refine (HC.at _).mono ?_); rintro e w1 ⟨rfl, hb⟩))
  go_ret
  exact ⟨rfl, hb⟩

set_option maxHeartbeats 400000 in
theorem cond5 (p : Pm) : RetG 37 p (btw p.T 1 2) := by
  intro w g hbox hlaid
  have HX := Lib.hid hbox
  have HL := Lib.hid hlaid
  clear hbox hlaid
  have q6 : w.cell? ⟨g, 6, none⟩ = some (.int .i64 p.T) := HX.out.cell 6
  go_enter Tryd.func37, Tryd.ntmps37
  go_wp2_with (go_at_call 38; (with_reducible refine ((betI _ _ _).at _).mono ?_); rintro e w1 ⟨rfl, nd, rfl⟩)
  go_ret
  exact ⟨rfl, below_drewN0 _ _⟩

set_option maxHeartbeats 400000 in
theorem cond6 (p : Pm) : RetG 39 p (btw p.N (wrap64 (wrap64 (3 * p.T) + 1)) 7) := by
  intro w g hbox hlaid
  have HX := Lib.hid hbox
  have HL := Lib.hid hlaid
  clear hbox hlaid
  have q5 : w.cell? ⟨g, 5, none⟩ = some (.int .i64 p.N) := HX.out.cell 5
  have q6 : w.cell? ⟨g, 6, none⟩ = some (.int .i64 p.T) := HX.out.cell 6
  go_enter Tryd.func39, Tryd.ntmps39
  go_wp2_with (go_at_call 38; (with_reducible refine ((betI _ _ _).at _).mono ?_); rintro e w1 ⟨rfl, nd, rfl⟩)
  go_ret
  exact ⟨rfl, below_drewN0 _ _⟩

set_option maxHeartbeats 400000 in
theorem cond7 (p : Pm) : RetG 40 p (decide (IntKind.u64.wrap p.N < (p.Q : Int))) := by
  intro w g hbox hlaid
  have HX := Lib.hid hbox
  have HL := Lib.hid hlaid
  clear hbox hlaid
  have q5 : w.cell? ⟨g, 5, none⟩ = some (.int .i64 p.N) := HX.out.cell 5
  have q1 : w.cell? ⟨g, 1, none⟩ = some (.int .u64 (p.Q : Int)) := HX.out.cell 1
  go_enter Tryd.func40, Tryd.ntmps40
  go_wp2_with fail
  go_ret
  exact ⟨rfl, Below.refl _ _⟩

set_option maxHeartbeats 400000 in
theorem cond8 (p : Pm) : RetG 41 p (btw p.Nodes p.N 8) := by
  intro w g hbox hlaid
  have HX := Lib.hid hbox
  have HL := Lib.hid hlaid
  clear hbox hlaid
  have q4 : w.cell? ⟨g, 4, none⟩ = some (.int .i64 p.Nodes) := HX.out.cell 4
  have q5 : w.cell? ⟨g, 5, none⟩ = some (.int .i64 p.N) := HX.out.cell 5
  go_enter Tryd.func41, Tryd.ntmps41
  go_wp2_with (go_at_call 38; (with_reducible refine ((betI _ _ _).at _).mono ?_); rintro e w1 ⟨rfl, nd, rfl⟩)
  go_ret
  exact ⟨rfl, below_drewN0 _ _⟩

set_option maxHeartbeats 400000 in
theorem cond9 (p : Pm) : RetG 42 p (btw p.K 1 2) := by
  intro w g hbox hlaid
  have HX := Lib.hid hbox
  have HL := Lib.hid hlaid
  clear hbox hlaid
  have q7 : w.cell? ⟨g, 7, none⟩ = some (.int .i64 p.K) := HX.out.cell 7
  go_enter Tryd.func42, Tryd.ntmps42
  go_wp2_with (go_at_call 38; (with_reducible refine ((betI _ _ _).at _).mono ?_); rintro e w1 ⟨rfl, nd, rfl⟩)
  go_ret
  exact ⟨rfl, below_drewN0 _ _⟩

set_option maxHeartbeats 400000 in
theorem cond10 (p : Pm) : RetG 43 p (btw p.D 1 4) := by
  intro w g hbox hlaid
  have HX := Lib.hid hbox
  have HL := Lib.hid hlaid
  clear hbox hlaid
  have q8 : w.cell? ⟨g, 8, none⟩ = some (.int .i64 p.D) := HX.out.cell 8
  go_enter Tryd.func43, Tryd.ntmps43
  go_wp2_with (go_at_call 38; (with_reducible refine ((betI _ _ _).at _).mono ?_); rintro e w1 ⟨rfl, nd, rfl⟩)
  go_ret
  exact ⟨rfl, below_drewN0 _ _⟩

set_option maxHeartbeats 400000 in
theorem cond11 (p : Pm) : RetG 44 p (btw p.R 1 p.D) := by
  intro w g hbox hlaid
  have HX := Lib.hid hbox
  have HL := Lib.hid hlaid
  clear hbox hlaid
  have q9 : w.cell? ⟨g, 9, none⟩ = some (.int .i64 p.R) := HX.out.cell 9
  have q8 : w.cell? ⟨g, 8, none⟩ = some (.int .i64 p.D) := HX.out.cell 8
  go_enter Tryd.func44, Tryd.ntmps44
  go_wp2_with (go_at_call 38; (with_reducible refine ((betI _ _ _).at _).mono ?_); rintro e w1 ⟨rfl, nd, rfl⟩)
  go_ret
  exact ⟨rfl, below_drewN0 _ _⟩

set_option maxHeartbeats 400000 in
theorem cond12 (p : Pm) : RetG 45 p (btw p.M 1 1048576) := by
  intro w g hbox hlaid
  have HX := Lib.hid hbox
  have HL := Lib.hid hlaid
  clear hbox hlaid
  have q10 : w.cell? ⟨g, 10, none⟩ = some (.int .i64 p.M) := HX.out.cell 10
  go_enter Tryd.func45, Tryd.ntmps45
  go_wp2_with (go_at_call 46; (with_reducible refine ((betL _ _ _).at _).mono ?_); rintro e w1 ⟨rfl, nd, rfl⟩)
  go_ret
  exact ⟨rfl, below_drewN0 _ _⟩

set_option maxHeartbeats 400000 in
theorem cond13 (p : Pm) : RetG 47 p (btw p.X 1 1048576) := by
  intro w g hbox hlaid
  have HX := Lib.hid hbox
  have HL := Lib.hid hlaid
  clear hbox hlaid
  have q11 : w.cell? ⟨g, 11, none⟩ = some (.int .i64 p.X) := HX.out.cell 11
  go_enter Tryd.func47, Tryd.ntmps47
  go_wp2_with (go_at_call 46; (with_reducible refine ((betL _ _ _).at _).mono ?_); rintro e w1 ⟨rfl, nd, rfl⟩)
  go_ret
  exact ⟨rfl, below_drewN0 _ _⟩

set_option maxHeartbeats 400000 in
theorem cond14 (p : Pm) : RetG 48 p (decide (IntKind.u64.wrap (2 * IntKind.u64.wrap (wrap64 (wrap64 (wrap64 (p.D * p.M) * p.X) + p.M))) < (p.Q : Int))) := by
  intro w g hbox hlaid
  have HX := Lib.hid hbox
  have HL := Lib.hid hlaid
  clear hbox hlaid
  have q8 : w.cell? ⟨g, 8, none⟩ = some (.int .i64 p.D) := HX.out.cell 8
  have q10 : w.cell? ⟨g, 10, none⟩ = some (.int .i64 p.M) := HX.out.cell 10
  have q11 : w.cell? ⟨g, 11, none⟩ = some (.int .i64 p.X) := HX.out.cell 11
  have q1 : w.cell? ⟨g, 1, none⟩ = some (.int .u64 (p.Q : Int)) := HX.out.cell 1
  go_enter Tryd.func48, Tryd.ntmps48
  go_wp2_with fail
  go_ret
  exact ⟨rfl, Below.refl _ _⟩

end M
end Go.Proofs.YtmeaiindbkkkiaaDoor
