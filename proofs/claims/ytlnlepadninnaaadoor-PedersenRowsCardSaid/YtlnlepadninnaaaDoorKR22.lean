/- The texts GrpW2, GrpW4, ModMath6, PedMath, one behind the other. -/
import Derived.Test.YtlnlepadninnaaaDoorKR4
import Derived.Test.YtlnlepadninnaaaDoorKR12
import Derived.Test.YtlnlepadninnaaaDoorKR5
import Derived.Lib.TrailingZeros
import Derived.Test.YtlnlepadninnaaaDoorKR14
import Derived.Test.YtlnlepadninnaaaDoorKR18
/- The walks of group.between, generates, and of each condition on parameters: what each answers. -/
namespace Go.Proofs.YtlnlepadninnaaaDoor
open Go Go.RowKit Go.Lib
namespace M
/-- Whether a number lies between two others. -/
def btw (x lo hi : Int) : Bool := decide (lo ≤ x) && decide (x ≤ hi)

set_option maxHeartbeats 400000 in
theorem betI (x lo hi : Int) : Ret 53 #[.int .i64 x, .int .i64 lo, .int .i64 hi] (.bool (btw x lo hi)) := by
  intro w
  by_cases h0 : lo ≤ x
  · by_cases h1 : x ≤ hi
    · have HT : Hid (btw x lo hi = true) := Lib.hid (by simp [btw, h0, h1])
      rw [HT.out]
      go_enter Tryd.func53, Tryd.ntmps53
      go_wp2_with fail
      go_ret
      exact ⟨rfl, 0, rfl⟩
    · have HT : Hid (btw x lo hi = false) := Lib.hid (by simp [btw, h1])
      rw [HT.out]
      go_enter Tryd.func53, Tryd.ntmps53
      go_wp2_with fail
      go_ret
      exact ⟨rfl, 0, rfl⟩
  · have HT : Hid (btw x lo hi = false) := Lib.hid (by simp [btw, h0])
    rw [HT.out]
    go_enter Tryd.func53, Tryd.ntmps53
    go_wp2_with fail
    go_ret
    exact ⟨rfl, 0, rfl⟩

set_option maxHeartbeats 400000 in
theorem betL (x lo hi : Int) : Ret 61 #[.int .i64 x, .int .i64 lo, .int .i64 hi] (.bool (btw x lo hi)) := by
  intro w
  by_cases h0 : lo ≤ x
  · by_cases h1 : x ≤ hi
    · have HT : Hid (btw x lo hi = true) := Lib.hid (by simp [btw, h0, h1])
      rw [HT.out]
      go_enter Tryd.func61, Tryd.ntmps61
      go_wp2_with fail
      go_ret
      exact ⟨rfl, 0, rfl⟩
    · have HT : Hid (btw x lo hi = false) := Lib.hid (by simp [btw, h1])
      rw [HT.out]
      go_enter Tryd.func61, Tryd.ntmps61
      go_wp2_with fail
      go_ret
      exact ⟨rfl, 0, rfl⟩
  · have HT : Hid (btw x lo hi = false) := Lib.hid (by simp [btw, h0])
    rw [HT.out]
    go_enter Tryd.func61, Tryd.ntmps61
    go_wp2_with fail
    go_ret
    exact ⟨rfl, 0, rfl⟩

/-- Whether a number has the order Q, where Q is a prime. -/
def genB (p : Pm) (x : Nat) : Bool := isB p x && (x != 1)
set_option maxHeartbeats 1000000 in
theorem gen_any (p : Pm) (x : Nat) (hx : x < 18446744073709551616) (hq : p.Q < 18446744073709551616) : RetB 50 #[.agg p.cells, .int .u64 (x : Int)] (.bool (genB p x)) := by
  intro w
  have HB : Hid (In1 w w.heap.size p (w.alloc (.cells p.cells 24))) := Lib.hid (In1.new w p)
  have HI := is_any p x hx hq
  unfold genB
  clear hx hq
  cases hi : isB p x
  · rw [hi] at HI
    clear hi
    generalize hg : w.heap.size = g at HB
    have HE := Lib.hid hg
    clear hg
    rw [Bool.false_and]
    go_enter Tryd.func50, Tryd.ntmps50
    go_upto_region 1 with fail
    rw [HE.out]
    generalize w.alloc (.cells p.cells 24) = w1 at *
    go_wp2_with (first | (refine wpList_row_if ?_ 24 _ rfl g rfl 24 p.cells (0, 0) _ HB.out.box Tryd.underlying24 rfl (by kernel_rfl) ?_; first | rfl | (simp [Region.wanted, yielded]; done)) | (go_at_call 69; (with_reducible refine (HI.at _).mono ?_); rintro e w1 ⟨rfl, hb⟩; replace HB := Lib.hid (HB.out.step hb); clear hb))
    go_ret
    exact ⟨rfl, HE.out ▸ HB.out.below⟩
  · rw [hi] at HI
    clear hi
    generalize hg : w.heap.size = g at HB
    have HE := Lib.hid hg
    clear hg
    rw [Bool.true_and]
    by_cases h1 : x = 1
    · have e1 : ((x : Int) != 1) = false := by simp; omega
      have e2 : ((x : Int) == 1) = true := by simp; omega
      have HT : Hid ((x != 1) = false) := Lib.hid (by simp [h1])
      clear h1
      rw [HT.out]
      go_enter Tryd.func50, Tryd.ntmps50
      go_upto_region 1 with fail
      rw [HE.out]
      generalize w.alloc (.cells p.cells 24) = w1 at *
      go_wp2_with (first | (refine wpList_row_if ?_ 24 _ rfl g rfl 24 p.cells (0, 0) _ HB.out.box Tryd.underlying24 rfl (by kernel_rfl) ?_; first | rfl | (simp [Region.wanted, yielded]; done)) | (go_at_call 69; (with_reducible refine (HI.at _).mono ?_); rintro e w1 ⟨rfl, hb⟩; replace HB := Lib.hid (HB.out.step hb); clear hb))
      go_ret
      exact ⟨rfl, HE.out ▸ HB.out.below⟩
    · have e1 : ((x : Int) != 1) = true := by simp; omega
      have e2 : ((x : Int) == 1) = false := by simp; omega
      have HT : Hid ((x != 1) = true) := Lib.hid (by simp [h1])
      clear h1
      rw [HT.out]
      go_enter Tryd.func50, Tryd.ntmps50
      go_upto_region 1 with fail
      rw [HE.out]
      generalize w.alloc (.cells p.cells 24) = w1 at *
      go_wp2_with (first | (refine wpList_row_if ?_ 24 _ rfl g rfl 24 p.cells (0, 0) _ HB.out.box Tryd.underlying24 rfl (by kernel_rfl) ?_; first | rfl | (simp [Region.wanted, yielded]; done)) | (go_at_call 69; (with_reducible refine (HI.at _).mono ?_); rintro e w1 ⟨rfl, hb⟩; replace HB := Lib.hid (HB.out.step hb); clear hb))
      go_ret
      exact ⟨rfl, HE.out ▸ HB.out.below⟩

/-- What a condition answers in a world where the parameters lie in the block that it was handed. -/
def RetG (f : FuncId) (p : Pm) (b : Bool) : Prop := ∀ (W : World) (g : Nat), PBox W g p → Laid W → Calls Tryd.prog f #[.pointer (some ⟨g, 0, none⟩)] W fun e w' => e = .returned (.bool b) ∧ Below W.heap.size W w'
theorem RetG.at {f : FuncId} {p : Pm} {b : Bool} (h : RetG f p b) {w0 W : World} {g : Nat} (hi : In w0 g p W) : Calls Tryd.prog f #[.pointer (some ⟨g, 0, none⟩)] W fun e w' => e = .returned (.bool b) ∧ Below W.heap.size W w' := h W g hi.box hi.laid
theorem below_drewN0 (w : World) (n : Nat) : Below w.heap.size w (w.drewN n) := below_drewN' w n _

set_option maxHeartbeats 400000 in
theorem cond0 (p : Pm) : RetG 45 p (MM.primeOf p.P) := by
  intro w g hbox hlaid
  have HX := Lib.hid hbox
  have HL := Lib.hid hlaid
  clear hbox hlaid
  have q0 : w.cell? ⟨g, 0, none⟩ = some (.int .u64 (p.P : Int)) := HX.out.cell 0
  have HC := ret_prime p.P (MM.primeOf p.P) rfl
  go_enter Tryd.func45, Tryd.ntmps45
  go_wp2_with (go_at_call 46; (with_reducible refine (HC.at _ HL.out).mono ?_); rintro e w1 ⟨rfl, nd, rfl⟩)
  go_ret
  exact ⟨rfl, below_drewN0 _ _⟩

set_option maxHeartbeats 400000 in
theorem cond1 (p : Pm) : RetG 47 p (MM.primeOf p.Q) := by
  intro w g hbox hlaid
  have HX := Lib.hid hbox
  have HL := Lib.hid hlaid
  clear hbox hlaid
  have q1 : w.cell? ⟨g, 1, none⟩ = some (.int .u64 (p.Q : Int)) := HX.out.cell 1
  have HC := ret_prime p.Q (MM.primeOf p.Q) rfl
  go_enter Tryd.func47, Tryd.ntmps47
  go_wp2_with (go_at_call 46; (with_reducible refine (HC.at _ HL.out).mono ?_); rintro e w1 ⟨rfl, nd, rfl⟩)
  go_ret
  exact ⟨rfl, below_drewN0 _ _⟩

set_option maxHeartbeats 400000 in
theorem cond2 (p : Pm) (h0 : 2 ≤ p.P) (h1 : 2 ≤ p.Q) (h2 : p.P < 18446744073709551616) : RetG 48 p ((((p.P - 1 : Nat) : Int) % (p.Q : Int) == 0)) := by
  intro w g hbox hlaid
  have HX := Lib.hid hbox
  have HL := Lib.hid hlaid
  clear hbox hlaid
  have q0 : w.cell? ⟨g, 0, none⟩ = some (.int .u64 (p.P : Int)) := HX.out.cell 0
  have q1 : w.cell? ⟨g, 1, none⟩ = some (.int .u64 (p.Q : Int)) := HX.out.cell 1
  have s1 : (p.P : Int) - 1 = ((p.P - 1 : Nat) : Int) := by omega
  have s2 : IntKind.u64.wrap ((p.P - 1 : Nat) : Int) = ((p.P - 1 : Nat) : Int) := wrapN _ (by omega)
  have s3 : p.Q ≠ 0 := by omega
  go_enter Tryd.func48, Tryd.ntmps48
  go_wp2_with fail
  go_ret
  exact ⟨rfl, Below.refl _ _⟩

set_option maxHeartbeats 400000 in
theorem cond3 (p : Pm) (hx : p.G < 18446744073709551616) (hq : p.Q < 18446744073709551616) : RetG 49 p (genB p p.G) := by
  intro w g hbox hlaid
  have HX := Lib.hid hbox
  have HL := Lib.hid hlaid
  clear hbox hlaid
  have q2 : w.cell? ⟨g, 2, none⟩ = some (.int .u64 (p.G : Int)) := HX.out.cell 2
  have HC := gen_any p p.G hx hq
  go_enter Tryd.func49, Tryd.ntmps49
  go_wp2_with (first | (refine wpList_row_if ?_ 24 _ rfl g rfl 24 p.cells (0, 0) _ HX.out Tryd.underlying24 rfl (by kernel_rfl) ?_; first | rfl | (simp [Region.wanted, yielded]; done)) | (go_at_call 50; (with_reducible refine (HC.at _).mono ?_); rintro e w1 ⟨rfl, hb⟩))
  go_ret
  exact ⟨rfl, hb⟩

set_option maxHeartbeats 400000 in
theorem cond4 (p : Pm) (hx : p.H < 18446744073709551616) (hq : p.Q < 18446744073709551616) : RetG 51 p (genB p p.H) := by
  intro w g hbox hlaid
  have HX := Lib.hid hbox
  have HL := Lib.hid hlaid
  clear hbox hlaid
  have q3 : w.cell? ⟨g, 3, none⟩ = some (.int .u64 (p.H : Int)) := HX.out.cell 3
  have HC := gen_any p p.H hx hq
  go_enter Tryd.func51, Tryd.ntmps51
  go_wp2_with (first | (refine wpList_row_if ?_ 24 _ rfl g rfl 24 p.cells (0, 0) _ HX.out Tryd.underlying24 rfl (by kernel_rfl) ?_; first | rfl | (simp [Region.wanted, yielded]; done)) | (go_at_call 50; (with_reducible refine (HC.at _).mono ?_); rintro e w1 ⟨rfl, hb⟩))
  go_ret
  exact ⟨rfl, hb⟩

set_option maxHeartbeats 400000 in
theorem cond5 (p : Pm) : RetG 52 p (btw p.T 1 2) := by
  intro w g hbox hlaid
  have HX := Lib.hid hbox
  have HL := Lib.hid hlaid
  clear hbox hlaid
  have q6 : w.cell? ⟨g, 6, none⟩ = some (.int .i64 p.T) := HX.out.cell 6
  go_enter Tryd.func52, Tryd.ntmps52
  go_wp2_with (go_at_call 53; (with_reducible refine ((betI _ _ _).at _).mono ?_); rintro e w1 ⟨rfl, nd, rfl⟩)
  go_ret
  exact ⟨rfl, below_drewN0 _ _⟩

set_option maxHeartbeats 400000 in
theorem cond6 (p : Pm) : RetG 54 p (btw p.N (wrap64 (wrap64 (3 * p.T) + 1)) 7) := by
  intro w g hbox hlaid
  have HX := Lib.hid hbox
  have HL := Lib.hid hlaid
  clear hbox hlaid
  have q5 : w.cell? ⟨g, 5, none⟩ = some (.int .i64 p.N) := HX.out.cell 5
  have q6 : w.cell? ⟨g, 6, none⟩ = some (.int .i64 p.T) := HX.out.cell 6
  go_enter Tryd.func54, Tryd.ntmps54
  go_wp2_with (go_at_call 53; (with_reducible refine ((betI _ _ _).at _).mono ?_); rintro e w1 ⟨rfl, nd, rfl⟩)
  go_ret
  exact ⟨rfl, below_drewN0 _ _⟩

set_option maxHeartbeats 400000 in
theorem cond7 (p : Pm) : RetG 55 p (decide (IntKind.u64.wrap p.N < (p.Q : Int))) := by
  intro w g hbox hlaid
  have HX := Lib.hid hbox
  have HL := Lib.hid hlaid
  clear hbox hlaid
  have q5 : w.cell? ⟨g, 5, none⟩ = some (.int .i64 p.N) := HX.out.cell 5
  have q1 : w.cell? ⟨g, 1, none⟩ = some (.int .u64 (p.Q : Int)) := HX.out.cell 1
  go_enter Tryd.func55, Tryd.ntmps55
  go_wp2_with fail
  go_ret
  exact ⟨rfl, Below.refl _ _⟩

set_option maxHeartbeats 400000 in
theorem cond8 (p : Pm) : RetG 56 p (btw p.Nodes p.N 8) := by
  intro w g hbox hlaid
  have HX := Lib.hid hbox
  have HL := Lib.hid hlaid
  clear hbox hlaid
  have q4 : w.cell? ⟨g, 4, none⟩ = some (.int .i64 p.Nodes) := HX.out.cell 4
  have q5 : w.cell? ⟨g, 5, none⟩ = some (.int .i64 p.N) := HX.out.cell 5
  go_enter Tryd.func56, Tryd.ntmps56
  go_wp2_with (go_at_call 53; (with_reducible refine ((betI _ _ _).at _).mono ?_); rintro e w1 ⟨rfl, nd, rfl⟩)
  go_ret
  exact ⟨rfl, below_drewN0 _ _⟩

set_option maxHeartbeats 400000 in
theorem cond9 (p : Pm) : RetG 57 p (btw p.K 1 2) := by
  intro w g hbox hlaid
  have HX := Lib.hid hbox
  have HL := Lib.hid hlaid
  clear hbox hlaid
  have q7 : w.cell? ⟨g, 7, none⟩ = some (.int .i64 p.K) := HX.out.cell 7
  go_enter Tryd.func57, Tryd.ntmps57
  go_wp2_with (go_at_call 53; (with_reducible refine ((betI _ _ _).at _).mono ?_); rintro e w1 ⟨rfl, nd, rfl⟩)
  go_ret
  exact ⟨rfl, below_drewN0 _ _⟩

set_option maxHeartbeats 400000 in
theorem cond10 (p : Pm) : RetG 58 p (btw p.D 1 4) := by
  intro w g hbox hlaid
  have HX := Lib.hid hbox
  have HL := Lib.hid hlaid
  clear hbox hlaid
  have q8 : w.cell? ⟨g, 8, none⟩ = some (.int .i64 p.D) := HX.out.cell 8
  go_enter Tryd.func58, Tryd.ntmps58
  go_wp2_with (go_at_call 53; (with_reducible refine ((betI _ _ _).at _).mono ?_); rintro e w1 ⟨rfl, nd, rfl⟩)
  go_ret
  exact ⟨rfl, below_drewN0 _ _⟩

set_option maxHeartbeats 400000 in
theorem cond11 (p : Pm) : RetG 59 p (btw p.R 1 p.D) := by
  intro w g hbox hlaid
  have HX := Lib.hid hbox
  have HL := Lib.hid hlaid
  clear hbox hlaid
  have q9 : w.cell? ⟨g, 9, none⟩ = some (.int .i64 p.R) := HX.out.cell 9
  have q8 : w.cell? ⟨g, 8, none⟩ = some (.int .i64 p.D) := HX.out.cell 8
  go_enter Tryd.func59, Tryd.ntmps59
  go_wp2_with (go_at_call 53; (with_reducible refine ((betI _ _ _).at _).mono ?_); rintro e w1 ⟨rfl, nd, rfl⟩)
  go_ret
  exact ⟨rfl, below_drewN0 _ _⟩

set_option maxHeartbeats 400000 in
theorem cond12 (p : Pm) : RetG 60 p (btw p.M 1 1048576) := by
  intro w g hbox hlaid
  have HX := Lib.hid hbox
  have HL := Lib.hid hlaid
  clear hbox hlaid
  have q10 : w.cell? ⟨g, 10, none⟩ = some (.int .i64 p.M) := HX.out.cell 10
  go_enter Tryd.func60, Tryd.ntmps60
  go_wp2_with (go_at_call 61; (with_reducible refine ((betL _ _ _).at _).mono ?_); rintro e w1 ⟨rfl, nd, rfl⟩)
  go_ret
  exact ⟨rfl, below_drewN0 _ _⟩

set_option maxHeartbeats 400000 in
theorem cond13 (p : Pm) : RetG 62 p (btw p.X 1 1048576) := by
  intro w g hbox hlaid
  have HX := Lib.hid hbox
  have HL := Lib.hid hlaid
  clear hbox hlaid
  have q11 : w.cell? ⟨g, 11, none⟩ = some (.int .i64 p.X) := HX.out.cell 11
  go_enter Tryd.func62, Tryd.ntmps62
  go_wp2_with (go_at_call 61; (with_reducible refine ((betL _ _ _).at _).mono ?_); rintro e w1 ⟨rfl, nd, rfl⟩)
  go_ret
  exact ⟨rfl, below_drewN0 _ _⟩

set_option maxHeartbeats 400000 in
theorem cond14 (p : Pm) : RetG 63 p (decide (IntKind.u64.wrap (2 * IntKind.u64.wrap (wrap64 (wrap64 (wrap64 (p.D * p.M) * p.X) + p.M))) < (p.Q : Int))) := by
  intro w g hbox hlaid
  have HX := Lib.hid hbox
  have HL := Lib.hid hlaid
  clear hbox hlaid
  have q8 : w.cell? ⟨g, 8, none⟩ = some (.int .i64 p.D) := HX.out.cell 8
  have q10 : w.cell? ⟨g, 10, none⟩ = some (.int .i64 p.M) := HX.out.cell 10
  have q11 : w.cell? ⟨g, 11, none⟩ = some (.int .i64 p.X) := HX.out.cell 11
  have q1 : w.cell? ⟨g, 1, none⟩ = some (.int .u64 (p.Q : Int)) := HX.out.cell 1
  go_enter Tryd.func63, Tryd.ntmps63
  go_wp2_with fail
  go_ret
  exact ⟨rfl, Below.refl _ _⟩

end M
end Go.Proofs.YtlnlepadninnaaaDoor
/- The walks of group.At at whatever row, of the conditions' row and of group.May: what each answers. -/
namespace Go.Proofs.YtlnlepadninnaaaDoor
open Go Go.RowKit Go.Lib
namespace M
/-- The conditions' row: what each closure is. -/
abbrev condCells (g : Nat) : Array Value := #[.func (.func 45) #[] #[.pointer (some ⟨g, 0, none⟩)], .func (.func 47) #[] #[.pointer (some ⟨g, 0, none⟩)], .func (.func 48) #[] #[.pointer (some ⟨g, 0, none⟩)], .func (.func 49) #[] #[.pointer (some ⟨g, 0, none⟩)], .func (.func 51) #[] #[.pointer (some ⟨g, 0, none⟩)], .func (.func 52) #[] #[.pointer (some ⟨g, 0, none⟩)], .func (.func 54) #[] #[.pointer (some ⟨g, 0, none⟩)], .func (.func 55) #[] #[.pointer (some ⟨g, 0, none⟩)], .func (.func 56) #[] #[.pointer (some ⟨g, 0, none⟩)], .func (.func 57) #[] #[.pointer (some ⟨g, 0, none⟩)], .func (.func 58) #[] #[.pointer (some ⟨g, 0, none⟩)], .func (.func 59) #[] #[.pointer (some ⟨g, 0, none⟩)], .func (.func 60) #[] #[.pointer (some ⟨g, 0, none⟩)], .func (.func 62) #[] #[.pointer (some ⟨g, 0, none⟩)], .func (.func 63) #[] #[.pointer (some ⟨g, 0, none⟩)]]
theorem makes (fn : Fn) (first cap : Array Value) (w : World) : (Instr.makeFunc fn first cap).run Tryd.prog w = .ok (.func fn first cap) w := rfl
set_option maxHeartbeats 400000 in
theorem conds_any (p : Pm) (w : World) : Calls Tryd.prog 27 #[.agg p.cells] w fun e w' =>
    e = .returned (.slice (some ⟨w.heap.size + 1, 0, none⟩) 15 15) ∧ (w.alloc (.cells p.cells 24)).alloc (.cells (condCells w.heap.size) 26) = w' := by
  go_enter Tryd.func27, Tryd.ntmps27
  go_wp2_with fail
  go_ret
  exact ⟨rfl, rfl⟩

/-- The conditions, by their places. -/
def condB (p : Pm) : Nat → Bool
  | 0 => MM.primeOf p.P
  | 1 => MM.primeOf p.Q
  | 2 => (((p.P - 1 : Nat) : Int) % (p.Q : Int) == 0)
  | 3 => genB p p.G
  | 4 => genB p p.H
  | 5 => btw p.T 1 2
  | 6 => btw p.N (wrap64 (wrap64 (3 * p.T) + 1)) 7
  | 7 => decide (IntKind.u64.wrap p.N < (p.Q : Int))
  | 8 => btw p.Nodes p.N 8
  | 9 => btw p.K 1 2
  | 10 => btw p.D 1 4
  | 11 => btw p.R 1 p.D
  | 12 => btw p.M 1 1048576
  | 13 => btw p.X 1 1048576
  | 14 => decide (IntKind.u64.wrap (2 * IntKind.u64.wrap (wrap64 (wrap64 (wrap64 (p.D * p.M) * p.X) + p.M))) < (p.Q : Int))
  | _ => true
/-- Whether parameters are valid, as the program asks it. -/
def mayB (p : Pm) : Bool := (List.range 15).all (condB p)
theorem mayB_false {p : Pm} {k : Nat} (hk : k < 15) (h : condB p k = false) : mayB p = false := by
  cases hm : mayB p
  · rfl
  · have h1 := List.all_eq_true.1 hm k (List.mem_range.2 hk)
    rw [h] at h1; cases h1
theorem mayB_true {p : Pm} (h : ∀ k, k < 15 → condB p k = true) : mayB p = true := List.all_eq_true.2 fun k hk => h k (List.mem_range.1 hk)
theorem primeOf_lt {n : Nat} (h : MM.primeOf n = true) : 2 ≤ n ∧ n ≤ 2305843009213693952 := by
  unfold MM.primeOf MM.primeB at h
  by_cases h1 : n < 2 ∨ 2305843009213693952 < n
  · rw [if_pos h1] at h; cases h
  · omega

theorem cond_all (p : Pm) (bP : p.P < 18446744073709551616) (bQ : p.Q < 18446744073709551616) (bG : p.G < 18446744073709551616) (bH : p.H < 18446744073709551616) (k : Nat) (hk : k < 15) (hold : ∀ j, j < k → condB p j = true) :
    ∃ f : Nat, (∀ g, (condCells g)[k]? = some (.func (.func f) #[] #[.pointer (some ⟨g, 0, none⟩)])) ∧ RetG f p (condB p k) ∧ ∀ (args : Array Value) (w : World), (callFunc f args).run Tryd.prog w = .ok (.enter f args) w := by
  match k, hk with
  | 0, _ => exact ⟨45, fun _ => rfl, cond0 p, Tryd.call45⟩
  | 1, _ => exact ⟨47, fun _ => rfl, cond1 p, Tryd.call47⟩
  | 2, _ => exact ⟨48, fun _ => rfl, cond2 p (primeOf_lt (hold 0 (by omega))).1 (primeOf_lt (hold 1 (by omega))).1 bP, Tryd.call48⟩
  | 3, _ => exact ⟨49, fun _ => rfl, cond3 p bG bQ, Tryd.call49⟩
  | 4, _ => exact ⟨51, fun _ => rfl, cond4 p bH bQ, Tryd.call51⟩
  | 5, _ => exact ⟨52, fun _ => rfl, cond5 p, Tryd.call52⟩
  | 6, _ => exact ⟨54, fun _ => rfl, cond6 p, Tryd.call54⟩
  | 7, _ => exact ⟨55, fun _ => rfl, cond7 p, Tryd.call55⟩
  | 8, _ => exact ⟨56, fun _ => rfl, cond8 p, Tryd.call56⟩
  | 9, _ => exact ⟨57, fun _ => rfl, cond9 p, Tryd.call57⟩
  | 10, _ => exact ⟨58, fun _ => rfl, cond10 p, Tryd.call58⟩
  | 11, _ => exact ⟨59, fun _ => rfl, cond11 p, Tryd.call59⟩
  | 12, _ => exact ⟨60, fun _ => rfl, cond12 p, Tryd.call60⟩
  | 13, _ => exact ⟨62, fun _ => rfl, cond13 p, Tryd.call62⟩
  | 14, _ => exact ⟨63, fun _ => rfl, cond14 p, Tryd.call63⟩
  | k + 15, h => exact absurd h (by omega)

/-- Where the conditions' row lies, and the parameters' box: what the loop of May keeps. -/
structure MayAt (w0 : World) (g : Nat) (p : Pm) (w : World) : Prop where
  inn : In w0 g p w
  row : w.heap[g + 1]? = some (.cells (condCells g) 26 (0, 0))
theorem MayAt.step {w0 w w' : World} {g : Nat} {p : Pm} (h : MayAt w0 g p w) (hb : Below w.heap.size w w') : MayAt w0 g p w' :=
  ⟨h.inn.step hb, (hb.block _ (row_lt h.row)).trans h.row⟩
set_option maxHeartbeats 2000000 in
set_option maxRecDepth 100000 in
theorem may_any (p : Pm) (bP : p.P < 18446744073709551616) (bQ : p.Q < 18446744073709551616) (bG : p.G < 18446744073709551616) (bH : p.H < 18446744073709551616) :
    RetBL 8 #[.agg p.cells] (.bool (mayB p)) := by
  intro w hl
  have HI0 : Hid (In w w.heap.size p (w.alloc (.cells p.cells 24))) := Lib.hid (In.new w p hl)
  have HC := conds_any p
  have HCA := Lib.hid (cond_all p bP bQ bG bH)
  clear hl bP bQ bG bH
  go_enter Tryd.func8, Tryd.ntmps8
  go_upto_region 1 with fail
  generalize hg0 : w.heap.size = g0 at HI0 ⊢
  have HE := Lib.hid hg0
  clear hg0
  generalize w.alloc (.cells p.cells 24) = w1 at *
  have HM : Hid (MayAt w w1.heap.size p ((w1.alloc (.cells p.cells 24)).alloc (.cells (condCells w1.heap.size) 26))) := Lib.hid
    ⟨⟨(PBox.new w1 p).below (below_box _ _), (HI0.out.alloc _).alloc _ |>.laid, ((HI0.out.alloc _).alloc _).below⟩, by have := heap_alloc_new (w1.alloc (.cells p.cells 24)) (.cells (condCells w1.heap.size) 26); simpa using this⟩
  go_upto_region 2 with (first | (refine wpList_row_if ?_ 24 _ rfl g0 rfl 24 p.cells (0, 0) _ HI0.out.box Tryd.underlying24 rfl (by kernel_rfl) ?_; first | rfl | (simp [Region.wanted, yielded]; done)) | (go_at_call 27; (with_reducible refine (HC _).mono ?_); rintro e w2 ⟨rfl, rfl⟩))
  generalize ((w1.alloc (.cells p.cells 24)).alloc (.cells (condCells w1.heap.size) 26)) = w2 at *
  generalize w1.heap.size = g at *
  go_loopw [8] (fun s8 wx => ∃ k : Nat, k ≤ 15 ∧ s8 = .int .i64 (k : Int) ∧ Hid (∀ j, j < k → condB p j = true) ∧ Hid (MayAt w g p wx)) (fun s8 _ => 15 - (RowKit.intOf s8).toNat)
  case atStart => exact ⟨0, by omega, rfl, Lib.hid (fun j h => absurd h (by omega)), HM⟩
  case round =>
    obtain ⟨k, hk, rfl, HO, HA⟩ := hrel
    rename_i wr
    clear HM HI0 HC
    by_cases hlt : k < 15
    · obtain ⟨f, hf, H, hen⟩ := HCA.out k hlt HO.out
      have hcell : wr.cell? ⟨g + 1, k, none⟩ = some (.func (.func f) #[] #[.pointer (some ⟨g, 0, none⟩)]) := (cell_of_row wr (g + 1) k _ _ _ HA.out.row).trans (hf g)
      clear hf HCA
      cases hcb : condB p k
      · rw [hcb] at H
        have HF := Lib.hid (mayB_false hlt hcb)
        clear hcb
        go_wp2_with fail
        (with_reducible refine (H.at HA.out.inn).mono ?_); rintro e w3 ⟨rfl, hb⟩; replace HA := Lib.hid (HA.out.step hb); clear hb
        go_wp2_with fail
        go_ret
        exact ⟨by rw [HF.out]; rfl, HE.out ▸ HA.out.inn.below⟩
      · rw [hcb] at H
        have HO2 : Hid (∀ j, j < k + 1 → condB p j = true) := Lib.hid fun j hj => by
          rcases Nat.lt_or_ge j k with h | h
          · exact HO.out j h
          · obtain rfl : j = k := by omega
            exact hcb
        clear hcb
        go_wp2_with fail
        (with_reducible refine (H.at HA.out.inn).mono ?_); rintro e w3 ⟨rfl, hb⟩; replace HA := Lib.hid (HA.out.step hb); clear hb
        go_wp2_with fail
        go_roundw
        case rel => exact ⟨k + 1, by omega, by go_num, HO2, HA⟩
        case measure => simp [RowKit.intOf]; omega
    · obtain rfl : k = 15 := by omega
      have HF := Lib.hid (mayB_true HO.out)
      clear hlt
      go_wp2_with fail
      go_ret
      exact ⟨by rw [HF.out]; rfl, HE.out ▸ HA.out.inn.below⟩

end M
end Go.Proofs.YtlnlepadninnaaaDoor
/- Powers and the test of primes reckoned by squaring, so that they can be computed for great numbers: the same as the plain ones. Nothing here speaks of the program. -/
namespace Go.Proofs.YtlnlepadninnaaaDoor
namespace MM

def pw (m : Nat) : Nat → Nat → Nat → Nat → Nat
  | 0, p, _, _ => p
  | k + 1, p, a, e => if e = 0 then p else pw m k (if e % 2 = 1 then p * a % m else p) (a * a % m) (e / 2)
theorem pw_eq {a0 e0 m : Nat} : ∀ k p a e, e < 2 ^ k → PowAt a0 e0 m p a e → pw m k p a e = powm a0 e0 m
  | 0, p, a, e, he, h => by
    obtain rfl : e = 0 := by simp at he; exact he
    exact h.done
  | k + 1, p, a, e, he, h => by
    unfold pw
    by_cases h0 : e = 0
    · subst h0; rw [if_pos rfl]; exact h.done
    · rw [if_neg h0]
      have h2 : e / 2 < 2 ^ k := by rw [Nat.pow_succ] at he; omega
      by_cases h1 : e % 2 = 1
      · rw [if_pos h1]; exact pw_eq k _ _ _ h2 (h.odd h1)
      · rw [if_neg h1]; exact pw_eq k _ _ _ h2 (h.even (by omega))
def powF (a e m : Nat) : Nat := pw m 64 (1 % m) a e
theorem powF_eq (a e m : Nat) (hm : 0 < m) (he : e < 18446744073709551616) : powm a e m = powF a e m := (pw_eq 64 _ _ _ he (PowAt.start a e m hm)).symm

def primeLF (n d t : Nat) : List Nat → Bool
  | [] => true
  | v :: l => if n % v = 0 then n == v else if powF v d n == 1 || passB n t (powF v d n) then primeLF n d t l else false
theorem primeLF_eq (n d t : Nat) (hn : 0 < n) (hd : d < 18446744073709551616) : ∀ l, primeL n d t l = primeLF n d t l
  | [] => rfl
  | v :: l => by unfold primeL primeLF; rw [powF_eq v d n hn hd, primeLF_eq n d t hn hd l]
def primeF (n : Nat) : Bool := if n < 2 ∨ 2305843009213693952 < n then false else primeLF n ((n - 1) / 2 ^ Lib.ctz 64 (n - 1)) (Lib.ctz 64 (n - 1)) wits
theorem primeF_eq (n : Nat) : primeB (Lib.ctz 64 (n - 1)) n = primeF n := by
  unfold primeB primeF
  by_cases h : n < 2 ∨ 2305843009213693952 < n
  · rw [if_pos h, if_pos h]
  · rw [if_neg h, if_neg h, primeLF_eq _ _ _ (by omega) (Nat.lt_of_le_of_lt (Nat.div_le_self _ _) (by omega))]
end MM
end Go.Proofs.YtlnlepadninnaaaDoor
/- The maths of layer 8's statements: commitments to rows and to values; what valid parameters keep to. -/
namespace Go.Proofs.YtlnlepadninnaaaDoor
open Go Go.RowKit Go.Lib
namespace MM
section
variable {P Q G H : Nat} (g : Grp P Q G H)
include g
theorem Grp.valN_eq (i : Nat) (s : Nat → Nat) : ∀ n, valN Q i s n = evalU s i Q n
  | 0 => rfl
  | n + 1 => by
    show addU (valN Q i s n) (mulU (s n) (MM.expN Q i n) Q) Q = addU (evalU s i Q n) (mulU (s n) (powU i n Q) Q) Q
    rw [Grp.valN_eq i s n, g.expN]
/-- The value of commitments is the one to the values. -/
theorem Grp.atCom (i : Nat) (s b : Nat → Nat) (z : Nat → Nat) (n : Nat) (hz : ∀ t, t < n → z t = comU P G H (s t) (b t)) : atN P Q i z n = comU P G H (evalU s i Q n) (evalU b i Q n) := by
  rw [atN_congr n hz, g.at, g.valN_eq, g.valN_eq]
theorem Grp.com00 : comU P G H 0 0 = addU 0 1 P := by rw [comU_of g.gP, addU_of g.gP, Nat.pow_zero, Nat.pow_zero]
/-- Commitments to a row are the row of the commitments. -/
theorem Grp.rowCom (x : Nat) (L : Nat → Nat) (a b F : Nat → Nat → Nat) (j : Nat) : ∀ n, (∀ i, i < n → j < L i → F i j = comU P G H (a i j) (b i j)) → rowT P Q x L F j n = comU P G H (rowP Q x L a j n) (rowP Q x L b j n)
  | 0, _ => g.com00.symm
  | n + 1, h => by
    unfold rowT rowP
    by_cases hj : j < L n
    · rw [if_pos hj, if_pos hj, if_pos hj, Grp.rowCom x L a b F j n fun i hi => h i (by omega), h n (by omega) hj, g.comFold, g.comSum]
    · rw [if_neg hj, if_neg hj, if_neg hj]
      exact Grp.rowCom x L a b F j n fun i hi => h i (by omega)
theorem Grp.comRoot (s b : Nat) : (comU P G H s b) ^ Q % P = 1 % P := by
  rw [comU_of g.gP, pow_mod', Nat.mul_pow, ← Nat.pow_mul, ← Nat.pow_mul, Nat.mul_comm s Q, Nat.mul_comm b Q, Nat.pow_mul, Nat.pow_mul, Nat.mul_mod, ← pow_mod' (G ^ Q), g.rG, ← pow_mod' (H ^ Q), g.rH, pow_mod', pow_mod', Nat.one_pow, Nat.one_pow, ← Nat.mul_mod, Nat.one_mul]
end
end MM
namespace M
theorem may_cond8 {p : Pm} (h : mayB p = true) (k : Nat) (hk : k < 15) : condB p k = true := List.all_eq_true.1 h k (List.mem_range.2 hk)
theorem genB_pow8 {p : Pm} {x : Nat} (h : genB p x = true) : MM.powU x p.Q p.P = 1 := by
  simp [genB, isB] at h
  exact h.1.2
theorem grp8 {p : Pm} (h : mayB p = true) : MM.Grp p.P p.Q p.G p.H := by
  have h0 := primeOf_lt (may_cond8 h 0 (by decide))
  have h1 := primeOf_lt (may_cond8 h 1 (by decide))
  have gP : MM.Good p.P := ⟨by omega, h0.2⟩
  have o : 1 % p.P = 1 := Nat.mod_eq_of_lt (by omega)
  refine ⟨gP, ⟨by omega, h1.2⟩, by omega, by omega, ?_, ?_⟩
  · rw [o, ← genB_pow8 (may_cond8 h 3 (by decide)), MM.powU_of gP]
  · rw [o, ← genB_pow8 (may_cond8 h 4 (by decide)), MM.powU_of gP]
theorem btw_iff {x a b : Int} (h : btw x a b = true) : a ≤ x ∧ x ≤ b := by
  simp [btw] at h
  omega
structure Small8 (p : Pm) : Prop where
  T : 1 ≤ p.T ∧ p.T ≤ 2
  K : 1 ≤ p.K ∧ p.K ≤ 2
  D : 1 ≤ p.D ∧ p.D ≤ 4
theorem small_of {p : Pm} (h : mayB p = true) : Small8 p := ⟨btw_iff (may_cond8 h 5 (by decide)), btw_iff (may_cond8 h 9 (by decide)), btw_iff (may_cond8 h 10 (by decide))⟩
theorem com_is8 {p : Pm} (g : MM.Grp p.P p.Q p.G p.H) (s b : Nat) : isB p (MM.comU p.P p.G p.H s b) = true := by
  have o : 1 % p.P = 1 := Nat.mod_eq_of_lt g.one
  have h := g.comRoot s b
  refine isB_true ?_ ?_ ?_
  · rcases Nat.eq_zero_or_pos (MM.comU p.P p.G p.H s b) with e | e
    · rw [e, Nat.zero_pow (by have := g.two; omega), Nat.zero_mod, o] at h
      omega
    · exact e
  · rw [MM.comU_of g.gP]; exact Nat.mod_lt _ (by have := g.one; omega)
  · rw [MM.powU_of g.gP, h, o]
/-- A matrix of commitments is square. -/
theorem sq_yes {p : Pm} (g : MM.Grp p.P p.Q p.G p.H) {n t : Nat} (ht : (t : Int) = p.T + 1) (hn : n = secN p) (K : Nat → Nat) (L : Nat → Nat → Nat) (F a b : Nat → Nat → Nat → Nat) (hK : ∀ i, i < n → K i = t) (hL : ∀ i, i < n → ∀ j, j < t → L i j = t) (hF : ∀ i, i < n → ∀ j, j < t → ∀ k, k < t → F i j k = MM.comU p.P p.G p.H (a i j k) (b i j k)) : sqB p n K L F = true :=
  sqB_yes hn fun i hi => by
    unfold matB
    rw [hK i hi, decide_eq_true ht, Bool.true_and]
    refine filB_yes fun j hj => listB_yes (by rw [hL i hi j hj]; exact ht) fun k hk => ?_
    rw [hL i hi j hj] at hk
    rw [hF i hi j hj k hk]
    exact com_is8 g _ _
end M
end Go.Proofs.YtlnlepadninnaaaDoor
