/- The texts Own, Mine, ModMath5, PolyMath, PolyW1, PolyW2, Sort1, one behind the other. -/
import Derived.Test.YtlnlepadninnaaaDoorKR3
import Derived.OwnWalk
import Derived.Maps.AppendAt
import Derived.Laws.MakeOwn
import Derived.Test.YtlnlepadninnaaaDoorKR2
import Derived.IntWalk
import Derived.RegionTactic
import Derived.ChangeAlike
import Derived.BigGuardPart
/- A row of numbers that a call itself makes, one append behind the other: what it holds, what is kept over steps, appends and the end. -/
namespace Go.Proofs.YtlnlepadninnaaaDoor
open Go Go.RowKit Go.Lib
namespace M
theorem info_u64 : (Tryd.prog.info? 22).map (fun i => (i.zero, i.size, i.bytes)) = some (some (.int .u64 0), 1, 8) := by kernel_rfl
/-- A row's first numbers, as values. -/
def zlist (n : Nat) (z : Nat → Nat) : List Value := (List.range n).map fun k => .int .u64 ((z k : Nat) : Int)
theorem zlist_len (n : Nat) (z : Nat → Nat) : (zlist n z).length = n * 1 := by simp [zlist]
theorem zlist_get {n : Nat} {z : Nat → Nat} {k : Nat} (h : k < n) : (zlist n z)[k]? = some (.int .u64 ((z k : Nat) : Int)) := by simp [zlist, h]
theorem zlist_succ (n : Nat) (z : Nat → Nat) : zlist n z ++ [.int .u64 ((z n : Nat) : Int)] = zlist (n + 1) z := by simp [zlist, List.range_succ]
theorem zlist_congr {n : Nat} {y z : Nat → Nat} (h : ∀ k, k < n → y k = z k) : zlist n y = zlist n z := by
  unfold zlist
  exact List.map_congr_left fun k hk => by rw [h k (List.mem_range.1 hk)]
theorem zlist_cells {W : World} {a : Addr} {n : Nat} {z : Nat → Nat} (h : Row W a n z) : ∀ j u, (zlist n z)[j]? = some u → W.cell? (a.add j) = some u := fun j u hj => by
  have hl := (List.getElem?_eq_some_iff.1 hj).1
  rw [zlist_len] at hl
  rw [zlist_get (by omega)] at hj
  rw [← hj]; exact h j (by omega)
theorem zlist_one (n : Nat) (z : Nat → Nat) : ∀ u ∈ zlist n z, u.oneCell' = true := fun u hu => by
  simp [zlist] at hu
  obtain ⟨k, _, rfl⟩ := hu
  rfl
/-- The row so far: of the call's own memory, behind block B; nothing old has changed. -/
structure Own (w0 : World) (B : Nat) (v : Value) (k : Nat) (z : Nat → Nat) (w : World) : Prop where
  own : w.ownsRow B 22 1 v k (zlist k z)
  size : B ≤ w.heap.size
  low : w0.heap.size ≤ B
  below : Below w0.heap.size w0 w
section
variable {w0 w w' : World} {B k : Nat} {v : Value} {z : Nat → Nat}
theorem Own.start (w0 : World) (z : Nat → Nat) : Own w0 w0.heap.size (.slice none 0 0) 0 z w0 := ⟨⟨by simp [zlist], .inl ⟨rfl, rfl⟩⟩, Nat.le_refl _, Nat.le_refl _, Below.refl _ _⟩
theorem Own.step (h : Own w0 B v k z w) (hb : Below w.heap.size w w') : Own w0 B v k z w' :=
  ⟨h.own.kept (row := none) ⟨hb.os, hb.tape, hb.output, hb.size, fun k hk _ => hb.block k hk⟩ (by cases v.ownBlock <;> simp), Nat.le_trans h.size hb.size, h.low, h.below.trans (hb.mono h.below.size)⟩
theorem Own.drewN (h : Own w0 B v k z w) (n : Nat) : Own w0 B v k z (w.drewN n) := h.step (below_drewN' w n _)
theorem Own.drew (h : Own w0 B v k z w) : Own w0 B v k z w.drew := h.drewN 1
theorem Own.alloc (h : Own w0 B v k z w) (o : Obj) : Own w0 B v k z (w.alloc o) := h.step (below_box _ _)
theorem Own.grow (h : Own w0 B v k z w) {v' : Value} {k' : Nat} {xs : List Value} (ho : w'.ownsRow B 22 1 v' k' xs) (hx : xs = zlist k' z) (hg : w.grownBy w' v.ownBlock) : Own w0 B v' k' z w' :=
  ⟨hx ▸ ho, Nat.le_trans h.size hg.size, h.low,
   h.below.trans ⟨hg.os, hg.tape, hg.output, hg.size, fun j hj => hg.block j (Nat.lt_of_lt_of_le hj h.below.size) (fun e => by have := (h.own.lt j e.symm).1; have := h.low; omega)⟩⟩
/-- What the row reads as. -/
theorem Own.row (h : Own w0 B v k z w) : (v = .slice none 0 0 ∧ k = 0) ∨ ∃ g c, v = .slice (some ⟨g, 0, none⟩) k c ∧ B ≤ g ∧ k ≤ c ∧ c ≤ maxLen ∧ Row w ⟨g, 0, none⟩ k z := by
  obtain ⟨_, h1 | ⟨g, cap, cur, h1, h2, h3, h4, h5, _, h7⟩⟩ := h.own
  · exact .inl h1
  · refine .inr ⟨g, cap, h1, h2, h4, h5, Row.of_block h3 fun j hj => ?_⟩
    have e1 : (cur.toList.take (k * 1))[j]? = (zlist k z)[j]? := by rw [h7]
    rw [zlist_get hj, List.getElem?_take_of_lt (by omega)] at e1
    simpa using e1
end
/-- A call that hands back a row of its own: n numbers z, in new memory; nothing old has changed. A plain definition: the walk does not look into it. -/
def Gives (W : World) (n : Nat) (z : Nat → Nat) (e : Ending) (w' : World) : Prop := ∃ v, e = .returned v ∧ w'.ownsRow W.heap.size 22 1 v n (zlist n z) ∧ Below W.heap.size W w'
theorem Own.gives {w0 w : World} {B k : Nat} {v : Value} {z : Nat → Nat} (h : Own w0 B v k z w) : Gives w0 k z (.returned v) w := ⟨v, rfl, by
  obtain ⟨h1, h2⟩ := h.own
  refine ⟨h1, h2.imp id fun ⟨g, cap, cur, a, b, c⟩ => ⟨g, cap, cur, a, Nat.le_trans h.low b, c⟩⟩, h.below⟩
/-- Numbers that a slice reads, whatever its address while there is none. -/
def Rd (W : World) (ao : Option Addr) (n : Nat) (z : Nat → Nat) : Prop := 0 < n → ∃ ad, ao = some ad ∧ Row W ad n z
theorem Rd.below {W W' : World} {ao : Option Addr} {n : Nat} {z : Nat → Nat} (h : Rd W ao n z) (hb : Below W.heap.size W W') : Rd W' ao n z := fun hn => let ⟨ad, e, hr⟩ := h hn; ⟨ad, e, hr.below hb⟩
theorem Rd.at_ {W : World} {ao : Option Addr} {n : Nat} {z : Nat → Nat} (h : Rd W ao n z) {k : Nat} (hk : k < n) : ∃ ad, ao = some ad ∧ W.cell? (ad.add k) = some (.int .u64 ((z k : Nat) : Int)) := let ⟨ad, e, hr⟩ := h (by omega); ⟨ad, e, hr k hk⟩
theorem Own.rd {w0 w : World} {B k : Nat} {v : Value} {z : Nat → Nat} (h : Own w0 B v k z w) : ∃ ao c, v = .slice ao k c ∧ k ≤ c ∧ c ≤ maxLen ∧ Rd w ao k z := by
  rcases h.row with ⟨rfl, rfl⟩ | ⟨g, c, rfl, _, h1, h2, hr⟩
  · exact ⟨none, 0, rfl, Nat.le_refl _, Nat.zero_le _, fun hn => absurd hn (by omega)⟩
  · exact ⟨_, c, rfl, h1, h2, fun _ => ⟨_, rfl, hr⟩⟩
end M
end Go.Proofs.YtlnlepadninnaaaDoor
/- A row of numbers that a call itself makes whole (make), and writes cell by cell: what it holds, what is kept, what it is at the end. -/
namespace Go.Proofs.YtlnlepadninnaaaDoor
open Go Go.RowKit Go.Lib
namespace M
/-- Block B holds the n numbers z, one a cell, none frozen; it lies behind all that was there at w0; nothing of that has changed. -/
structure Mine (w0 : World) (B n : Nat) (z : Nat → Nat) (w : World) : Prop where
  block : ∃ cs : Array Value, w.heap[B]? = some (.cells cs 22 (0, 0)) ∧ cs.size = n ∧ ∀ k, k < n → cs[k]? = some (.int .u64 ((z k : Nat) : Int))
  low : w0.heap.size ≤ B
  below : Below w0.heap.size w0 w
section
variable {w0 w w' : World} {B n : Nat} {z y : Nat → Nat}
theorem Mine.lt (h : Mine w0 B n z w) : B < w.heap.size := by obtain ⟨cs, h1, _⟩ := h.block; exact row_lt h1
theorem Mine.step (h : Mine w0 B n z w) (hb : Below w.heap.size w w') : Mine w0 B n z w' :=
  ⟨by obtain ⟨cs, h1, h2⟩ := h.block; exact ⟨cs, (hb.block B h.lt).trans h1, h2⟩, h.low, h.below.trans (hb.mono h.below.size)⟩
theorem Mine.drewN (h : Mine w0 B n z w) (m : Nat) : Mine w0 B n z (w.drewN m) := h.step (below_drewN' w m _)
theorem Mine.alloc (h : Mine w0 B n z w) (o : Obj) : Mine w0 B n z (w.alloc o) := h.step (below_box _ _)
theorem Mine.congr (h : Mine w0 B n z w) (hz : ∀ k, k < n → z k = y k) : Mine w0 B n y w :=
  ⟨by obtain ⟨cs, h1, h2, h3⟩ := h.block; exact ⟨cs, h1, h2, fun k hk => by rw [h3 k hk, hz k hk]⟩, h.low, h.below⟩
theorem Mine.cell (h : Mine w0 B n z w) {k : Nat} (hk : k < n) : w.cell? ⟨B, k, none⟩ = some (.int .u64 ((z k : Nat) : Int)) := by
  obtain ⟨cs, h1, _, h3⟩ := h.block
  rw [cell_of_row w B k _ _ _ h1, h3 k hk]
theorem Mine.free (h : Mine w0 B n z w) (k : Nat) : w.frozen? ⟨B, k, none⟩ = false := by
  obtain ⟨cs, h1, _⟩ := h.block
  simp [World.frozen?, h1]
/-- One cell is written. -/
theorem Mine.set (h : Mine w0 B n z w) (k x : Nat) (hy : ∀ j, j < n → y j = if j = k then x else z j) : Mine w0 B n y (w.setCell ⟨B, k, none⟩ (.int .u64 (x : Int))) := by
  refine ⟨?_, h.low, h.below.setCell (p := ⟨B, k, none⟩) h.low _⟩
  obtain ⟨cs, h1, h2, h3⟩ := h.block
  refine ⟨_, heap_setCell_same w B k cs _ _ h1, by simpa using h2, fun j hj => ?_⟩
  rw [hy j hj, Array.getElem?_setIfInBounds]
  by_cases e : k = j
  · subst e; rw [if_pos rfl, if_pos (by omega), if_pos rfl]
  · rw [if_neg e, if_neg (fun h => e h.symm), h3 j hj]
theorem Mine.row (h : Mine w0 B n z w) : Row w ⟨B, 0, none⟩ n z := by
  obtain ⟨cs, h1, _, h3⟩ := h.block
  exact Row.of_block h1 h3
theorem Mine.rd (h : Mine w0 B n z w) : Rd w (some ⟨B, 0, none⟩) n z := fun _ => ⟨_, rfl, h.row⟩
theorem Mine.own (h : Mine w0 B n z w) (hn : n ≤ maxLen) : w.ownsRow w0.heap.size 22 1 (.slice (some ⟨B, 0, none⟩) n n) n (zlist n z) := by
  obtain ⟨cs, h1, h2, h3⟩ := h.block
  refine ⟨by simp [zlist], .inr ⟨B, n, cs, rfl, h.low, h1, Nat.le_refl _, hn, by omega, ?_⟩⟩
  apply List.ext_getElem?
  intro k
  by_cases hk : k < n
  · rw [zlist_get hk, List.getElem?_take_of_lt (by omega), Array.getElem?_toList, h3 k hk]
  · rw [List.getElem?_eq_none (by simp; omega), List.getElem?_eq_none (by rw [zlist_len]; omega)]
theorem Mine.gives (h : Mine w0 B n z w) (hn : n ≤ maxLen) : Gives w0 n z (.returned (.slice (some ⟨B, 0, none⟩) n n)) w := ⟨_, rfl, h.own hn, h.below⟩
/-- The row as make leaves it. -/
theorem Mine.made (w0 : World) (n : Nat) : Mine w0 w0.heap.size n (fun _ => 0) (w0.alloc (.cells (madeCells (Value.int .u64 0).cells (n * 1)) 22)) := by
  refine ⟨⟨_, heap_alloc_new _ _, by rw [size_madeCells, Nat.mul_one], fun k hk => ?_⟩, Nat.le_refl _, below_box _ _⟩
  simp [madeCells, hk, Value.cells, Nat.mod_one]
end
/-- All old blocks but B are as they were. -/
def Kept (B : Nat) (W w : World) : Prop := ∀ k, k < W.heap.size → k ≠ B → w.heap[k]? = W.heap[k]?
theorem Kept.refl (B : Nat) (W : World) : Kept B W W := fun _ _ _ => rfl
theorem Kept.drewN {B : Nat} {W w : World} (h : Kept B W w) (n : Nat) : Kept B W (w.drewN n) := fun k a b => h k a b
theorem Kept.setCell {B : Nat} {W w : World} (h : Kept B W w) (i : Nat) (v : Value) : Kept B W (w.setCell ⟨B, i, none⟩ v) := fun k a b => (Below.heap_setCell w ⟨B, i, none⟩ v k b).trans (h k a b)
theorem Kept.below {B : Nat} {W w w' : World} (h : Kept B W w) (hb : Below W.heap.size w w') : Kept B W w' := fun k a b => (hb.block k a).trans (h k a b)
theorem run_made (n : Nat) (hn : n ≤ 1000000000) (w : World) :
    (Instr.makeSlice 25 (.int .i64 (n : Int)) (.int .i64 (n : Int))).run Tryd.prog w = .ok (.slice (some ⟨w.heap.size, 0, none⟩) n n) (w.alloc (.cells (madeCells (Value.int .u64 0).cells (n * 1)) 22)) := by
  obtain ⟨i0, hi, hz0, hz1, hz2⟩ := info_parts info_u64
  have hr := run_make (P := Tryd.prog) w 25 22 i0 (.int .u64 0) Tryd.underlying25 hi hz0 .i64 .i64 n n (by omega) (by omega) (by rw [hz2]; omega) (by omega)
  simp only [Int.toNat_natCast, hz1] at hr
  exact hr
end M
end Go.Proofs.YtlnlepadninnaaaDoor
/- Plain facts on inverses modulo a number: when there is one, of a product, of an inverse. Nothing here speaks of the program. -/
namespace Go.Proofs.YtlnlepadninnaaaDoor
namespace MM

theorem InvAt.all {a m : Nat} (hg : Nat.gcd a m = 1) : ∀ (next rest inv aft : Nat), InvAt a m rest next inv aft → ∃ x, IsInv a m x := by
  intro next
  induction next using Nat.strongRecOn with
  | _ next ih =>
    intro rest inv aft h
    rcases Nat.eq_zero_or_pos next with e | e
    · subst e
      obtain ⟨h1, h2⟩ := h.done
      exact ⟨inv, h2 (by rw [h1, hg])⟩
    · exact ih (rest % next) (Nat.mod_lt _ e) _ _ _ (h.step e)
theorem exists_inv {a m : Nat} (hm : 0 < m) (hg : Nat.gcd a m = 1) : ∃ x, IsInv a m x := InvAt.all hg _ _ _ _ (InvAt.start a m hm)

theorem gcd_mod (a m : Nat) : Nat.gcd (a % m) m = Nat.gcd a m := by rw [← Nat.gcd_rec, Nat.gcd_comm]

theorem IsInv.mul {a b m x y : Nat} (hx : IsInv a m x) (hy : IsInv b m y) : IsInv (a * b % m) m (x * y % m) := by
  have hm : 0 < m := by have := hx.1; omega
  refine ⟨Nat.mod_lt _ hm, ?_⟩
  rw [← Nat.mul_mod, Nat.mul_mul_mul_comm, Nat.mul_mod, hx.2, hy.2, ← Nat.mul_mod]
theorem IsInv.back {a m x : Nat} (hx : IsInv a m x) : IsInv x m (a % m) := by
  have hm : 0 < m := by have := hx.1; omega
  exact ⟨Nat.mod_lt _ hm, by rw [mul_mod_right', Nat.mul_comm, hx.2]⟩
theorem gcd_mul_left {a b m : Nat} (h : Nat.gcd a m ≠ 1) : Nat.gcd (a * b % m) m ≠ 1 := by
  rw [gcd_mod]
  intro e
  have d : Nat.gcd a m ∣ Nat.gcd (a * b) m := Nat.dvd_gcd (Nat.dvd_mul_right_of_dvd (Nat.gcd_dvd_left a m) b) (Nat.gcd_dvd_right a m)
  rw [e] at d
  exact h (Nat.dvd_one.1 d)
theorem gcd_mul_right {a b m : Nat} (h : Nat.gcd b m ≠ 1) : Nat.gcd (a * b % m) m ≠ 1 := by
  rw [Nat.mul_comm]; exact gcd_mul_left h
end MM
end Go.Proofs.YtlnlepadninnaaaDoor
/- Plain facts on polynomials as rows of coefficients, modulo any number. Nothing here speaks of the program. -/
namespace Go.Proofs.YtlnlepadninnaaaDoor
namespace MM
/-- The coefficient at i, modulo q; 0 behind the end. -/
def atU (n q : Nat) (z : Nat → Nat) (i : Nat) : Nat := if i < n then z i % q else 0
theorem atU_lt {n q i : Nat} {z : Nat → Nat} (h : Good q) : atU n q z i < 18446744073709551616 := by
  unfold atU
  by_cases hi : i < n
  · rw [if_pos hi]; exact lt_of_mod h
  · rw [if_neg hi]; omega
/-- The value of the first n coefficients at x. -/
def evalU (c : Nat → Nat) (x q : Nat) : Nat → Nat
  | 0 => 0
  | n + 1 => addU (evalU c x q n) (mulU (c n) (powU x n q) q) q
theorem evalU_lt (c : Nat → Nat) (x q n : Nat) : evalU c x q n < 18446744073709551616 := by
  cases n
  · show (0 : Nat) < _; omega
  · exact addU_lt _ _ _
/-- The degree of the first n coefficients: that of the last one that is not 0 modulo q. -/
def degU (c : Nat → Nat) (q : Nat) : Nat → Int
  | 0 => -1
  | n + 1 => if c n % q = 0 then degU c q n else n
theorem degU_bd (c : Nat → Nat) (q : Nat) : ∀ n : Nat, -1 ≤ degU c q n ∧ degU c q n < n
  | 0 => ⟨by show (-1 : Int) ≤ -1; omega, by show (-1 : Int) < ((0 : Nat) : Int); omega⟩
  | n + 1 => by
    have h := degU_bd c q n
    unfold degU
    by_cases h0 : c n % q = 0
    · rw [if_pos h0]; omega
    · rw [if_neg h0]; omega
/-- The coefficients of a sum, and of a multiple. -/
def sumU (n m q : Nat) (a b : Nat → Nat) (i : Nat) : Nat := addU (atU n q a i) (atU m q b i) q
def scaleU (k q : Nat) (a : Nat → Nat) (i : Nat) : Nat := mulU (a i) k q
/-- The coefficient at n of a product: its first i summands. -/
def convU (la lb q : Nat) (a b : Nat → Nat) (n : Nat) : Nat → Nat
  | 0 => 0
  | i + 1 => if i < la ∧ n - i < lb then addU (convU la lb q a b n i) (mulU (a i) (b (n - i)) q) q else convU la lb q a b n i
theorem convU_lt (la lb q : Nat) (a b : Nat → Nat) (n : Nat) : ∀ i, convU la lb q a b n i < 18446744073709551616
  | 0 => by show (0 : Nat) < _; omega
  | i + 1 => by
    unfold convU
    by_cases h : i < la ∧ n - i < lb
    · rw [if_pos h]; exact addU_lt _ _ _
    · rw [if_neg h]; exact convU_lt la lb q a b n i
def timesU (la lb q : Nat) (a b : Nat → Nat) (n : Nat) : Nat := convU la lb q a b n (n + 1)
/-- Whether the first n coefficients are the same. -/
def sameU (la lb q : Nat) (a b : Nat → Nat) : Nat → Bool
  | 0 => true
  | n + 1 => sameU la lb q a b n && (atU la q a n == atU lb q b n)
theorem sameU_no {la lb q : Nat} {a b : Nat → Nat} {k : Nat} (h : atU la q a k ≠ atU lb q b k) : ∀ n, k < n → sameU la lb q a b n = false
  | 0, hk => absurd hk (by omega)
  | n + 1, hk => by
    unfold sameU
    rcases Nat.lt_or_ge k n with h1 | h1
    · rw [sameU_no h n h1, Bool.false_and]
    · obtain rfl : k = n := by omega
      rw [show (atU la q a k == atU lb q b k) = false by simpa using h, Bool.and_false]
theorem sameU_succ {la lb q : Nat} {a b : Nat → Nat} {k : Nat} (h0 : sameU la lb q a b k = true) (h : atU la q a k = atU lb q b k) : sameU la lb q a b (k + 1) = true := by
  rw [sameU, h0, h]; simp
/-- The difference, and the inverse with what is told beside it, modulo any number. -/
def subU (a b m : Nat) : Nat := if Good m then subm a b m else 0
theorem subU_lt (a b m : Nat) : subU a b m < 18446744073709551616 := by
  unfold subU
  by_cases h : Good m
  · rw [if_pos h]; exact lt_of_mod h
  · rw [if_neg h]; omega
noncomputable def invU (a m : Nat) : Nat := if Good m ∧ Nat.gcd a m = 1 then invm a m else 0
def invC (a m : Nat) : Int := if Good m then (if Nat.gcd a m = 1 then 0 else 5) else 1
theorem invU_of {a m x : Nat} (h : Good m) (hx : IsInv a m x) : invU a m = x := by unfold invU; rw [if_pos ⟨h, hx.gcd⟩, invm_eq hx]
theorem invU_lt (a m : Nat) : invU a m < 18446744073709551616 := by
  unfold invU
  by_cases h : Good m ∧ Nat.gcd a m = 1
  · rw [if_pos h]
    obtain ⟨x, hx⟩ := exists_inv h.1.1 h.2
    rw [invm_eq hx]
    have := hx.1; have := h.1.2; omega
  · rw [if_neg h]; omega
/-- What is wrong with places: two that are the same, one that has no inverse against another. -/
def twRow (q : Nat) (z : Nat → Nat) (i : Nat) : Nat → Bool
  | 0 => false
  | k + 1 => twRow q z i k || (subU (z i) (z k) q == 0)
def noRow (q : Nat) (z : Nat → Nat) (i : Nat) : Nat → Bool
  | 0 => false
  | k + 1 => noRow q z i k || (invC (subU (z i) (z k) q) q != 0)
def twAll (q : Nat) (z : Nat → Nat) : Nat → Bool
  | 0 => false
  | i + 1 => twAll q z i || twRow q z i i
def noAll (q : Nat) (z : Nat → Nat) : Nat → Bool
  | 0 => false
  | i + 1 => noAll q z i || noRow q z i i
theorem twRow_up {q : Nat} {z : Nat → Nat} {i k : Nat} (h : subU (z i) (z k) q = 0) : ∀ n, k < n → twRow q z i n = true
  | 0, hk => absurd hk (by omega)
  | n + 1, hk => by
    unfold twRow
    rcases Nat.lt_or_ge k n with h1 | h1
    · rw [twRow_up h n h1, Bool.true_or]
    · obtain rfl : k = n := by omega
      rw [h]; simp
theorem twAll_up {q : Nat} {z : Nat → Nat} {i : Nat} (h : twRow q z i i = true) : ∀ n, i < n → twAll q z n = true
  | 0, hk => absurd hk (by omega)
  | n + 1, hk => by
    unfold twAll
    rcases Nat.lt_or_ge i n with h1 | h1
    · rw [twAll_up h n h1, Bool.true_or]
    · obtain rfl : i = n := by omega
      rw [h, Bool.or_true]
/-- What is told of places where there are numbers, and not too many places. -/
def wrongB (q : Nat) (z : Nat → Nat) (n : Nat) : Int := if twAll q z n = true then 6 else if noAll q z n = true then 5 else 0
def wrongU (q n : Nat) (z : Nat → Nat) : Int := if ¬ Good q then 1 else if 1024 < n then 40 else wrongB q z n
/-- The weight of the place i: its first k factors. -/
noncomputable def weightU (q : Nat) (z : Nat → Nat) (place i : Nat) : Nat → Nat
  | 0 => addU 1 0 q
  | k + 1 => if k = i then weightU q z place i k else mulU (weightU q z place i k) (mulU (subU place (z k) q) (invU (subU (z i) (z k) q) q) q) q
/-- What is 0 at the first i places, and the polynomial through the first i points, point by point. -/
def noneU (q : Nat) (z : Nat → Nat) : Nat → Nat → Nat
  | 0 => fun _ => addU 1 0 q
  | i + 1 => timesU (i + 1) 2 q (noneU q z i) (two (subU 0 (z i) q) 1)
theorem noneU_lt (q : Nat) (z : Nat → Nat) : ∀ i k, noneU q z i k < 18446744073709551616
  | 0, _ => addU_lt _ _ _
  | _ + 1, _ => convU_lt _ _ _ _ _ _ _
noncomputable def facU (q : Nat) (z y : Nat → Nat) (i : Nat) (o : Nat → Nat) : Nat := mulU (subU (y i) (evalU o (z i) q i) q) (invU (evalU (noneU q z i) (z i) q (i + 1)) q) q
noncomputable def thruU (q : Nat) (z y : Nat → Nat) : Nat → Nat → Nat
  | 0 => fun _ => 0
  | i + 1 => sumU i (i + 1) q (thruU q z y i) (scaleU (facU q z y i (thruU q z y i)) q (noneU q z i))
end MM
end Go.Proofs.YtlnlepadninnaaaDoor
/- The walks of the program's polynomials: what is allowed, a coefficient behind the end, and multiples. -/
namespace Go.Proofs.YtlnlepadninnaaaDoor
open Go Go.RowKit Go.Lib
namespace M
/-- The coefficients' reader: a closure over two boxes. -/
def Box (W : World) (B : Nat) (t : TypeId) (v : Value) : Prop := W.heap[B]? = some (.cells #[v] t (0, 0))
theorem Box.below {W W' : World} {B : Nat} {t : TypeId} {v : Value} (h : Box W B t v) (hb : Below W.heap.size W W') : Box W' B t v := (hb.block B (row_lt h)).trans h
theorem Box.kept {W w : World} {B P : Nat} {t : TypeId} {v : Value} (h : Box W P t v) (hk : Kept B W w) (hne : P ≠ B) : Box w P t v := (hk P (row_lt h) hne).trans h
theorem Box.cell {W : World} {B : Nat} {t : TypeId} {v : Value} (h : Box W B t v) : W.cell? ⟨B, 0, none⟩ = some v := by rw [cell_of_row W B 0 _ _ _ h]; rfl
theorem Box.free {W : World} {B : Nat} {t : TypeId} {v : Value} (h : Box W B t v) : W.frozen? ⟨B, 0, none⟩ = false := by simp [World.frozen?, show W.heap[B]? = _ from h]
theorem Box.new (W : World) (t : TypeId) (v : Value) : Box (W.alloc (.cells #[v] t)) W.heap.size t v := heap_alloc_new _ _

theorem addU_zero (x q : Nat) (hq : MM.Good q) : MM.addU x 0 q = x % q := by rw [MM.addU_of hq, Nat.add_zero]
end M
end Go.Proofs.YtlnlepadninnaaaDoor
/- The walks of the program's polynomials: sums, degrees, and whether two are the same. -/
namespace Go.Proofs.YtlnlepadninnaaaDoor
open Go Go.RowKit Go.Lib
namespace MM
/-- A coefficient as the program reads it, modulo any number. -/
def cofU (n q : Nat) (z : Nat → Nat) (i : Nat) : Nat := if i < n then addU (z i) 0 q else 0
theorem cofU_good {n q : Nat} {z : Nat → Nat} (hq : Good q) (i : Nat) : cofU n q z i = atU n q z i := by
  unfold cofU atU; by_cases h : i < n
  · rw [if_pos h, if_pos h, addU_of hq, Nat.add_zero]
  · rw [if_neg h, if_neg h]
theorem cofU_bad {n q : Nat} {z : Nat → Nat} (hq : ¬ Good q) (i : Nat) : cofU n q z i = 0 := by
  unfold cofU addU; rw [if_neg hq]; by_cases h : i < n
  · rw [if_pos h]
  · rw [if_neg h]
def degC (z : Nat → Nat) (q : Nat) : Nat → Int
  | 0 => -1
  | n + 1 => if addU (z n) 0 q = 0 then degC z q n else n
theorem degC_good {z : Nat → Nat} {q : Nat} (hq : Good q) : ∀ n, degC z q n = degU z q n
  | 0 => rfl
  | n + 1 => by unfold degC degU; rw [degC_good hq n, addU_of hq, Nat.add_zero]
theorem degC_bad {z : Nat → Nat} {q : Nat} (hq : ¬ Good q) : ∀ n, degC z q n = -1
  | 0 => rfl
  | n + 1 => by unfold degC; rw [if_pos (by unfold addU; rw [if_neg hq]), degC_bad hq n]
def sameC (la lb q : Nat) (a b : Nat → Nat) : Nat → Bool
  | 0 => true
  | n + 1 => sameC la lb q a b n && (cofU la q a n == cofU lb q b n)
theorem sameC_good {la lb q : Nat} {a b : Nat → Nat} (hq : Good q) : ∀ n, sameC la lb q a b n = sameU la lb q a b n
  | 0 => rfl
  | n + 1 => by unfold sameC sameU; rw [sameC_good hq n, cofU_good hq, cofU_good hq]
theorem sameC_bad {la lb q : Nat} {a b : Nat → Nat} (hq : ¬ Good q) : ∀ n, sameC la lb q a b n = true
  | 0 => rfl
  | n + 1 => by unfold sameC; rw [sameC_bad hq n, cofU_bad hq, cofU_bad hq]; rfl
theorem sameC_no {la lb q : Nat} {a b : Nat → Nat} {k : Nat} (h : cofU la q a k ≠ cofU lb q b k) : ∀ n, k < n → sameC la lb q a b n = false
  | 0, hk => absurd hk (by omega)
  | n + 1, hk => by
    unfold sameC
    rcases Nat.lt_or_ge k n with h1 | h1
    · rw [sameC_no h n h1, Bool.false_and]
    · obtain rfl : k = n := by omega
      rw [show (cofU la q a k == cofU lb q b k) = false by simpa using h, Bool.and_false]
theorem sameC_succ {la lb q : Nat} {a b : Nat → Nat} {k : Nat} (h0 : sameC la lb q a b k = true) (h : cofU la q a k = cofU lb q b k) : sameC la lb q a b (k + 1) = true := by
  rw [sameC, h0, h]; simp
end MM
namespace M
/-- Two readers of coefficients, laid one behind the other. -/
theorem coefs_two (ao bo : Option Addr) (la ca lb cb q : Nat) (W : World) :
    ∃ W2, (((W.alloc (.cells #[.slice ao la ca] 25)).alloc (.cells #[.int .u64 (q : Int)] 22)).alloc (.cells #[.slice bo lb cb] 25)).alloc (.cells #[.int .u64 (q : Int)] 22) = W2 ∧ Below W.heap.size W W2 ∧
      Box W2 W.heap.size 25 (.slice ao la ca) ∧ Box W2 (W.heap.size + 1) 22 (.int .u64 (q : Int)) ∧ Box W2 (W.heap.size + 1 + 1) 25 (.slice bo lb cb) ∧ Box W2 (W.heap.size + 1 + 1 + 1) 22 (.int .u64 (q : Int)) := by
  obtain ⟨W1, h1⟩ : ∃ W1, W.alloc (.cells #[.slice ao la ca] 25) = W1 := ⟨_, rfl⟩
  obtain ⟨W2, h2⟩ : ∃ W2, W1.alloc (.cells #[.int .u64 (q : Int)] 22) = W2 := ⟨_, rfl⟩
  obtain ⟨W3, h3⟩ : ∃ W3, W2.alloc (.cells #[.slice bo lb cb] 25) = W3 := ⟨_, rfl⟩
  obtain ⟨W4, h4⟩ : ∃ W4, W3.alloc (.cells #[.int .u64 (q : Int)] 22) = W4 := ⟨_, rfl⟩
  have b1 : Below W.heap.size W W1 := h1 ▸ below_box _ _
  have b2 : Below W1.heap.size W1 W2 := h2 ▸ below_box _ _
  have b3 : Below W2.heap.size W2 W3 := h3 ▸ below_box _ _
  have b4 : Below W3.heap.size W3 W4 := h4 ▸ below_box _ _
  have s1 : W1.heap.size = W.heap.size + 1 := by rw [← h1, World.size_alloc]
  have s2 : W2.heap.size = W.heap.size + 1 + 1 := by rw [← h2, World.size_alloc, s1]
  have s3 : W3.heap.size = W.heap.size + 1 + 1 + 1 := by rw [← h3, World.size_alloc, s2]
  have b24 : Below W2.heap.size W2 W4 := b3.trans (b4.mono b3.size)
  have b14 : Below W1.heap.size W1 W4 := b2.trans (b24.mono b2.size)
  have b04 : Below W.heap.size W W4 := b1.trans (b14.mono b1.size)
  have x1 : Box W4 W.heap.size 25 (.slice ao la ca) := Box.below (W := W1) (by rw [← h1]; exact Box.new _ _ _) b14
  have x2 : Box W4 (W.heap.size + 1) 22 (.int .u64 (q : Int)) := Box.below (W := W2) (by rw [← h2, ← s1]; exact Box.new _ _ _) b24
  have x3 : Box W4 (W.heap.size + 1 + 1) 25 (.slice bo lb cb) := Box.below (W := W3) (by rw [← h3, ← s2]; exact Box.new _ _ _) b4
  have x4 : Box W4 (W.heap.size + 1 + 1 + 1) 22 (.int .u64 (q : Int)) := by rw [← h4, ← s3]; exact Box.new _ _ _
  exact ⟨W4, by rw [h1, h2, h3, h4], b04, x1, x2, x3, x4⟩

end M
end Go.Proofs.YtlnlepadninnaaaDoor
/- The library's sort of a row of numbers, its short way: comparing, insertion. -/
namespace Go.Proofs.YtlnlepadninnaaaDoor
open Go Go.RowKit Go.Lib
namespace MM
/-- Two numbers of a row change places. -/
def swapU (i j : Nat) (z : Nat → Nat) (k : Nat) : Nat := if k = i then z j else if k = j then z i else z k
/-- Some of the first n numbers are the same. -/
def Dup (n : Nat) (z : Nat → Nat) : Prop := ∃ p q, p < q ∧ q < n ∧ z p = z q
/-- What comes of a row by exchanges between a and b. -/
inductive Sw (a b : Nat) (z : Nat → Nat) : (Nat → Nat) → Prop
  | refl : Sw a b z z
  | step {y : Nat → Nat} (h : Sw a b z y) (i j : Nat) (hi : a ≤ i ∧ i < b) (hj : a ≤ j ∧ j < b) : Sw a b z (swapU i j y)
theorem Sw.trans {a b : Nat} {x y z : Nat → Nat} (h : Sw a b x y) (k : Sw a b y z) : Sw a b x z := by
  induction k with
  | refl => exact h
  | step _ i j hi hj ih => exact ih.step i j hi hj
theorem Sw.wide {a b c d : Nat} {x y : Nat → Nat} (h : Sw a b x y) (h1 : c ≤ a) (h2 : b ≤ d) : Sw c d x y := by
  induction h with
  | refl => exact .refl
  | step _ i j hi hj ih => exact ih.step i j ⟨by omega, by omega⟩ ⟨by omega, by omega⟩
theorem dup_swap {n i j : Nat} {z : Nat → Nat} (hi : i < n) (hj : j < n) : Dup n z → Dup n (swapU i j z) := by
  rintro ⟨p, q, hpq, hq, e⟩
  have key : ∀ k, k < n → ∃ m, m < n ∧ swapU i j z m = z k ∧ (m = if k = i then j else if k = j then i else k) := fun k hk => by
    refine ⟨if k = i then j else if k = j then i else k, ?_, ?_, rfl⟩
    · by_cases h1 : k = i
      · rw [if_pos h1]; exact hj
      · rw [if_neg h1]; by_cases h2 : k = j
        · rw [if_pos h2]; exact hi
        · rw [if_neg h2]; exact hk
    · unfold swapU
      by_cases h1 : k = i
      · subst h1; rw [if_pos rfl]; by_cases h2 : j = k
        · rw [if_pos h2, h2]
        · rw [if_neg h2, if_pos rfl]
      · rw [if_neg h1]; by_cases h2 : k = j
        · subst h2; rw [if_pos rfl, if_pos rfl]
        · rw [if_neg h2, if_neg h1, if_neg h2]
  obtain ⟨p', hp', ep, mp⟩ := key p (by omega)
  obtain ⟨q', hq', eq, mq⟩ := key q hq
  have hne : p' ≠ q' := by
    rw [mp, mq]
    by_cases a1 : p = i
    · subst a1
      rw [if_pos rfl, if_neg (by omega)]
      by_cases a2 : q = j
      · subst a2; rw [if_pos rfl]; omega
      · rw [if_neg a2]; omega
    · rw [if_neg a1]
      by_cases a2 : p = j
      · subst a2; rw [if_pos rfl]
        by_cases a3 : q = i
        · subst a3; rw [if_pos rfl]; omega
        · rw [if_neg a3, if_neg (by omega)]; omega
      · rw [if_neg a2]
        by_cases a3 : q = i
        · subst a3; rw [if_pos rfl]; omega
        · rw [if_neg a3]; by_cases a4 : q = j
          · subst a4; rw [if_pos rfl]; omega
          · rw [if_neg a4]; omega
  rcases Nat.lt_or_ge p' q' with h | h
  · exact ⟨p', q', h, hq', by rw [ep, eq, e]⟩
  · exact ⟨q', p', by omega, hp', by rw [ep, eq, e]⟩
theorem swap_swap (i j : Nat) (z : Nat → Nat) : swapU i j (swapU i j z) = z := by
  funext k
  unfold swapU
  by_cases h1 : k = i
  · subst h1; rw [if_pos rfl]
    by_cases h2 : j = k
    · rw [if_pos h2]; rw [h2]
    · rw [if_neg h2, if_pos rfl]
  · rw [if_neg h1]; by_cases h2 : k = j
    · subst h2; rw [if_pos rfl, if_pos rfl]
    · rw [if_neg h2]; rw [if_neg h1, if_neg h2]
theorem Sw.dup {a b n : Nat} {z y : Nat → Nat} (h : Sw a b z y) (hb : b ≤ n) : Dup n y ↔ Dup n z := by
  induction h with
  | refl => exact Iff.rfl
  | step _ i j hi hj ih =>
    refine Iff.trans ⟨fun h => ?_, dup_swap (by omega) (by omega)⟩ ih
    have := dup_swap (i := i) (j := j) (by omega) (by omega) h
    rwa [swap_swap] at this
/-- In order from a on, up to b. -/
def Asc (a b : Nat) (z : Nat → Nat) : Prop := ∀ p q, a ≤ p → p < q → q < b → z p ≤ z q
/-- In order but for the one at j, which may be too small. -/
def AscBut (a i j : Nat) (z : Nat → Nat) : Prop := ∀ p q, a ≤ p → p < q → q ≤ i → q ≠ j → z p ≤ z q
theorem AscBut.start {a i : Nat} {z : Nat → Nat} (h : Asc a i z) : AscBut a i i z := fun p q h1 h2 h3 h4 => h p q h1 h2 (by omega)
theorem AscBut.first {a i : Nat} {z : Nat → Nat} (h : AscBut a i a z) : Asc a (i + 1) z := fun p q h1 h2 h3 => h p q h1 h2 (by omega) (by omega)
theorem AscBut.stop {a i j : Nat} {z : Nat → Nat} (h : AscBut a i j z) (hj : j ≤ i) (ha : a < j) (hle : z (j - 1) ≤ z j) : Asc a (i + 1) z := fun p q h1 h2 h3 => by
  by_cases e : q = j
  · subst e
    by_cases e2 : p = q - 1
    · rw [e2]; exact hle
    · exact Nat.le_trans (h p (q - 1) h1 (by omega) (by omega) (by omega)) hle
  · exact h p q h1 h2 (by omega) e
theorem AscBut.next {a i j : Nat} {z : Nat → Nat} (h : AscBut a i (j + 1) z) (hj : j + 1 ≤ i) (ha : a ≤ j) (hlt : z (j + 1) < z j) : AscBut a i j (swapU (j + 1) j z) := fun p q h1 h2 h3 h4 => by
  unfold swapU
  by_cases e1 : q = j + 1
  · subst e1
    rw [if_pos (rfl : j + 1 = j + 1), if_neg (show p ≠ j + 1 by omega)]
    by_cases e2 : p = j
    · rw [if_pos e2]; omega
    · rw [if_neg e2]; exact h p j h1 (by omega) (by omega) (by omega)
  · rw [if_neg e1, if_neg h4]
    by_cases e2 : p = j + 1
    · rw [if_pos e2]; exact h j q ha (by omega) h3 e1
    · rw [if_neg e2]; by_cases e3 : p = j
      · rw [if_pos e3]; exact h (j + 1) q (by omega) (by omega) h3 e1
      · rw [if_neg e3]; exact h p q h1 h2 h3 e1
end MM
namespace M
def ltB (x y : Nat) : Bool := decide (x < y)
end M
end Go.Proofs.YtlnlepadninnaaaDoor
