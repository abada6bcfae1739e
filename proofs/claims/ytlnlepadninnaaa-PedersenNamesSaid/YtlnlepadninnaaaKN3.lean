/- The texts Own, Mine, ModMath3, ModMath4, ModMath5, PolyMath, PolyW1, one behind the other. -/
import Derived.Test.YtlnlepadninnaaaKN2
import Derived.OwnWalk
import Derived.Maps.AppendAt
import Derived.Laws.MakeOwn
/- A row of numbers that a call itself makes, one append behind the other: what it holds, what is kept over steps, appends and the end. -/
namespace Go.Proofs.Ytlnlepadninnaaa
open Go Go.RowKit Go.Lib
namespace M
theorem info_u64 : (Try.prog.info? 23).map (fun i => (i.zero, i.size, i.bytes)) = some (some (.int .u64 0), 1, 8) := by kernel_rfl
/-- A row's first numbers, as values. -/
def zlist (n : Nat) (z : Nat → Nat) : List Value := (List.range n).map fun k => .int .u64 ((z k : Nat) : Int)
theorem zlist_len (n : Nat) (z : Nat → Nat) : (zlist n z).length = n * 1 := by simp [zlist]
theorem zlist_get {n : Nat} {z : Nat → Nat} {k : Nat} (h : k < n) : (zlist n z)[k]? = some (.int .u64 ((z k : Nat) : Int)) := by simp [zlist, h]
theorem zlist_succ (n : Nat) (z : Nat → Nat) : zlist n z ++ [.int .u64 ((z n : Nat) : Int)] = zlist (n + 1) z := by simp [zlist, List.range_succ]
theorem zlist_congr {n : Nat} {y z : Nat → Nat} (h : ∀ k, k < n → y k = z k) : zlist n y = zlist n z := by
  unfold zlist
  exact List.map_congr_left fun k hk => by rw [h k (List.mem_range.1 hk)]
theorem zlist_cells {W : World} {a : Addr} {n : Nat} {z : Nat → Nat} (h : Row W a n z) : ∀ j u, (zlist n z)[j]? = some u → W.cell? (a.add j) = some u := fun j u hj => by
  have hl := (List.getElem?_eq_some_iff.1 hj).1
  rw [zlist_len] at hl
  rw [zlist_get (by omega)] at hj
  rw [← hj]; exact h j (by omega)
theorem zlist_one (n : Nat) (z : Nat → Nat) : ∀ u ∈ zlist n z, u.oneCell' = true := fun u hu => by
  simp [zlist] at hu
  obtain ⟨k, _, rfl⟩ := hu
  rfl
/-- The row so far: of the call's own memory, behind block B; nothing old has changed. -/
structure Own (w0 : World) (B : Nat) (v : Value) (k : Nat) (z : Nat → Nat) (w : World) : Prop where
  own : w.ownsRow B 23 1 v k (zlist k z)
  size : B ≤ w.heap.size
  low : w0.heap.size ≤ B
  below : Below w0.heap.size w0 w
section
variable {w0 w w' : World} {B k : Nat} {v : Value} {z : Nat → Nat}
theorem Own.start (w0 : World) (z : Nat → Nat) : Own w0 w0.heap.size (.slice none 0 0) 0 z w0 := ⟨⟨by simp [zlist], .inl ⟨rfl, rfl⟩⟩, Nat.le_refl _, Nat.le_refl _, Below.refl _ _⟩
theorem Own.step (h : Own w0 B v k z w) (hb : Below w.heap.size w w') : Own w0 B v k z w' :=
  ⟨h.own.kept (row := none) ⟨hb.os, hb.tape, hb.output, hb.size, fun k hk _ => hb.block k hk⟩ (by cases v.ownBlock <;> simp), Nat.le_trans h.size hb.size, h.low, h.below.trans (hb.mono h.below.size)⟩
theorem Own.drewN (h : Own w0 B v k z w) (n : Nat) : Own w0 B v k z (w.drewN n) := h.step (below_drewN' w n _)
theorem Own.drew (h : Own w0 B v k z w) : Own w0 B v k z w.drew := h.drewN 1
theorem Own.alloc (h : Own w0 B v k z w) (o : Obj) : Own w0 B v k z (w.alloc o) := h.step (below_box _ _)
theorem Own.grow (h : Own w0 B v k z w) {v' : Value} {k' : Nat} {xs : List Value} (ho : w'.ownsRow B 23 1 v' k' xs) (hx : xs = zlist k' z) (hg : w.grownBy w' v.ownBlock) : Own w0 B v' k' z w' :=
  ⟨hx ▸ ho, Nat.le_trans h.size hg.size, h.low,
   h.below.trans ⟨hg.os, hg.tape, hg.output, hg.size, fun j hj => hg.block j (Nat.lt_of_lt_of_le hj h.below.size) (fun e => by have := (h.own.lt j e.symm).1; have := h.low; omega)⟩⟩
/-- What the row reads as. -/
theorem Own.row (h : Own w0 B v k z w) : (v = .slice none 0 0 ∧ k = 0) ∨ ∃ g c, v = .slice (some ⟨g, 0, none⟩) k c ∧ B ≤ g ∧ k ≤ c ∧ c ≤ maxLen ∧ Row w ⟨g, 0, none⟩ k z := by
  obtain ⟨_, h1 | ⟨g, cap, cur, h1, h2, h3, h4, h5, _, h7⟩⟩ := h.own
  · exact .inl h1
  · refine .inr ⟨g, cap, h1, h2, h4, h5, Row.of_block h3 fun j hj => ?_⟩
    have e1 : (cur.toList.take (k * 1))[j]? = (zlist k z)[j]? := by rw [h7]
    rw [zlist_get hj, List.getElem?_take_of_lt (by omega)] at e1
    simpa using e1
end
/-- A call that hands back a row of its own: n numbers z, in new memory; nothing old has changed. A plain definition: the walk does not look into it. -/
def Gives (W : World) (n : Nat) (z : Nat → Nat) (e : Ending) (w' : World) : Prop := ∃ v, e = .returned v ∧ w'.ownsRow W.heap.size 23 1 v n (zlist n z) ∧ Below W.heap.size W w'
theorem Own.gives {w0 w : World} {B k : Nat} {v : Value} {z : Nat → Nat} (h : Own w0 B v k z w) : Gives w0 k z (.returned v) w := ⟨v, rfl, by
  obtain ⟨h1, h2⟩ := h.own
  refine ⟨h1, h2.imp id fun ⟨g, cap, cur, a, b, c⟩ => ⟨g, cap, cur, a, Nat.le_trans h.low b, c⟩⟩, h.below⟩
/-- Numbers that a slice reads, whatever its address while there is none. -/
def Rd (W : World) (ao : Option Addr) (n : Nat) (z : Nat → Nat) : Prop := 0 < n → ∃ ad, ao = some ad ∧ Row W ad n z
theorem Rd.below {W W' : World} {ao : Option Addr} {n : Nat} {z : Nat → Nat} (h : Rd W ao n z) (hb : Below W.heap.size W W') : Rd W' ao n z := fun hn => let ⟨ad, e, hr⟩ := h hn; ⟨ad, e, hr.below hb⟩
theorem Rd.at_ {W : World} {ao : Option Addr} {n : Nat} {z : Nat → Nat} (h : Rd W ao n z) {k : Nat} (hk : k < n) : ∃ ad, ao = some ad ∧ W.cell? (ad.add k) = some (.int .u64 ((z k : Nat) : Int)) := let ⟨ad, e, hr⟩ := h (by omega); ⟨ad, e, hr k hk⟩
theorem Own.rd {w0 w : World} {B k : Nat} {v : Value} {z : Nat → Nat} (h : Own w0 B v k z w) : ∃ ao c, v = .slice ao k c ∧ k ≤ c ∧ c ≤ maxLen ∧ Rd w ao k z := by
  rcases h.row with ⟨rfl, rfl⟩ | ⟨g, c, rfl, _, h1, h2, hr⟩
  · exact ⟨none, 0, rfl, Nat.le_refl _, Nat.zero_le _, fun hn => absurd hn (by omega)⟩
  · exact ⟨_, c, rfl, h1, h2, fun _ => ⟨_, rfl, hr⟩⟩
end M
end Go.Proofs.Ytlnlepadninnaaa
/- A row of numbers that a call itself makes whole (make), and writes cell by cell: what it holds, what is kept, what it is at the end. -/
namespace Go.Proofs.Ytlnlepadninnaaa
open Go Go.RowKit Go.Lib
namespace M
/-- Block B holds the n numbers z, one a cell, none frozen; it lies behind all that was there at w0; nothing of that has changed. -/
structure Mine (w0 : World) (B n : Nat) (z : Nat → Nat) (w : World) : Prop where
  block : ∃ cs : Array Value, w.heap[B]? = some (.cells cs 23 (0, 0)) ∧ cs.size = n ∧ ∀ k, k < n → cs[k]? = some (.int .u64 ((z k : Nat) : Int))
  low : w0.heap.size ≤ B
  below : Below w0.heap.size w0 w
section
variable {w0 w w' : World} {B n : Nat} {z y : Nat → Nat}
theorem Mine.lt (h : Mine w0 B n z w) : B < w.heap.size := by obtain ⟨cs, h1, _⟩ := h.block; exact row_lt h1
theorem Mine.step (h : Mine w0 B n z w) (hb : Below w.heap.size w w') : Mine w0 B n z w' :=
  ⟨by obtain ⟨cs, h1, h2⟩ := h.block; exact ⟨cs, (hb.block B h.lt).trans h1, h2⟩, h.low, h.below.trans (hb.mono h.below.size)⟩
theorem Mine.drewN (h : Mine w0 B n z w) (m : Nat) : Mine w0 B n z (w.drewN m) := h.step (below_drewN' w m _)
theorem Mine.alloc (h : Mine w0 B n z w) (o : Obj) : Mine w0 B n z (w.alloc o) := h.step (below_box _ _)
theorem Mine.congr (h : Mine w0 B n z w) (hz : ∀ k, k < n → z k = y k) : Mine w0 B n y w :=
  ⟨by obtain ⟨cs, h1, h2, h3⟩ := h.block; exact ⟨cs, h1, h2, fun k hk => by rw [h3 k hk, hz k hk]⟩, h.low, h.below⟩
theorem Mine.cell (h : Mine w0 B n z w) {k : Nat} (hk : k < n) : w.cell? ⟨B, k, none⟩ = some (.int .u64 ((z k : Nat) : Int)) := by
  obtain ⟨cs, h1, _, h3⟩ := h.block
  rw [cell_of_row w B k _ _ _ h1, h3 k hk]
theorem Mine.free (h : Mine w0 B n z w) (k : Nat) : w.frozen? ⟨B, k, none⟩ = false := by
  obtain ⟨cs, h1, _⟩ := h.block
  simp [World.frozen?, h1]
/-- One cell is written. -/
theorem Mine.set (h : Mine w0 B n z w) (k x : Nat) (hy : ∀ j, j < n → y j = if j = k then x else z j) : Mine w0 B n y (w.setCell ⟨B, k, none⟩ (.int .u64 (x : Int))) := by
  refine ⟨?_, h.low, h.below.setCell (p := ⟨B, k, none⟩) h.low _⟩
  obtain ⟨cs, h1, h2, h3⟩ := h.block
  refine ⟨_, heap_setCell_same w B k cs _ _ h1, by simpa using h2, fun j hj => ?_⟩
  rw [hy j hj, Array.getElem?_setIfInBounds]
  by_cases e : k = j
  · subst e; rw [if_pos rfl, if_pos (by omega), if_pos rfl]
  · rw [if_neg e, if_neg (fun h => e h.symm), h3 j hj]
theorem Mine.row (h : Mine w0 B n z w) : Row w ⟨B, 0, none⟩ n z := by
  obtain ⟨cs, h1, _, h3⟩ := h.block
  exact Row.of_block h1 h3
theorem Mine.rd (h : Mine w0 B n z w) : Rd w (some ⟨B, 0, none⟩) n z := fun _ => ⟨_, rfl, h.row⟩
theorem Mine.own (h : Mine w0 B n z w) (hn : n ≤ maxLen) : w.ownsRow w0.heap.size 23 1 (.slice (some ⟨B, 0, none⟩) n n) n (zlist n z) := by
  obtain ⟨cs, h1, h2, h3⟩ := h.block
  refine ⟨by simp [zlist], .inr ⟨B, n, cs, rfl, h.low, h1, Nat.le_refl _, hn, by omega, ?_⟩⟩
  apply List.ext_getElem?
  intro k
  by_cases hk : k < n
  · rw [zlist_get hk, List.getElem?_take_of_lt (by omega), Array.getElem?_toList, h3 k hk]
  · rw [List.getElem?_eq_none (by simp; omega), List.getElem?_eq_none (by rw [zlist_len]; omega)]
theorem Mine.gives (h : Mine w0 B n z w) (hn : n ≤ maxLen) : Gives w0 n z (.returned (.slice (some ⟨B, 0, none⟩) n n)) w := ⟨_, rfl, h.own hn, h.below⟩
/-- The row as make leaves it. -/
theorem Mine.made (w0 : World) (n : Nat) : Mine w0 w0.heap.size n (fun _ => 0) (w0.alloc (.cells (madeCells (Value.int .u64 0).cells (n * 1)) 23)) := by
  refine ⟨⟨_, heap_alloc_new _ _, by rw [size_madeCells, Nat.mul_one], fun k hk => ?_⟩, Nat.le_refl _, below_box _ _⟩
  simp [madeCells, hk, Value.cells, Nat.mod_one]
end
/-- All old blocks but B are as they were. -/
def Kept (B : Nat) (W w : World) : Prop := ∀ k, k < W.heap.size → k ≠ B → w.heap[k]? = W.heap[k]?
theorem Kept.refl (B : Nat) (W : World) : Kept B W W := fun _ _ _ => rfl
theorem Kept.drewN {B : Nat} {W w : World} (h : Kept B W w) (n : Nat) : Kept B W (w.drewN n) := fun k a b => h k a b
theorem Kept.setCell {B : Nat} {W w : World} (h : Kept B W w) (i : Nat) (v : Value) : Kept B W (w.setCell ⟨B, i, none⟩ v) := fun k a b => (Below.heap_setCell w ⟨B, i, none⟩ v k b).trans (h k a b)
theorem Kept.below {B : Nat} {W w w' : World} (h : Kept B W w) (hb : Below W.heap.size w w') : Kept B W w' := fun k a b => (hb.block k a).trans (h k a b)
theorem run_made (n : Nat) (hn : n ≤ 1000000000) (w : World) :
    (Instr.makeSlice 27 (.int .i64 (n : Int)) (.int .i64 (n : Int))).run Try.prog w = .ok (.slice (some ⟨w.heap.size, 0, none⟩) n n) (w.alloc (.cells (madeCells (Value.int .u64 0).cells (n * 1)) 23)) := by
  obtain ⟨i0, hi, hz0, hz1, hz2⟩ := info_parts info_u64
  have hr := run_make (P := Try.prog) w 27 23 i0 (.int .u64 0) Try.underlying27 hi hz0 .i64 .i64 n n (by omega) (by omega) (by rw [hz2]; omega) (by omega)
  simp only [Int.toNat_natCast, hz1] at hr
  exact hr
end M
end Go.Proofs.Ytlnlepadninnaaa
/- Plain facts on inverses modulo a number, and on what Euclid's way with inverses beside it keeps. Nothing here speaks of the program. -/
namespace Go.Proofs.Ytlnlepadninnaaa
namespace MM

/-- Subtracting modulo m, as whole numbers. -/
theorem subm_int (a b m : Nat) (hm : 0 < m) : ∃ k : Int, (subm a b m : Int) = (a : Int) - b + m * k := by
  have h1 := Nat.mod_lt a hm
  have h2 := Nat.mod_lt b hm
  have ha := Nat.div_add_mod a m
  have hb := Nat.div_add_mod b m
  have hs := Nat.div_add_mod (a % m + m - b % m) m
  refine ⟨(b / m : Nat) - (a / m : Nat) + 1 - ((a % m + m - b % m) / m : Nat), ?_⟩
  unfold subm
  have ha' : (m : Int) * ((a / m : Nat) : Int) + ((a % m : Nat) : Int) = a := by rw [← Int.natCast_mul, ← Int.natCast_add, ha]
  have hb' : (m : Int) * ((b / m : Nat) : Int) + ((b % m : Nat) : Int) = b := by rw [← Int.natCast_mul, ← Int.natCast_add, hb]
  have hs' : (m : Int) * (((a % m + m - b % m) / m : Nat) : Int) + (((a % m + m - b % m) % m : Nat) : Int) = ((a % m : Nat) : Int) + m - ((b % m : Nat) : Int) := by
    rw [← Int.natCast_mul, ← Int.natCast_add, hs]; omega
  grind

theorem mod_int (a m : Nat) : ∃ k : Int, ((a % m : Nat) : Int) = (a : Int) + m * k := by
  have ha := Nat.div_add_mod a m
  refine ⟨-((a / m : Nat) : Int), ?_⟩
  have ha' : (m : Int) * ((a / m : Nat) : Int) + ((a % m : Nat) : Int) = a := by rw [← Int.natCast_mul, ← Int.natCast_add, ha]
  grind

/-- What the loop of the inverse keeps. -/
structure InvAt (a m rest next inv aft : Nat) : Prop where
  g : Nat.gcd rest next = Nat.gcd a m
  r0 : 0 < rest
  r1 : rest ≤ m
  n1 : next < rest
  i1 : inv < m
  a1 : aft ≤ m
  a2 : 0 < next → aft < m
  e1 : ∃ k : Int, (inv : Int) * a = rest + m * k
  e2 : ∃ k : Int, (aft : Int) * a = next + m * k

theorem InvAt.start (a m : Nat) (hm : 0 < m) : InvAt a m m (a % m) 0 1 := by
  have h := Nat.mod_lt a hm
  refine ⟨by rw [Nat.gcd_comm a m, Nat.gcd_rec m a, Nat.gcd_comm], hm, Nat.le_refl _, h, hm, hm, fun h' => by omega, ⟨-1, by grind⟩, ?_⟩
  obtain ⟨k, hk⟩ := mod_int a m
  exact ⟨-k, by rw [hk]; grind⟩

theorem InvAt.step {a m rest next inv aft : Nat} (h : InvAt a m rest next inv aft) (hn : 0 < next) :
    InvAt a m next (rest % next) aft (subm inv (rest / next * aft % m) m) := by
  have hm : 0 < m := by have := h.i1; omega
  have h1 := Nat.mod_lt rest hn
  have h2 := Nat.div_add_mod rest next
  refine ⟨?_, hn, by have := h.n1; have := h.r1; omega, h1, h.a2 hn, Nat.le_of_lt (Nat.mod_lt _ hm), fun _ => Nat.mod_lt _ hm, h.e2, ?_⟩
  · rw [← h.g, Nat.gcd_comm, ← Nat.gcd_rec, Nat.gcd_comm]
  · obtain ⟨k1, e1⟩ := h.e1
    obtain ⟨k2, e2⟩ := h.e2
    obtain ⟨k3, e3⟩ := subm_int inv (rest / next * aft % m) m hm
    obtain ⟨k4, e4⟩ := mod_int (rest / next * aft) m
    have e5 : ((rest / next * aft : Nat) : Int) = ((rest / next : Nat) : Int) * aft := Int.natCast_mul _ _
    have e6 : (next : Int) * ((rest / next : Nat) : Int) + ((rest % next : Nat) : Int) = rest := by rw [← Int.natCast_mul, ← Int.natCast_add, h2]
    generalize rest % next = r at *
    generalize hq : rest / next = q at *
    rw [e5] at e4
    rw [e4] at e3
    refine ⟨k1 - q * k2 - k4 * a + k3 * a, ?_⟩
    rw [e3]
    have : ((inv : Int) - ((q : Int) * aft + m * k4) + m * k3) * a = inv * a - q * (aft * a) - m * k4 * a + m * k3 * a := by grind
    rw [this, e1, e2]
    grind

/-- An inverse of a modulo m. -/
def IsInv (a m x : Nat) : Prop := x < m ∧ a * x % m = 1 % m
noncomputable def invm (a m : Nat) : Nat := @Classical.epsilon Nat ⟨0⟩ (IsInv a m)

theorem mod_of_int {x y m : Nat} (h : ∃ k : Int, (x : Int) = y + m * k) : x % m = y % m := by
  obtain ⟨k, hk⟩ := h
  have h2 : ((x % m : Nat) : Int) = ((y % m : Nat) : Int) := by
    rw [Int.natCast_emod, Int.natCast_emod, hk, Int.add_mul_emod_self_left]
  omega

theorem InvAt.done {a m rest inv aft : Nat} (h : InvAt a m rest 0 inv aft) : rest = Nat.gcd a m ∧ (rest = 1 → IsInv a m inv) := by
  refine ⟨by rw [← h.g, Nat.gcd_zero_right], fun e => ⟨h.i1, ?_⟩⟩
  subst e
  obtain ⟨k, hk⟩ := h.e1
  refine mod_of_int ⟨k, ?_⟩
  rw [Int.natCast_mul, Int.mul_comm, hk]

theorem int_of_mod {x y m : Nat} (h : x % m = y % m) : ∃ k : Int, (x : Int) = y + m * k := by
  obtain ⟨k1, e1⟩ := mod_int x m
  obtain ⟨k2, e2⟩ := mod_int y m
  rw [h] at e1
  exact ⟨k2 - k1, by grind⟩

theorem IsInv.gcd {a m x : Nat} (h : IsInv a m x) : Nat.gcd a m = 1 := by
  obtain ⟨k, hk⟩ := int_of_mod h.2
  have d1 : ((Nat.gcd a m : Nat) : Int) ∣ (a : Int) := Int.natCast_dvd_natCast.2 (Nat.gcd_dvd_left a m)
  have d2 : ((Nat.gcd a m : Nat) : Int) ∣ (m : Int) := Int.natCast_dvd_natCast.2 (Nat.gcd_dvd_right a m)
  have d : ((Nat.gcd a m : Nat) : Int) ∣ 1 := by
    have e : (1 : Int) = a * x - m * k := by rw [Int.natCast_mul] at hk; rw [hk]; simp
    rw [e]
    exact Int.dvd_sub (Int.dvd_mul_of_dvd_left d1) (Int.dvd_mul_of_dvd_left d2)
  have := Int.natCast_dvd_natCast.1 (show ((Nat.gcd a m : Nat) : Int) ∣ ((1 : Nat) : Int) from d)
  exact Nat.dvd_one.1 this

theorem IsInv.unique {a m x y : Nat} (hx : IsInv a m x) (hy : IsInv a m y) : x = y := by
  obtain ⟨k1, e1⟩ := int_of_mod hx.2
  obtain ⟨k2, e2⟩ := int_of_mod hy.2
  have : x % m = y % m := by
    refine mod_of_int ⟨k1 * y - k2 * x, ?_⟩
    rw [Int.natCast_mul] at e1 e2
    have h1 : (a : Int) * x * y = (1 + m * k1) * y := by rw [e1]; rfl
    have h2 : (a : Int) * y * x = (1 + m * k2) * x := by rw [e2]; rfl
    grind
  rwa [Nat.mod_eq_of_lt hx.1, Nat.mod_eq_of_lt hy.1] at this

theorem invm_is {a m : Nat} (h : ∃ x, IsInv a m x) : IsInv a m (invm a m) := Classical.epsilon_spec h
theorem invm_eq {a m x : Nat} (h : IsInv a m x) : invm a m = x := (invm_is ⟨x, h⟩).unique h

end MM
end Go.Proofs.Ytlnlepadninnaaa
/- The test of primes that the program makes, as a function on numbers. Nothing here speaks of the program. -/
namespace Go.Proofs.Ytlnlepadninnaaa
namespace MM

/-- The numbers by which a prime is tested. -/
def wits : List Nat := [2, 3, 5, 7, 11, 13, 17, 19, 23]

/-- Squared again and again, k times at most: is n - 1 met? -/
def passB (n : Nat) : Nat → Nat → Bool
  | 0, _ => false
  | k + 1, x => x == n - 1 || passB n k (x * x % n)

/-- All the numbers of a list: n is one that divides it, or each passes. -/
def primeL (n d t : Nat) : List Nat → Bool
  | [] => true
  | v :: l => if n % v = 0 then n == v else if powm v d n == 1 || passB n t (powm v d n) then primeL n d t l else false

/-- What mod.Prime answers; t: how often 2 divides n - 1. -/
def primeB (t n : Nat) : Bool := if n < 2 ∨ 2305843009213693952 < n then false else primeL n ((n - 1) / 2 ^ t) t wits

theorem wits_pos : ∀ k, k < 9 → 2 ≤ wits.getD k 0 ∧ wits.getD k 0 < 24 := by decide
theorem wits_drop (k : Nat) (h : k < 9) : wits.drop k = wits.getD k 0 :: wits.drop (k + 1) := by
  rw [List.drop_eq_getElem_cons (show k < wits.length from h), List.getD_eq_getElem?_getD, List.getElem?_eq_getElem (show k < wits.length from h)]
  rfl
end MM
end Go.Proofs.Ytlnlepadninnaaa
/- Plain facts on inverses modulo a number: when there is one, of a product, of an inverse. Nothing here speaks of the program. -/
namespace Go.Proofs.Ytlnlepadninnaaa
namespace MM

theorem InvAt.all {a m : Nat} (hg : Nat.gcd a m = 1) : ∀ (next rest inv aft : Nat), InvAt a m rest next inv aft → ∃ x, IsInv a m x := by
  intro next
  induction next using Nat.strongRecOn with
  | _ next ih =>
    intro rest inv aft h
    rcases Nat.eq_zero_or_pos next with e | e
    · subst e
      obtain ⟨h1, h2⟩ := h.done
      exact ⟨inv, h2 (by rw [h1, hg])⟩
    · exact ih (rest % next) (Nat.mod_lt _ e) _ _ _ (h.step e)
theorem exists_inv {a m : Nat} (hm : 0 < m) (hg : Nat.gcd a m = 1) : ∃ x, IsInv a m x := InvAt.all hg _ _ _ _ (InvAt.start a m hm)

theorem gcd_mod (a m : Nat) : Nat.gcd (a % m) m = Nat.gcd a m := by rw [← Nat.gcd_rec, Nat.gcd_comm]

theorem IsInv.mul {a b m x y : Nat} (hx : IsInv a m x) (hy : IsInv b m y) : IsInv (a * b % m) m (x * y % m) := by
  have hm : 0 < m := by have := hx.1; omega
  refine ⟨Nat.mod_lt _ hm, ?_⟩
  rw [← Nat.mul_mod, Nat.mul_mul_mul_comm, Nat.mul_mod, hx.2, hy.2, ← Nat.mul_mod]
theorem IsInv.back {a m x : Nat} (hx : IsInv a m x) : IsInv x m (a % m) := by
  have hm : 0 < m := by have := hx.1; omega
  exact ⟨Nat.mod_lt _ hm, by rw [mul_mod_right', Nat.mul_comm, hx.2]⟩
theorem gcd_mul_left {a b m : Nat} (h : Nat.gcd a m ≠ 1) : Nat.gcd (a * b % m) m ≠ 1 := by
  rw [gcd_mod]
  intro e
  have d : Nat.gcd a m ∣ Nat.gcd (a * b) m := Nat.dvd_gcd (Nat.dvd_mul_right_of_dvd (Nat.gcd_dvd_left a m) b) (Nat.gcd_dvd_right a m)
  rw [e] at d
  exact h (Nat.dvd_one.1 d)
theorem gcd_mul_right {a b m : Nat} (h : Nat.gcd b m ≠ 1) : Nat.gcd (a * b % m) m ≠ 1 := by
  rw [Nat.mul_comm]; exact gcd_mul_left h
end MM
end Go.Proofs.Ytlnlepadninnaaa
/- Plain facts on polynomials as rows of coefficients, modulo any number. Nothing here speaks of the program. -/
namespace Go.Proofs.Ytlnlepadninnaaa
namespace MM
/-- The coefficient at i, modulo q; 0 behind the end. -/
def atU (n q : Nat) (z : Nat → Nat) (i : Nat) : Nat := if i < n then z i % q else 0
theorem atU_lt {n q i : Nat} {z : Nat → Nat} (h : Good q) : atU n q z i < 18446744073709551616 := by
  unfold atU
  by_cases hi : i < n
  · rw [if_pos hi]; exact lt_of_mod h
  · rw [if_neg hi]; omega
/-- The value of the first n coefficients at x. -/
def evalU (c : Nat → Nat) (x q : Nat) : Nat → Nat
  | 0 => 0
  | n + 1 => addU (evalU c x q n) (mulU (c n) (powU x n q) q) q
theorem evalU_lt (c : Nat → Nat) (x q n : Nat) : evalU c x q n < 18446744073709551616 := by
  cases n
  · show (0 : Nat) < _; omega
  · exact addU_lt _ _ _
/-- The degree of the first n coefficients: that of the last one that is not 0 modulo q. -/
def degU (c : Nat → Nat) (q : Nat) : Nat → Int
  | 0 => -1
  | n + 1 => if c n % q = 0 then degU c q n else n
theorem degU_bd (c : Nat → Nat) (q : Nat) : ∀ n : Nat, -1 ≤ degU c q n ∧ degU c q n < n
  | 0 => ⟨by show (-1 : Int) ≤ -1; omega, by show (-1 : Int) < ((0 : Nat) : Int); omega⟩
  | n + 1 => by
    have h := degU_bd c q n
    unfold degU
    by_cases h0 : c n % q = 0
    · rw [if_pos h0]; omega
    · rw [if_neg h0]; omega
/-- The coefficients of a sum, and of a multiple. -/
def sumU (n m q : Nat) (a b : Nat → Nat) (i : Nat) : Nat := addU (atU n q a i) (atU m q b i) q
def scaleU (k q : Nat) (a : Nat → Nat) (i : Nat) : Nat := mulU (a i) k q
/-- The coefficient at n of a product: its first i summands. -/
def convU (la lb q : Nat) (a b : Nat → Nat) (n : Nat) : Nat → Nat
  | 0 => 0
  | i + 1 => if i < la ∧ n - i < lb then addU (convU la lb q a b n i) (mulU (a i) (b (n - i)) q) q else convU la lb q a b n i
theorem convU_lt (la lb q : Nat) (a b : Nat → Nat) (n : Nat) : ∀ i, convU la lb q a b n i < 18446744073709551616
  | 0 => by show (0 : Nat) < _; omega
  | i + 1 => by
    unfold convU
    by_cases h : i < la ∧ n - i < lb
    · rw [if_pos h]; exact addU_lt _ _ _
    · rw [if_neg h]; exact convU_lt la lb q a b n i
def timesU (la lb q : Nat) (a b : Nat → Nat) (n : Nat) : Nat := convU la lb q a b n (n + 1)
/-- Whether the first n coefficients are the same. -/
def sameU (la lb q : Nat) (a b : Nat → Nat) : Nat → Bool
  | 0 => true
  | n + 1 => sameU la lb q a b n && (atU la q a n == atU lb q b n)
theorem sameU_no {la lb q : Nat} {a b : Nat → Nat} {k : Nat} (h : atU la q a k ≠ atU lb q b k) : ∀ n, k < n → sameU la lb q a b n = false
  | 0, hk => absurd hk (by omega)
  | n + 1, hk => by
    unfold sameU
    rcases Nat.lt_or_ge k n with h1 | h1
    · rw [sameU_no h n h1, Bool.false_and]
    · obtain rfl : k = n := by omega
      rw [show (atU la q a k == atU lb q b k) = false by simpa using h, Bool.and_false]
theorem sameU_succ {la lb q : Nat} {a b : Nat → Nat} {k : Nat} (h0 : sameU la lb q a b k = true) (h : atU la q a k = atU lb q b k) : sameU la lb q a b (k + 1) = true := by
  rw [sameU, h0, h]; simp
/-- The difference, and the inverse with what is told beside it, modulo any number. -/
def subU (a b m : Nat) : Nat := if Good m then subm a b m else 0
theorem subU_lt (a b m : Nat) : subU a b m < 18446744073709551616 := by
  unfold subU
  by_cases h : Good m
  · rw [if_pos h]; exact lt_of_mod h
  · rw [if_neg h]; omega
noncomputable def invU (a m : Nat) : Nat := if Good m ∧ Nat.gcd a m = 1 then invm a m else 0
def invC (a m : Nat) : Int := if Good m then (if Nat.gcd a m = 1 then 0 else 5) else 1
theorem invU_of {a m x : Nat} (h : Good m) (hx : IsInv a m x) : invU a m = x := by unfold invU; rw [if_pos ⟨h, hx.gcd⟩, invm_eq hx]
theorem invU_lt (a m : Nat) : invU a m < 18446744073709551616 := by
  unfold invU
  by_cases h : Good m ∧ Nat.gcd a m = 1
  · rw [if_pos h]
    obtain ⟨x, hx⟩ := exists_inv h.1.1 h.2
    rw [invm_eq hx]
    have := hx.1; have := h.1.2; omega
  · rw [if_neg h]; omega
/-- What is wrong with places: two that are the same, one that has no inverse against another. -/
def twRow (q : Nat) (z : Nat → Nat) (i : Nat) : Nat → Bool
  | 0 => false
  | k + 1 => twRow q z i k || (subU (z i) (z k) q == 0)
def noRow (q : Nat) (z : Nat → Nat) (i : Nat) : Nat → Bool
  | 0 => false
  | k + 1 => noRow q z i k || (invC (subU (z i) (z k) q) q != 0)
def twAll (q : Nat) (z : Nat → Nat) : Nat → Bool
  | 0 => false
  | i + 1 => twAll q z i || twRow q z i i
def noAll (q : Nat) (z : Nat → Nat) : Nat → Bool
  | 0 => false
  | i + 1 => noAll q z i || noRow q z i i
theorem twRow_up {q : Nat} {z : Nat → Nat} {i k : Nat} (h : subU (z i) (z k) q = 0) : ∀ n, k < n → twRow q z i n = true
  | 0, hk => absurd hk (by omega)
  | n + 1, hk => by
    unfold twRow
    rcases Nat.lt_or_ge k n with h1 | h1
    · rw [twRow_up h n h1, Bool.true_or]
    · obtain rfl : k = n := by omega
      rw [h]; simp
theorem twAll_up {q : Nat} {z : Nat → Nat} {i : Nat} (h : twRow q z i i = true) : ∀ n, i < n → twAll q z n = true
  | 0, hk => absurd hk (by omega)
  | n + 1, hk => by
    unfold twAll
    rcases Nat.lt_or_ge i n with h1 | h1
    · rw [twAll_up h n h1, Bool.true_or]
    · obtain rfl : i = n := by omega
      rw [h, Bool.or_true]
/-- What is told of places where there are numbers, and not too many places. -/
def wrongB (q : Nat) (z : Nat → Nat) (n : Nat) : Int := if twAll q z n = true then 6 else if noAll q z n = true then 5 else 0
def wrongU (q n : Nat) (z : Nat → Nat) : Int := if ¬ Good q then 1 else if 1024 < n then 40 else wrongB q z n
/-- The weight of the place i: its first k factors. -/
noncomputable def weightU (q : Nat) (z : Nat → Nat) (place i : Nat) : Nat → Nat
  | 0 => addU 1 0 q
  | k + 1 => if k = i then weightU q z place i k else mulU (weightU q z place i k) (mulU (subU place (z k) q) (invU (subU (z i) (z k) q) q) q) q
/-- What is 0 at the first i places, and the polynomial through the first i points, point by point. -/
def noneU (q : Nat) (z : Nat → Nat) : Nat → Nat → Nat
  | 0 => fun _ => addU 1 0 q
  | i + 1 => timesU (i + 1) 2 q (noneU q z i) (two (subU 0 (z i) q) 1)
theorem noneU_lt (q : Nat) (z : Nat → Nat) : ∀ i k, noneU q z i k < 18446744073709551616
  | 0, _ => addU_lt _ _ _
  | _ + 1, _ => convU_lt _ _ _ _ _ _ _
noncomputable def facU (q : Nat) (z y : Nat → Nat) (i : Nat) (o : Nat → Nat) : Nat := mulU (subU (y i) (evalU o (z i) q i) q) (invU (evalU (noneU q z i) (z i) q (i + 1)) q) q
noncomputable def thruU (q : Nat) (z y : Nat → Nat) : Nat → Nat → Nat
  | 0 => fun _ => 0
  | i + 1 => sumU i (i + 1) q (thruU q z y i) (scaleU (facU q z y i (thruU q z y i)) q (noneU q z i))
end MM
end Go.Proofs.Ytlnlepadninnaaa
/- The walks of the program's polynomials: what is allowed, a coefficient behind the end, and multiples. -/
namespace Go.Proofs.Ytlnlepadninnaaa
open Go Go.RowKit Go.Lib
namespace M
/-- The coefficients' reader: a closure over two boxes. -/
def Box (W : World) (B : Nat) (t : TypeId) (v : Value) : Prop := W.heap[B]? = some (.cells #[v] t (0, 0))
theorem Box.below {W W' : World} {B : Nat} {t : TypeId} {v : Value} (h : Box W B t v) (hb : Below W.heap.size W W') : Box W' B t v := (hb.block B (row_lt h)).trans h
theorem Box.kept {W w : World} {B P : Nat} {t : TypeId} {v : Value} (h : Box W P t v) (hk : Kept B W w) (hne : P ≠ B) : Box w P t v := (hk P (row_lt h) hne).trans h
theorem Box.cell {W : World} {B : Nat} {t : TypeId} {v : Value} (h : Box W B t v) : W.cell? ⟨B, 0, none⟩ = some v := by rw [cell_of_row W B 0 _ _ _ h]; rfl
theorem Box.free {W : World} {B : Nat} {t : TypeId} {v : Value} (h : Box W B t v) : W.frozen? ⟨B, 0, none⟩ = false := by simp [World.frozen?, show W.heap[B]? = _ from h]
theorem Box.new (W : World) (t : TypeId) (v : Value) : Box (W.alloc (.cells #[v] t)) W.heap.size t v := heap_alloc_new _ _

theorem addU_zero (x q : Nat) (hq : MM.Good q) : MM.addU x 0 q = x % q := by rw [MM.addU_of hq, Nat.add_zero]
end M
end Go.Proofs.Ytlnlepadninnaaa
