/- The texts FixOwn, ModMath3, FixW1, FixW2, FixW3, one behind the other. -/
import Derived.Test.YtnlkikcnjlkkdaaWB2
import Derived.Test.YtnlkikcnjlkkdaaWB1
import Derived.IntWalk
/- Whole numbers that a slice reads; rows of them; models as they lie. -/
namespace Go.Proofs.Ytnlkikcnjlkkdaa
open Go Go.RowKit Go.Lib
namespace M
/-- Whole numbers that a slice reads, where one without an address is the nil slice. -/
def IRow (W : World) (ao : Option Addr) (n c : Nat) (z : Nat → Int) : Prop := (∀ k, k < n → ∃ ad, ao = some ad ∧ W.cell? (ad.add k) = some (.int .i64 (z k))) ∧ (ao = none → n = 0 ∧ c = 0) ∧ n ≤ c
theorem IRow.below {W W' : World} {ao : Option Addr} {n c : Nat} {z : Nat → Int} (h : IRow W ao n c z) (hb : Below W.heap.size W W') : IRow W' ao n c z := ⟨fun k hk => by
  obtain ⟨ad, e, hc⟩ := h.1 k hk
  exact ⟨ad, e, (hb.cell (World.block_lt_of_cell? W _ hc)).trans hc⟩, h.2⟩
theorem IRow.at_ {W : World} {ao : Option Addr} {n c : Nat} {z : Nat → Int} (h : IRow W ao n c z) {k : Nat} (hk : k < n) : ∃ ad, ao = some ad ∧ W.cell? (ad.add k) = some (.int .i64 (z k)) := h.1 k hk
theorem IRow.nil (W : World) (z : Nat → Int) : IRow W none 0 0 z := ⟨fun _ h => absurd h (by omega), fun _ => ⟨rfl, rfl⟩, Nat.le_refl _⟩
/-- Rows of whole numbers that a slice reads. -/
def IMat (W : World) (ao : Option Addr) (m : Nat) (L : Nat → Nat) (F : Nat → Nat → Int) : Prop := ∀ i, i < m → ∃ ad bo c, ao = some ad ∧ W.cell? (ad.add i) = some (.slice bo (L i) c) ∧ IRow W bo (L i) c (F i)
theorem IMat.below {W W' : World} {ao : Option Addr} {m : Nat} {L : Nat → Nat} {F : Nat → Nat → Int} (h : IMat W ao m L F) (hb : Below W.heap.size W W') : IMat W' ao m L F := fun i hi => by
  obtain ⟨ad, bo, c, e, hc, hr⟩ := h i hi
  exact ⟨ad, bo, c, e, (hb.cell (World.block_lt_of_cell? W _ hc)).trans hc, hr.below hb⟩
/-- Where a model lies. -/
structure MoV where
  wo : Option Addr
  wc : Nat
  bo : Option Addr
  bc : Nat
/-- A model's two cells. -/
abbrev MoV.cells (v : MoV) (o : MM.Mo) : Array Value := #[.slice v.wo o.m v.wc, .slice v.bo o.n v.bc]
/-- The model reads so. -/
structure MoAt (W : World) (v : MoV) (o : MM.Mo) : Prop where
  mat : IMat W v.wo o.m o.L o.F
  bias : IRow W v.bo o.n v.bc o.b
theorem MoAt.below {W W' : World} {v : MoV} {o : MM.Mo} (h : MoAt W v o) (hb : Below W.heap.size W W') : MoAt W' v o := ⟨h.mat.below hb, h.bias.below hb⟩
/-- The sizes are such as there can be. -/
structure MoOk (o : MM.Mo) : Prop where
  m : o.m ≤ 9223372036854775807
  n : o.n ≤ 9223372036854775807
  L : ∀ i, o.L i ≤ 9223372036854775807
  F : ∀ i j, -9223372036854775808 ≤ o.F i j ∧ o.F i j ≤ 9223372036854775807
  b : ∀ i, -9223372036854775808 ≤ o.b i ∧ o.b i ≤ 9223372036854775807
/-- The model lies in the block g. -/
def BoxM (w : World) (g : Nat) (v : MoV) (o : MM.Mo) : Prop := w.heap[g]? = some (.cells (v.cells o) 36 (0, 0))
theorem BoxM.lt {w : World} {g : Nat} {v : MoV} {o : MM.Mo} (h : BoxM w g v o) : g < w.heap.size := row_lt h
theorem BoxM.below {w w' : World} {g : Nat} {v : MoV} {o : MM.Mo} (h : BoxM w g v o) (hb : Below w.heap.size w w') : BoxM w' g v o := (hb.block _ h.lt).trans h
theorem BoxM.new (w : World) (v : MoV) (o : MM.Mo) : BoxM (w.alloc (.cells (v.cells o) 36)) w.heap.size v o := heap_alloc_new w _
theorem BoxM.cell {w : World} {g : Nat} {v : MoV} {o : MM.Mo} (h : BoxM w g v o) (j : Nat) : w.cell? ⟨g, j, none⟩ = (v.cells o)[j]? := cell_of_row w g j _ _ _ h
theorem info_pm : (Try.prog.info? 31).map (·.size) = some 12 := by kernel_rfl
theorem info_mo : (Try.prog.info? 36).map (·.size) = some 2 := by kernel_rfl
/-- Parameters, a model, loaded out of their blocks. -/
theorem load_pm {ops : Array Oper} {rest : List Oper} {o : Oper} {a : Act} {w : World} {Q : Exit → Act → World → Prop} (hgd : Region.wanted o (yielded ops a.tmps) = true) (x : Operand) (ho : o.op = .load 31 x)
    (g : Nat) (hx : a.eval x = .pointer (some ⟨g, 0, none⟩)) (p : Pm) (hg : PBox w g p) (h : wpList Try.prog ops Q rest (a.put o.dst (.agg p.cells)) w) : wpList Try.prog ops Q (o :: rest) a w :=
  wpList_row_if hgd _ x ho g hx _ p.cells (0, 0) _ hg Try.underlying31 rfl info_pm h
theorem load_mo {ops : Array Oper} {rest : List Oper} {o : Oper} {a : Act} {w : World} {Q : Exit → Act → World → Prop} (hgd : Region.wanted o (yielded ops a.tmps) = true) (x : Operand) (ho : o.op = .load 36 x)
    (g : Nat) (hx : a.eval x = .pointer (some ⟨g, 0, none⟩)) (v : MoV) (m : MM.Mo) (hg : BoxM w g v m) (h : wpList Try.prog ops Q rest (a.put o.dst (.agg (v.cells m))) w) : wpList Try.prog ops Q (o :: rest) a w :=
  wpList_row_if hgd _ x ho g hx _ (v.cells m) (0, 0) _ hg Try.underlying36 rfl info_mo h
end M
end Go.Proofs.Ytnlkikcnjlkkdaa
/- Plain facts on inverses modulo a number, and on what Euclid's way with inverses beside it keeps. Nothing here speaks of the program. -/
namespace Go.Proofs.Ytnlkikcnjlkkdaa
namespace MM

/-- Subtracting modulo m, as whole numbers. -/
theorem subm_int (a b m : Nat) (hm : 0 < m) : ∃ k : Int, (subm a b m : Int) = (a : Int) - b + m * k := by
  have h1 := Nat.mod_lt a hm
  have h2 := Nat.mod_lt b hm
  have ha := Nat.div_add_mod a m
  have hb := Nat.div_add_mod b m
  have hs := Nat.div_add_mod (a % m + m - b % m) m
  refine ⟨(b / m : Nat) - (a / m : Nat) + 1 - ((a % m + m - b % m) / m : Nat), ?_⟩
  unfold subm
  have ha' : (m : Int) * ((a / m : Nat) : Int) + ((a % m : Nat) : Int) = a := by rw [← Int.natCast_mul, ← Int.natCast_add, ha]
  have hb' : (m : Int) * ((b / m : Nat) : Int) + ((b % m : Nat) : Int) = b := by rw [← Int.natCast_mul, ← Int.natCast_add, hb]
  have hs' : (m : Int) * (((a % m + m - b % m) / m : Nat) : Int) + (((a % m + m - b % m) % m : Nat) : Int) = ((a % m : Nat) : Int) + m - ((b % m : Nat) : Int) := by
    rw [← Int.natCast_mul, ← Int.natCast_add, hs]; omega
  grind

theorem mod_int (a m : Nat) : ∃ k : Int, ((a % m : Nat) : Int) = (a : Int) + m * k := by
  have ha := Nat.div_add_mod a m
  refine ⟨-((a / m : Nat) : Int), ?_⟩
  have ha' : (m : Int) * ((a / m : Nat) : Int) + ((a % m : Nat) : Int) = a := by rw [← Int.natCast_mul, ← Int.natCast_add, ha]
  grind

/-- What the loop of the inverse keeps. -/
structure InvAt (a m rest next inv aft : Nat) : Prop where
  g : Nat.gcd rest next = Nat.gcd a m
  r0 : 0 < rest
  r1 : rest ≤ m
  n1 : next < rest
  i1 : inv < m
  a1 : aft ≤ m
  a2 : 0 < next → aft < m
  e1 : ∃ k : Int, (inv : Int) * a = rest + m * k
  e2 : ∃ k : Int, (aft : Int) * a = next + m * k

theorem InvAt.start (a m : Nat) (hm : 0 < m) : InvAt a m m (a % m) 0 1 := by
  have h := Nat.mod_lt a hm
  refine ⟨by rw [Nat.gcd_comm a m, Nat.gcd_rec m a, Nat.gcd_comm], hm, Nat.le_refl _, h, hm, hm, fun h' => by omega, ⟨-1, by grind⟩, ?_⟩
  obtain ⟨k, hk⟩ := mod_int a m
  exact ⟨-k, by rw [hk]; grind⟩

theorem InvAt.step {a m rest next inv aft : Nat} (h : InvAt a m rest next inv aft) (hn : 0 < next) :
    InvAt a m next (rest % next) aft (subm inv (rest / next * aft % m) m) := by
  have hm : 0 < m := by have := h.i1; omega
  have h1 := Nat.mod_lt rest hn
  have h2 := Nat.div_add_mod rest next
  refine ⟨?_, hn, by have := h.n1; have := h.r1; omega, h1, h.a2 hn, Nat.le_of_lt (Nat.mod_lt _ hm), fun _ => Nat.mod_lt _ hm, h.e2, ?_⟩
  · rw [← h.g, Nat.gcd_comm, ← Nat.gcd_rec, Nat.gcd_comm]
  · obtain ⟨k1, e1⟩ := h.e1
    obtain ⟨k2, e2⟩ := h.e2
    obtain ⟨k3, e3⟩ := subm_int inv (rest / next * aft % m) m hm
    obtain ⟨k4, e4⟩ := mod_int (rest / next * aft) m
    have e5 : ((rest / next * aft : Nat) : Int) = ((rest / next : Nat) : Int) * aft := Int.natCast_mul _ _
    have e6 : (next : Int) * ((rest / next : Nat) : Int) + ((rest % next : Nat) : Int) = rest := by rw [← Int.natCast_mul, ← Int.natCast_add, h2]
    generalize rest % next = r at *
    generalize hq : rest / next = q at *
    rw [e5] at e4
    rw [e4] at e3
    refine ⟨k1 - q * k2 - k4 * a + k3 * a, ?_⟩
    rw [e3]
    have : ((inv : Int) - ((q : Int) * aft + m * k4) + m * k3) * a = inv * a - q * (aft * a) - m * k4 * a + m * k3 * a := by grind
    rw [this, e1, e2]
    grind

/-- An inverse of a modulo m. -/
def IsInv (a m x : Nat) : Prop := x < m ∧ a * x % m = 1 % m
noncomputable def invm (a m : Nat) : Nat := @Classical.epsilon Nat ⟨0⟩ (IsInv a m)

theorem mod_of_int {x y m : Nat} (h : ∃ k : Int, (x : Int) = y + m * k) : x % m = y % m := by
  obtain ⟨k, hk⟩ := h
  have h2 : ((x % m : Nat) : Int) = ((y % m : Nat) : Int) := by
    rw [Int.natCast_emod, Int.natCast_emod, hk, Int.add_mul_emod_self_left]
  omega

theorem InvAt.done {a m rest inv aft : Nat} (h : InvAt a m rest 0 inv aft) : rest = Nat.gcd a m ∧ (rest = 1 → IsInv a m inv) := by
  refine ⟨by rw [← h.g, Nat.gcd_zero_right], fun e => ⟨h.i1, ?_⟩⟩
  subst e
  obtain ⟨k, hk⟩ := h.e1
  refine mod_of_int ⟨k, ?_⟩
  rw [Int.natCast_mul, Int.mul_comm, hk]

theorem int_of_mod {x y m : Nat} (h : x % m = y % m) : ∃ k : Int, (x : Int) = y + m * k := by
  obtain ⟨k1, e1⟩ := mod_int x m
  obtain ⟨k2, e2⟩ := mod_int y m
  rw [h] at e1
  exact ⟨k2 - k1, by grind⟩

theorem IsInv.gcd {a m x : Nat} (h : IsInv a m x) : Nat.gcd a m = 1 := by
  obtain ⟨k, hk⟩ := int_of_mod h.2
  have d1 : ((Nat.gcd a m : Nat) : Int) ∣ (a : Int) := Int.natCast_dvd_natCast.2 (Nat.gcd_dvd_left a m)
  have d2 : ((Nat.gcd a m : Nat) : Int) ∣ (m : Int) := Int.natCast_dvd_natCast.2 (Nat.gcd_dvd_right a m)
  have d : ((Nat.gcd a m : Nat) : Int) ∣ 1 := by
    have e : (1 : Int) = a * x - m * k := by rw [Int.natCast_mul] at hk; rw [hk]; simp
    rw [e]
    exact Int.dvd_sub (Int.dvd_mul_of_dvd_left d1) (Int.dvd_mul_of_dvd_left d2)
  have := Int.natCast_dvd_natCast.1 (show ((Nat.gcd a m : Nat) : Int) ∣ ((1 : Nat) : Int) from d)
  exact Nat.dvd_one.1 this

theorem IsInv.unique {a m x y : Nat} (hx : IsInv a m x) (hy : IsInv a m y) : x = y := by
  obtain ⟨k1, e1⟩ := int_of_mod hx.2
  obtain ⟨k2, e2⟩ := int_of_mod hy.2
  have : x % m = y % m := by
    refine mod_of_int ⟨k1 * y - k2 * x, ?_⟩
    rw [Int.natCast_mul] at e1 e2
    have h1 : (a : Int) * x * y = (1 + m * k1) * y := by rw [e1]; rfl
    have h2 : (a : Int) * y * x = (1 + m * k2) * x := by rw [e2]; rfl
    grind
  rwa [Nat.mod_eq_of_lt hx.1, Nat.mod_eq_of_lt hy.1] at this

theorem invm_is {a m : Nat} (h : ∃ x, IsInv a m x) : IsInv a m (invm a m) := Classical.epsilon_spec h
theorem invm_eq {a m x : Nat} (h : IsInv a m x) : invm a m = x := (invm_is ⟨x, h⟩).unique h

end MM
end Go.Proofs.Ytnlkikcnjlkkdaa
/- The walks of the number of a whole number, the whole number of a number, whether parameters fit, whether lists are within bounds. -/
namespace Go.Proofs.Ytnlkikcnjlkkdaa
open Go Go.RowKit Go.Lib
namespace MM
theorem sub_numU (m q : Nat) : (if Good q then subm 0 m q else 0) = numU (-(m : Int)) q := by
  by_cases h : Good q
  · rw [if_pos h]
    have h1 := numU_int (n := -(m : Int)) h
    obtain ⟨k, hk⟩ := subm_int 0 m q h.1
    have h2 : subm 0 m q < q := Nat.mod_lt _ h.1
    have h3 : ((subm 0 m q : Nat) : Int) % (q : Int) = -(m : Int) % (q : Int) := by
      rw [hk]
      have : ((0 : Nat) : Int) - (m : Int) + (q : Int) * k = -(m : Int) + (q : Int) * k := by omega
      rw [this, Int.add_mul_emod_self_left]
    rw [Int.emod_eq_of_lt (by omega) (by omega)] at h3
    omega
  · rw [if_neg h, numU_bad h]
theorem add_numU (m q : Nat) : addU m 0 q = numU (m : Int) q := by
  by_cases h : Good q
  · rw [addU_of h, numU_nat h]; rfl
  · unfold addU; rw [if_neg h, numU_bad h]
end MM
namespace M
theorem fsub (a b m : Nat) : Ret 18 #[.int .u64 (a : Int), .int .u64 (b : Int), .int .u64 (m : Int)] (.int .u64 ((if MM.Good m then MM.subm a b m else 0 : Nat) : Int)) := by
  by_cases h : MM.Good m
  · rw [if_pos h]; exact ret_sub a b m _ h.1 h.2 rfl
  · rw [if_neg h]; exact ret_no_sub a b m (MM.good_not h)
set_option maxHeartbeats 1000000 in
theorem num_any (n : Int) (q : Nat) (hn : -9223372036854775808 ≤ n ∧ n ≤ 9223372036854775807) : Ret 5 #[.int .i64 n, .int .u64 (q : Int)] (.int .u64 ((MM.numU n q : Nat) : Int)) := by
  intro W
  by_cases h0 : n < 0
  · obtain ⟨m, hm⟩ : ∃ m : Nat, n = -(m : Int) := ⟨n.natAbs, by omega⟩
    have hw : IntKind.u64.wrap (wrap64 (-n)) = (m : Int) := by unfold wrap64; rw [IntKind.wrap_u64]; omega
    have H : Ret 18 #[.int .u64 0, .int .u64 (m : Int), .int .u64 (q : Int)] (.int .u64 ((if MM.Good q then MM.subm 0 m q else 0 : Nat) : Int)) := fsub 0 m q
    rw [MM.sub_numU, ← hm] at H
    generalize MM.numU n q = r at *
    clear hm
    go_enter Try.func5, Try.ntmps5
    go_wp2_with (go_at_call 18; (with_reducible refine (H.at _).mono ?_); rintro e w' ⟨rfl, nd, rfl⟩)
    go_ret
    exact ⟨rfl, _, rfl⟩
  · obtain ⟨m, rfl⟩ : ∃ m : Nat, n = (m : Int) := ⟨n.toNat, by omega⟩
    have hw : IntKind.u64.wrap (m : Int) = (m : Int) := IntWalk.u64_in _ (by omega)
    have H : Ret 19 #[.int .u64 (m : Int), .int .u64 0, .int .u64 (q : Int)] (.int .u64 ((MM.addU m 0 q : Nat) : Int)) := ret_addU m 0 q
    rw [MM.add_numU] at H
    generalize MM.numU (m : Int) q = r at *
    go_enter Try.func5, Try.ntmps5
    go_wp2_with (go_at_call 19; (with_reducible refine (H.at _).mono ?_); rintro e w' ⟨rfl, nd, rfl⟩)
    go_ret
    exact ⟨rfl, _, rfl⟩
set_option maxHeartbeats 1000000 in
theorem int_any (x q : Nat) (hq : q < 18446744073709551616) : Ret 6 #[.int .u64 (x : Int), .int .u64 (q : Int)] (.int .i64 (MM.intU x q)) := by
  intro W
  have H : Ret 19 #[.int .u64 (x : Int), .int .u64 0, .int .u64 (q : Int)] (.int .u64 ((MM.addU x 0 q : Nat) : Int)) := ret_addU x 0 q
  by_cases hg : MM.Good q
  · rw [MM.addU_of hg, Nat.add_zero] at H
    have hlt := Nat.mod_lt x hg.1
    have hg1 := hg.1
    have hg2 := hg.2
    have hI : MM.intU x q = if x % q ≤ (q - 1) / 2 then ((x % q : Nat) : Int) else ((x % q : Nat) : Int) - q := if_pos hg
    rw [hI]
    clear hI
    generalize x % q = y at *
    have hs : IntKind.u64.wrap ((q : Int) - 1) = ((q - 1 : Nat) : Int) := by rw [IntWalk.u64_in _ (by omega)]; omega
    have hwq : wrap64 (q : Int) = (q : Int) := IntWalk.wrap64_in _ (by omega)
    have hwy : wrap64 (y : Int) = (y : Int) := IntWalk.wrap64_in _ (by omega)
    generalize hh : q - 1 = h1 at *
    by_cases hc : y ≤ h1 / 2
    · rw [if_pos hc]
      go_enter Try.func6, Try.ntmps6
      go_wp2_with (go_at_call 19; (with_reducible refine (H.at _).mono ?_); rintro e w' ⟨rfl, nd, rfl⟩)
      go_ret
      exact ⟨rfl, _, rfl⟩
    · rw [if_neg hc]
      go_enter Try.func6, Try.ntmps6
      go_wp2_with (go_at_call 19; (with_reducible refine (H.at _).mono ?_); rintro e w' ⟨rfl, nd, rfl⟩)
      go_ret
      exact ⟨rfl, _, rfl⟩
  · have e : MM.addU x 0 q = 0 := by unfold MM.addU; rw [if_neg hg]
    have e2 : MM.intU x q = 0 := by unfold MM.intU; rw [if_neg hg]
    rw [e] at H
    rw [e2]
    obtain ⟨h1, hs⟩ : ∃ h1 : Nat, IntKind.u64.wrap ((q : Int) - 1) = (h1 : Int) := ⟨(IntKind.u64.wrap ((q : Int) - 1)).toNat, by rw [IntKind.wrap_u64]; omega⟩
    go_enter Try.func6, Try.ntmps6
    go_wp2_with (go_at_call 19; (with_reducible refine (H.at _).mono ?_); rintro e w' ⟨rfl, nd, rfl⟩)
    go_ret
    exact ⟨rfl, _, rfl⟩
end M
end Go.Proofs.Ytnlkikcnjlkkdaa
/- The walks of whether parameters fit, whether lists are within bounds, whether a model and a query may be. -/
namespace Go.Proofs.Ytnlkikcnjlkkdaa
open Go Go.RowKit Go.Lib
namespace M
theorem fit_cases (p : Pm) : MM.Fit p ∨ p.K < 0 ∨ (0 ≤ p.K ∧ 2 < p.K) ∨ (0 ≤ p.K ∧ p.K ≤ 2 ∧ p.D < 0) ∨ (0 ≤ p.K ∧ p.K ≤ 2 ∧ 0 ≤ p.D ∧ 4 < p.D) ∨ (0 ≤ p.K ∧ p.K ≤ 2 ∧ 0 ≤ p.D ∧ p.D ≤ 4 ∧ p.M < 0) ∨ (0 ≤ p.K ∧ p.K ≤ 2 ∧ 0 ≤ p.D ∧ p.D ≤ 4 ∧ 0 ≤ p.M ∧ 1048576 < p.M) ∨
    (0 ≤ p.K ∧ p.K ≤ 2 ∧ 0 ≤ p.D ∧ p.D ≤ 4 ∧ 0 ≤ p.M ∧ p.M ≤ 1048576 ∧ p.X < 0) ∨ (0 ≤ p.K ∧ p.K ≤ 2 ∧ 0 ≤ p.D ∧ p.D ≤ 4 ∧ 0 ≤ p.M ∧ p.M ≤ 1048576 ∧ 0 ≤ p.X ∧ 1048576 < p.X) := by
  unfold MM.Fit
  omega
set_option maxRecDepth 100000 in
set_option maxHeartbeats 4000000 in
theorem usable_any (p : Pm) : RetB 20 #[.agg p.cells] (.bool (decide (MM.Fit p))) := by
  intro W
  have hb := below_box W (.cells p.cells 31)
  have HB := Lib.hid hb
  have k7 := (PBox.new W p).cell 7
  have k8 := (PBox.new W p).cell 8
  have k10 := (PBox.new W p).cell 10
  have k11 := (PBox.new W p).cell 11
  rcases fit_cases p with h | h | h | h | h | h | h | h | h
  · rw [decide_eq_true h]
    obtain ⟨h1, h2, h3, h4, h5, h6, h7, h8⟩ := h
    obtain ⟨P, Q, G, H, N, n, T, K, D, R, M, X⟩ := p
    dsimp only at *
    go_enter Try.func20, Try.ntmps20
    go_wp2_with fail
    go_ret
    exact ⟨rfl, HB.out⟩
  all_goals
    rw [decide_eq_false (show ¬ MM.Fit p by unfold MM.Fit; omega)]
    obtain ⟨P, Q, G, H, N, n, T, K, D, R, M, X⟩ := p
    dsimp only at *
    repeat (obtain ⟨_, h⟩ := h)
    go_enter Try.func20, Try.ntmps20
    go_wp2_with fail
    go_ret
    first | exact ⟨rfl, HB.out⟩ | (refine ⟨?_, HB.out⟩; rw [← decide_eq_false (show ¬ X ≤ 1048576 by omega)]; rfl)
set_option maxHeartbeats 4000000 in
theorem within_any (most : Int) (ao : Option Addr) (m cap : Nat) (L : Nat → Nat) (F : Nat → Nat → Int) (h0 : 0 ≤ most ∧ most ≤ 1048576) (hm : m ≤ 9223372036854775807) (hL : ∀ i, i < m → L i ≤ 9223372036854775807) (W : World) (hr : IMat W ao m L F) :
    Calls Try.prog 21 #[.int .i64 most, .slice ao m cap] W fun e w' => e = .returned (.bool (decide (∀ i, i < m → MM.Wi most (L i) (F i)))) ∧ W = w' := by
  have HR := Lib.hid hr
  have HL := Lib.hid hL
  have hw : wrap64 (-most) = -most := IntWalk.wrap64_in _ (by omega)
  clear hr hL
  go_enter Try.func21, Try.ntmps21
  go_wp2_with fail
  go_loop [11] (fun s11 => ∃ k : Nat, k ≤ m ∧ s11 = .int .i64 (k : Int) ∧ Hid (∀ i, i < k → MM.Wi most (L i) (F i))) (fun s11 => m - (RowKit.intOf s11).toNat)
  case atStart => exact ⟨0, Nat.zero_le _, rfl, Lib.hid fun i hi => absurd hi (by omega)⟩
  case round =>
    obtain ⟨k, hk, rfl, HJ⟩ := hrel
    by_cases hlt : k < m
    · obtain ⟨ad, bo, c, rfl, hc, hs⟩ := HR.out k hlt
      have HS := Lib.hid hs
      have hlk := HL.out k hlt
      generalize hlk' : L k = lk at *
      have HE := Lib.hid hlk'
      clear hs hlk'
      go_wp2_with fail
      go_loop [17] (fun s17 => ∃ j : Nat, j ≤ lk ∧ s17 = .int .i64 (j : Int) ∧ Hid (MM.Wi most j (F k))) (fun s17 => lk - (RowKit.intOf s17).toNat)
      case atStart => exact ⟨0, Nat.zero_le _, rfl, Lib.hid fun i hi => absurd hi (by omega)⟩
      case round =>
        obtain ⟨j, hj, rfl, HI⟩ := hrel
        by_cases hlj : j < lk
        · obtain ⟨bd, rfl, hcb⟩ := HS.out.at_ hlj
          have HX : Hid (∀ x, x = F k j → -most ≤ x → x ≤ most → MM.Wi most (j + 1) (F k)) := Lib.hid fun x hx h1 h2 i hi => by
            by_cases e : i = j
            · subst e; rw [← hx]; exact ⟨h1, h2⟩
            · exact HI.out i (by omega)
          have HY : Hid (∀ x, x = F k j → (x < -most ∨ most < x) → decide (∀ i, i < m → MM.Wi most (L i) (F i)) = false) := Lib.hid fun x hx h1 => decide_eq_false fun h => by
            have h2 := h k hlt j (by rw [HE.out]; exact hlj)
            rw [← hx] at h2
            omega
          generalize hx : F k j = x at hcb
          have HXE := Lib.hid hx
          clear hx
          by_cases hlo : x < -most
          · have HZ := Lib.hid (HY.out x HXE.out.symm (.inl hlo))
            clear HX HY
            go_wp2_with fail
            go_ret
            exact ⟨by rw [HZ.out]; rfl, rfl⟩
          · by_cases hhi : most < x
            · have HZ := Lib.hid (HY.out x HXE.out.symm (.inr hhi))
              clear HX HY
              go_wp2_with fail
              go_ret
              exact ⟨by rw [HZ.out]; rfl, rfl⟩
            · have HN := Lib.hid (HX.out x HXE.out.symm (by omega) (by omega))
              clear HX HY
              go_wp2_with fail
              go_round
              case rel => exact ⟨j + 1, by omega, by go_num, HN⟩
              case measure => simp [RowKit.intOf]; omega
        · obtain rfl : j = lk := by omega
          have HN : Hid (∀ i, i < k + 1 → MM.Wi most (L i) (F i)) := Lib.hid fun i hi => by
            by_cases e : i = k
            · subst e; rw [HE.out]; exact HI.out
            · exact HJ.out i (by omega)
          go_wp2_with fail
          go_round
          case rel => exact ⟨k + 1, by omega, by go_num, HN⟩
          case measure => simp [RowKit.intOf]; omega
    · obtain rfl : k = m := by omega
      go_wp2_with fail
      go_ret
      exact ⟨by rw [decide_eq_true HJ.out]; rfl, rfl⟩
end M
end Go.Proofs.Ytnlkikcnjlkkdaa
/- The walks of whether a model and a query may be. -/
namespace Go.Proofs.Ytnlkikcnjlkkdaa
open Go Go.RowKit Go.Lib
namespace M
/-- The parameters lie in the block g; nothing old has changed. -/
structure InP (w0 : World) (g : Nat) (p : Pm) (w : World) : Prop where
  box : PBox w g p
  below : Below w0.heap.size w0 w
theorem InP.step {w0 w w' : World} {g : Nat} {p : Pm} (h : InP w0 g p w) (hb : Below w.heap.size w w') : InP w0 g p w' := ⟨h.box.below hb, h.below.trans (hb.mono h.below.size)⟩
theorem InP.new (w : World) (p : Pm) : InP w w.heap.size p (w.alloc (.cells p.cells 31)) := ⟨PBox.new w p, below_box w _⟩
/-- Besides, a model lies in the block k. -/
structure InM (w0 : World) (g k : Nat) (p : Pm) (v : MoV) (o : MM.Mo) (w : World) : Prop where
  box : PBox w g p
  mod : BoxM w k v o
  mat : MoAt w v o
  below : Below w0.heap.size w0 w
theorem InM.step {w0 w w' : World} {g k : Nat} {p : Pm} {v : MoV} {o : MM.Mo} (h : InM w0 g k p v o w) (hb : Below w.heap.size w w') : InM w0 g k p v o w' := ⟨h.box.below hb, h.mod.below hb, h.mat.below hb, h.below.trans (hb.mono h.below.size)⟩
theorem InM.new (w : World) (p : Pm) (v : MoV) (o : MM.Mo) (h : MoAt w v o) : InM w w.heap.size (w.heap.size + 1) p v o ((w.alloc (.cells p.cells 31)).alloc (.cells (v.cells o) 36)) := by
  have h1 := InP.new w p
  have h2 := below_box (w.alloc (.cells p.cells 31)) (.cells (v.cells o) 36)
  have h3 := BoxM.new (w.alloc (.cells p.cells 31)) v o
  rw [World.size_alloc] at h3
  exact ⟨h1.box.below h2, h3, h.below ((below_box w _).trans (h2.mono (by rw [World.size_alloc]; omega))), h1.below.trans (h2.mono (by rw [World.size_alloc]; omega))⟩
theorem InM.toP {w0 w : World} {g k : Nat} {p : Pm} {v : MoV} {o : MM.Mo} (h : InM w0 g k p v o w) : InP w0 g p w := ⟨h.box, h.below⟩
/-- One row as a list of rows. -/
theorem one_mat (u : World) {ao : Option Addr} {n c : Nat} {x : Nat → Int} (h : IRow u ao n c x) : IMat (u.alloc (.cells #[.slice ao n c] 34)) (some ⟨u.heap.size, 0, none⟩) 1 (fun _ => n) (fun _ => x) := fun i hi => by
  obtain rfl : i = 0 := by omega
  exact ⟨_, ao, c, rfl, (cell_of_row _ u.heap.size 0 _ _ _ (heap_alloc_new u _)).trans rfl, h.below (below_box u _)⟩
theorem within_one (most : Int) {ao : Option Addr} {n c : Nat} {x : Nat → Int} (h0 : 0 ≤ most ∧ most ≤ 1048576) (hn : n ≤ 9223372036854775807) (u : World) (h : IRow u ao n c x) :
    Calls Try.prog 21 #[.int .i64 most, .slice (some ⟨u.heap.size, 0, none⟩) 1 1] (u.alloc (.cells #[.slice ao n c] 34)) fun e w' => e = .returned (.bool (decide (MM.Wi most n x))) ∧ Below u.heap.size u w' := by
  refine (within_any most (some ⟨u.heap.size, 0, none⟩) 1 1 (fun _ => n) (fun _ => x) h0 (by omega) (fun _ _ => hn) _ (one_mat u h)).mono ?_
  rintro e w' ⟨rfl, rfl⟩
  refine ⟨?_, below_box u _⟩
  congr 2
  exact decide_eq_decide.2 ⟨fun h => h 0 (by omega), fun h i _ => h⟩
set_option maxHeartbeats 4000000 in
theorem query_any (p : Pm) (ao : Option Addr) (n c : Nat) (x : Nat → Int) (hn : n ≤ 9223372036854775807) (W : World) (hr : IRow W ao n c x) :
    Calls Try.prog 11 #[.agg p.cells, .slice ao n c] W fun e w' => e = .returned (.int .i64 (MM.qryE p n x)) ∧ Below W.heap.size W w' := by
  have HI : Hid (InP W W.heap.size p (W.alloc (.cells p.cells 31))) := Lib.hid (InP.new W p)
  have HR := Lib.hid hr
  have HU := usable_any p
  clear hr
  unfold MM.qryE
  by_cases hf : MM.Fit p
  · rw [decide_eq_true hf] at HU
    by_cases hd : (n : Int) = p.D
    · rw [if_pos ⟨hf, hd⟩]
      have HW := Lib.hid (fun (u : World) (h : IRow u ao n c x) => within_one p.X ⟨hf.2.2.2.2.2.2.1, hf.2.2.2.2.2.2.2⟩ hn u h)
      by_cases hw : MM.Wi p.X n x
      · rw [if_pos hw]
        rw [decide_eq_true hw] at HW
        clear hw hf
        go_enter Try.func11, Try.ntmps11
        go_wp2_with (first
          | (refine load_pm ?_ _ rfl W.heap.size rfl p HI.out.box ?_; first | rfl | (simp [Region.wanted, yielded]; done))
          | (go_at_call 20; (with_reducible refine (HU.at _).mono ?_); rintro e w1 ⟨rfl, hb⟩; replace HI := Lib.hid (HI.out.step hb); have k8 := HI.out.box.cell 8; have k11 := HI.out.box.cell 11; clear hb)
          | (go_at_call 21; refine (HW.out _ (HR.out.below HI.out.below)).mono ?_; rintro e w2 ⟨rfl, hb⟩; replace HI := Lib.hid (HI.out.step hb); clear hb))
        go_ret
        exact ⟨rfl, HI.out.below⟩
      · rw [if_neg hw]
        rw [decide_eq_false hw] at HW
        clear hw hf
        go_enter Try.func11, Try.ntmps11
        go_wp2_with (first
          | (refine load_pm ?_ _ rfl W.heap.size rfl p HI.out.box ?_; first | rfl | (simp [Region.wanted, yielded]; done))
          | (go_at_call 20; (with_reducible refine (HU.at _).mono ?_); rintro e w1 ⟨rfl, hb⟩; replace HI := Lib.hid (HI.out.step hb); have k8 := HI.out.box.cell 8; have k11 := HI.out.box.cell 11; clear hb)
          | (go_at_call 21; refine (HW.out _ (HR.out.below HI.out.below)).mono ?_; rintro e w2 ⟨rfl, hb⟩; replace HI := Lib.hid (HI.out.step hb); clear hb))
        go_ret
        exact ⟨rfl, HI.out.below⟩
    · rw [if_neg fun h => hd h.2]
      clear hf
      go_enter Try.func11, Try.ntmps11
      go_wp2_with (first
          | (refine load_pm ?_ _ rfl W.heap.size rfl p HI.out.box ?_; first | rfl | (simp [Region.wanted, yielded]; done))
          | (go_at_call 20; (with_reducible refine (HU.at _).mono ?_); rintro e w1 ⟨rfl, hb⟩; replace HI := Lib.hid (HI.out.step hb); have k8 := HI.out.box.cell 8; clear hb))
      go_ret
      exact ⟨rfl, HI.out.below⟩
  · rw [if_neg fun h => hf h.1]
    rw [decide_eq_false hf] at HU
    clear hf
    go_enter Try.func11, Try.ntmps11
    go_wp2_with (first
          | (refine load_pm ?_ _ rfl W.heap.size rfl p HI.out.box ?_; first | rfl | (simp [Region.wanted, yielded]; done))
          | (go_at_call 20; (with_reducible refine (HU.at _).mono ?_); rintro e w1 ⟨rfl, hb⟩; replace HI := Lib.hid (HI.out.step hb); clear hb))
    go_ret
    exact ⟨rfl, HI.out.below⟩
set_option maxHeartbeats 8000000 in
theorem may_any (p : Pm) (v : MoV) (o : MM.Mo) (ok : MoOk o) (W : World) (hr : MoAt W v o) :
    Calls Try.prog 8 #[.agg p.cells, .agg (v.cells o)] W fun e w' => e = .returned (.bool (decide (MM.Valid p o))) ∧ Below W.heap.size W w' := by
  obtain ⟨wo, wc, bo, bc⟩ := v
  have HI : Hid (InM W W.heap.size (W.heap.size + 1) p ⟨wo, wc, bo, bc⟩ o _) := Lib.hid (InM.new W p _ o hr)
  have HU := usable_any p
  have HOK := Lib.hid ok
  have HNV : Hid (¬ MM.Valid p o → decide (MM.Valid p o) = false) := Lib.hid fun h => decide_eq_false h
  have HV : Hid (MM.Valid p o → decide (MM.Valid p o) = true) := Lib.hid fun h => decide_eq_true h
  generalize decide (MM.Valid p o) = ans at *
  clear hr ok
  by_cases hf : MM.Fit p
  · rw [decide_eq_true hf] at HU
    by_cases hm : (o.m : Int) = p.K
    · by_cases hn : (o.n : Int) = p.K
      · have hm2 := HOK.out.m
        have h20 : 0 ≤ p.M ∧ p.M ≤ 1048576 := ⟨hf.2.2.2.2.1, hf.2.2.2.2.2.1⟩
        have HW : Hid (∀ (u : World) (_ : MoAt u ⟨wo, wc, bo, bc⟩ o), Calls Try.prog 21 #[.int .i64 p.M, .slice wo o.m wc] u fun e w' => e = .returned (.bool (decide (∀ i, i < o.m → MM.Wi p.M (o.L i) (o.F i)))) ∧ u = w') := Lib.hid fun u h => within_any p.M wo o.m wc o.L o.F h20 hm2 (fun i _ => HOK.out.L i) u h.mat
        have HW1 : Hid (∀ (u : World) (_ : MoAt u ⟨wo, wc, bo, bc⟩ o), Calls Try.prog 21 #[.int .i64 p.M, .slice (some ⟨u.heap.size, 0, none⟩) 1 1] (u.alloc (.cells #[.slice bo o.n bc] 34)) fun e w' => e = .returned (.bool (decide (MM.Wi p.M o.n o.b))) ∧ Below u.heap.size u w') := Lib.hid fun u h => within_one p.M h20 HOK.out.n u h.bias
        have HF := Lib.hid hf
        clear hf h20
        go_enter Try.func8, Try.ntmps8
        go_wp2_with (first
          | (refine load_pm ?_ _ rfl W.heap.size rfl p HI.out.box ?_; first | rfl | (simp [Region.wanted, yielded]; done))
          | (go_at_call 20; (with_reducible refine (HU.at _).mono ?_); rintro e w1 ⟨rfl, hb⟩; replace HI := Lib.hid (HI.out.step hb); have k7 := HI.out.box.cell 7; have k8 := HI.out.box.cell 8; have k10 := HI.out.box.cell 10; have c0 := HI.out.mod.cell 0; have c1 := HI.out.mod.cell 1; clear hb))
        go_loop [29] (fun s29 => ∃ k : Nat, k ≤ o.m ∧ s29 = .int .i64 (k : Int) ∧ Hid (∀ i, i < k → (o.L i : Int) = p.D)) (fun s29 => o.m - (RowKit.intOf s29).toNat)
        case atStart => exact ⟨0, Nat.zero_le _, rfl, Lib.hid fun i hi => absurd hi (by omega)⟩
        case round =>
          obtain ⟨k, hk, rfl, HJ⟩ := hrel
          by_cases hlt : k < o.m
          · obtain ⟨ad, bo', c, hwo, hc, hs⟩ := HI.out.mat.mat k hlt
            have hwo' : wo = some ad := hwo
            subst hwo'
            clear hs hwo
            by_cases hl : (o.L k : Int) = p.D
            · have HN : Hid (∀ i, i < k + 1 → (o.L i : Int) = p.D) := Lib.hid fun i hi => by
                by_cases e : i = k
                · subst e; exact hl
                · exact HJ.out i (by omega)
              go_wp2_with fail
              go_round
              case rel => exact ⟨k + 1, by omega, by go_num, HN⟩
              case measure => simp [RowKit.intOf]; omega
            · have HZ := Lib.hid (HNV.out fun h => hl (h.2.2.2.1 k hlt))
              clear HNV HV
              go_wp2_with fail
              go_ret
              exact ⟨by rw [HZ.out]; rfl, HI.out.below⟩
          · obtain hkm : k = o.m := by omega
            rw [hkm] at HJ
            subst hkm
            by_cases hw : ∀ i, i < o.m → MM.Wi p.M (o.L i) (o.F i)
            · rw [decide_eq_true hw] at HW
              by_cases hw2 : MM.Wi p.M o.n o.b
              · rw [decide_eq_true hw2] at HW1
                have HZ := Lib.hid (HV.out ⟨HF.out, hm, hn, HJ.out, hw, hw2⟩)
                clear hw hw2 HV HNV
                go_wp2_with (first
                  | (go_at_call 21; (with_reducible refine (HW.out _ HI.out.mat).mono ?_); rintro e w2 ⟨rfl, rfl⟩)
                  | (go_at_call 21; (with_reducible refine (HW1.out _ HI.out.mat).mono ?_); rintro e w2 ⟨rfl, hb⟩; replace HI := Lib.hid (HI.out.step hb); clear hb))
                go_ret
                exact ⟨by rw [HZ.out]; rfl, HI.out.below⟩
              · rw [decide_eq_false hw2] at HW1
                have HZ := Lib.hid (HNV.out fun h => hw2 h.2.2.2.2.2)
                clear HNV HV
                clear hw hw2
                go_wp2_with (first
                  | (go_at_call 21; (with_reducible refine (HW.out _ HI.out.mat).mono ?_); rintro e w2 ⟨rfl, rfl⟩)
                  | (go_at_call 21; (with_reducible refine (HW1.out _ HI.out.mat).mono ?_); rintro e w2 ⟨rfl, hb⟩; replace HI := Lib.hid (HI.out.step hb); clear hb))
                go_ret
                exact ⟨by rw [HZ.out]; rfl, HI.out.below⟩
            · rw [decide_eq_false hw] at HW
              have HZ := Lib.hid (HNV.out fun h => hw h.2.2.2.2.1)
              clear HNV HV
              clear hw
              go_wp2_with (first
                | (go_at_call 21; (with_reducible refine (HW.out _ HI.out.mat).mono ?_); rintro e w2 ⟨rfl, rfl⟩))
              go_ret
              exact ⟨by rw [HZ.out]; rfl, HI.out.below⟩
      · have HZ := Lib.hid (HNV.out fun h => hn h.2.2.1)
        clear HNV HV
        clear hf
        go_enter Try.func8, Try.ntmps8
        go_wp2_with (first
          | (refine load_pm ?_ _ rfl W.heap.size rfl p HI.out.box ?_; first | rfl | (simp [Region.wanted, yielded]; done))
          | (go_at_call 20; (with_reducible refine (HU.at _).mono ?_); rintro e w1 ⟨rfl, hb⟩; replace HI := Lib.hid (HI.out.step hb); have k7 := HI.out.box.cell 7; have k8 := HI.out.box.cell 8; have k10 := HI.out.box.cell 10; have c0 := HI.out.mod.cell 0; have c1 := HI.out.mod.cell 1; clear hb))
        go_ret
        exact ⟨by rw [HZ.out]; rfl, HI.out.below⟩
    · have HZ := Lib.hid (HNV.out fun h => hm h.2.1)
      clear HNV HV
      clear hf
      go_enter Try.func8, Try.ntmps8
      go_wp2_with (first
        | (refine load_pm ?_ _ rfl W.heap.size rfl p HI.out.box ?_; first | rfl | (simp [Region.wanted, yielded]; done))
        | (go_at_call 20; (with_reducible refine (HU.at _).mono ?_); rintro e w1 ⟨rfl, hb⟩; replace HI := Lib.hid (HI.out.step hb); have k7 := HI.out.box.cell 7; have k8 := HI.out.box.cell 8; have k10 := HI.out.box.cell 10; have c0 := HI.out.mod.cell 0; have c1 := HI.out.mod.cell 1; clear hb))
      go_ret
      exact ⟨by rw [HZ.out]; rfl, HI.out.below⟩
  · have HZ := Lib.hid (HNV.out fun h => hf h.1)
    clear HNV HV
    rw [decide_eq_false hf] at HU
    clear hf
    go_enter Try.func8, Try.ntmps8
    go_wp2_with (first
      | (refine load_pm ?_ _ rfl W.heap.size rfl p HI.out.box ?_; first | rfl | (simp [Region.wanted, yielded]; done))
      | (go_at_call 20; (with_reducible refine (HU.at _).mono ?_); rintro e w1 ⟨rfl, hb⟩; replace HI := Lib.hid (HI.out.step hb); have k7 := HI.out.box.cell 7; have k8 := HI.out.box.cell 8; have k10 := HI.out.box.cell 10; have c0 := HI.out.mod.cell 0; have c1 := HI.out.mod.cell 1; clear hb))
    go_ret
    exact ⟨by rw [HZ.out]; rfl, HI.out.below⟩
end M
end Go.Proofs.Ytnlkikcnjlkkdaa
