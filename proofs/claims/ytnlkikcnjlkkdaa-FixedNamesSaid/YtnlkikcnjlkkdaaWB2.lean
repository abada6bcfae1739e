/- The texts ModFrame, GrpMath, ModRet, Num, Pm, FixMath, Own, Mine, one behind the other. -/
import Derived.Test.YtnlkikcnjlkkdaaRows
import Derived.Test.YtnlkikcnjlkkdaaWB1
import Derived.ProofKit
import Derived.OpenShut
import Derived.LaidMore
import Derived.SevenTiedAt
import Derived.Stop.Joined
import Derived.Below
import Derived.Laws.Rows
import Derived.Deep.RegionHeld
import Derived.LoopTactic
import Derived.LoopN
import Derived.Deep.QuietTactic
import Derived.BigQuiet
import Derived.OwnWalk
import Derived.Maps.AppendAt
import Derived.Laws.MakeOwn
/- What the tie of the program's two tables gives a walk: each cell of the witnesses, each cell of the table of bits.TrailingZeros64. -/
namespace Go.Proofs.Ytnlkikcnjlkkdaa
open Go.ChangeShapes Go.WideShapes Go.ChangeAt Go.RowKit
namespace M


theorem own : ownKnob Try.prog.godebug = none := by kernel_rfl

/-- An array of integers that reads as a known row: its cells. -/
theorem int_cells {P : Program} {W : World} {n : Nat} {e t : TypeId} {k : IntKind} {cs : Array Value} {zs : List Int} {base fuel : Nat} {spare : Nat → Bool} {held : Bool} {enc : TypeId × Value → Unit} {q : List MemPlace}
    (ht : P.underlying t = some (.array n e)) (he : P.underlying e = some (.int k)) (c1 : P.cellsOf e = 1) (c2 : P.cellsOf t = n) (hz : zs.length = n)
    (h : DataW.trod enc P W base spare held fuel t cs.toList = some (.agg (zs.map fun z => .lit (.int k z)), q)) :
    cs.size = n ∧ ∀ r, r < n → cs[r]? = some (.int k (zs.getD r 0)) := by
  obtain ⟨xs, m, _, ex, hcl, hl, hel⟩ := DataW.trod_array ht h
  refine ⟨by rw [c2] at hcl; simpa using hcl, fun r hr => ?_⟩
  have hE := hel r hr
  rw [c1, Nat.mul_one, List.getElem?_eq_getElem (by omega)] at hE
  obtain ⟨z, e1, e2, _⟩ := DataW.trod_int he hE
  have e3 : (xs.map (·.1)) = zs.map fun z => .lit (.int k z) := (DataW.agg.inj (Prod.mk.inj ex).1).symm
  have e4 : (xs.map (·.1))[r]? = (zs.map fun z => (DataW.lit (.int k z) : DataW Unit))[r]? := by rw [e3]
  rw [List.getElem?_map, List.getElem?_map, List.getElem?_eq_getElem (by omega : r < xs.length), List.getElem?_eq_getElem (by omega : r < zs.length), e2] at e4
  have hz' : z = zs.getD r 0 := by
    simp only [Option.map_some, Option.some.injEq, DataW.lit.injEq, Lit.int.injEq, true_and] at e4
    rw [e4, List.getD, List.getElem?_eq_getElem (by omega : r < zs.length)]; rfl
  rw [← hz']
  have : cs.toList[r]? = some (.int k z) := by
    have h0 : ((cs.toList.drop r).take 1)[0]? = some (.int k z) := by rw [e1]; rfl
    simpa using h0
  simpa using this

theorem u64_bounds {n : Int} (h : (Lit.int .u64 n).wf = true) : 0 ≤ n ∧ n ≤ 18446744073709551615 := by
  simp [Lit.wf, IntKind.min, IntKind.max, IntKind.signed, IntKind.bits] at h
  omega

theorem grown_drewN {W w' : World} (h : Grown W w') (n : Nat) : Grown W (w'.drewN n) := h

/-- A call that answers v in every world, and leaves the world as it was but for draws. A plain definition: the walk does not look into it. -/
def Ret (f : FuncId) (args : Array Value) (v : Value) : Prop := ∀ W : World, Calls Try.prog f args W fun e w' => e = .returned v ∧ ∃ n, w' = W.drewN n
theorem Ret.at {f : FuncId} {args : Array Value} {v : Value} (h : Ret f args v) (W : World) : Calls Try.prog f args W fun e w' => e = .returned v ∧ ∃ n, w' = W.drewN n := h W
theorem Ret.quiet {f : FuncId} {args : Array Value} {v : Value} (h : Ret f args v) {w : World} {n : Nat} : Calls Try.prog f args (w.drewN n) fun e w'' => e = .returned v ∧ ∃ m, w'' = w.drewN m := Calls.quiet_of (h _)
end M
end Go.Proofs.Ytnlkikcnjlkkdaa
/- Plain facts on the group: sums, products and powers modulo any number, products of rows, commitments, values at a place. Nothing here speaks of the program. -/
namespace Go.Proofs.Ytnlkikcnjlkkdaa
namespace MM

/-- There are numbers modulo m. -/
def Good (m : Nat) : Prop := 0 < m ∧ m ≤ 2305843009213693952
instance (m : Nat) : Decidable (Good m) := by unfold Good; infer_instance
theorem good_not {m : Nat} (h : ¬ Good m) : m = 0 ∨ 2305843009213693952 < m := by unfold Good at h; omega
def addU (a b m : Nat) : Nat := if Good m then (a + b) % m else 0
def mulU (a b m : Nat) : Nat := if Good m then a * b % m else 0
def powU (a e m : Nat) : Nat := if Good m then powm a e m else 0
theorem lt_of_mod {a m : Nat} (h : Good m) : a % m < 18446744073709551616 := by have := Nat.mod_lt a h.1; have := h.2; omega
theorem addU_lt (a b m : Nat) : addU a b m < 18446744073709551616 := by
  unfold addU
  by_cases h : Good m
  · rw [if_pos h]; exact lt_of_mod h
  · rw [if_neg h]; omega
theorem mulU_lt (a b m : Nat) : mulU a b m < 18446744073709551616 := by
  unfold mulU
  by_cases h : Good m
  · rw [if_pos h]; exact lt_of_mod h
  · rw [if_neg h]; omega
theorem powU_lt (a b m : Nat) : powU a b m < 18446744073709551616 := by
  unfold powU
  by_cases h : Good m
  · rw [if_pos h]; exact lt_of_mod h
  · rw [if_neg h]; omega
theorem addU_of {a b m : Nat} (h : Good m) : addU a b m = (a + b) % m := if_pos h
theorem mulU_of {a b m : Nat} (h : Good m) : mulU a b m = a * b % m := if_pos h
theorem powU_of {a b m : Nat} (h : Good m) : powU a b m = a ^ b % m := if_pos h

/-- The product of the first n numbers of a row. -/
def timesN (P : Nat) (z : Nat → Nat) : Nat → Nat
  | 0 => addU 0 1 P
  | n + 1 => mulU (timesN P z n) (z n) P
theorem timesN_lt (P : Nat) (z : Nat → Nat) (n : Nat) : timesN P z n < 18446744073709551616 := by
  cases n
  · exact addU_lt _ _ _
  · exact mulU_lt _ _ _
theorem timesN_bad {P : Nat} (h : ¬ Good P) (z : Nat → Nat) : ∀ n, timesN P z n = 0
  | 0 => if_neg h
  | _ + 1 => if_neg h
theorem timesN_congr {P : Nat} {y z : Nat → Nat} : ∀ n, (∀ t, t < n → y t = z t) → timesN P y n = timesN P z n
  | 0, _ => rfl
  | n + 1, h => by unfold timesN; rw [timesN_congr n fun t ht => h t (by omega), h n (by omega)]
theorem times0 {P : Nat} (h : Good P) (z : Nat → Nat) : timesN P z 0 = 1 % P := by unfold timesN; rw [addU_of h]
theorem times2 {P : Nat} (h : Good P) (z : Nat → Nat) : timesN P z 2 = z 0 * z 1 % P := by
  unfold timesN timesN timesN
  rw [mulU_of h, mulU_of h, addU_of h, Nat.zero_add, mul_mod_left', ← mul_mod_left' (1 % P * z 0), mul_mod_left' 1, Nat.one_mul, mul_mod_left']
theorem times3 {P : Nat} (h : Good P) (z : Nat → Nat) : timesN P z 3 = z 0 * z 1 * z 2 % P := by
  rw [show timesN P z 3 = mulU (timesN P z 2) (z 2) P from rfl, times2 h, mulU_of h, mul_mod_left']
/-- A row of two. -/
def two (a b : Nat) : Nat → Nat
  | 0 => a
  | _ => b
/-- A row of three. -/
def three (a b c : Nat) : Nat → Nat
  | 0 => a
  | 1 => b
  | _ => c
def times2U (a b P : Nat) : Nat := timesN P (two a b) 2
theorem times2U_of {a b P : Nat} (h : Good P) : times2U a b P = a * b % P := times2 h _
theorem times2U_bad {a b P : Nat} (h : ¬ Good P) : times2U a b P = 0 := timesN_bad h _ _
theorem times2U_lt (a b P : Nat) : times2U a b P < 18446744073709551616 := timesN_lt _ _ _

/-- The power by squares, as the document reckons it: an even exponent, an odd one. -/
theorem pow_even (x e P : Nat) (he : e % 2 = 0) : times2U (powU x (e / 2) P) (powU x (e / 2) P) P = powU x e P := by
  by_cases h : Good P
  · rw [times2U_of h, powU_of h, powU_of h, ← Nat.mul_mod, ← Nat.pow_add]
    congr 2; omega
  · rw [times2U_bad h]; unfold powU; rw [if_neg h]
theorem pow_odd (x e P : Nat) (he : e % 2 = 1) : timesN P (three (powU x (e / 2) P) (powU x (e / 2) P) x) 3 = powU x e P := by
  by_cases h : Good P
  · rw [times3 h]
    show powU x (e / 2) P * powU x (e / 2) P * x % P = _
    rw [powU_of h, powU_of h, Nat.mul_mod, ← Nat.mul_mod (x ^ (e / 2)), ← Nat.mul_mod, ← Nat.pow_add, ← Nat.pow_succ]
    congr 2; omega
  · rw [timesN_bad h]; unfold powU; rw [if_neg h]
theorem pow_zero (x P : Nat) (z : Nat → Nat) : timesN P z 0 = powU x 0 P := by
  by_cases h : Good P
  · rw [times0 h, powU_of h, Nat.pow_zero]
  · rw [timesN_bad h]; unfold powU; rw [if_neg h]

/-- The commitment to a pair. -/
def comU (P G H s b : Nat) : Nat := times2U (powU G s P) (powU H b P) P
theorem comU_lt (P G H s b : Nat) : comU P G H s b < 18446744073709551616 := times2U_lt _ _ _
theorem comU_of {P G H s b : Nat} (h : Good P) : comU P G H s b = G ^ s * H ^ b % P := by
  unfold comU; rw [times2U_of h, powU_of h, powU_of h, ← Nat.mul_mod]

/-- The value of the first n commitments of a row at i. -/
def atN (P Q i : Nat) (z : Nat → Nat) : Nat → Nat
  | 0 => timesN P (fun _ => 0) 0
  | n + 1 => times2U (atN P Q i z n) (powU (z n) (powU i n Q) P) P
theorem atN_lt (P Q i : Nat) (z : Nat → Nat) (n : Nat) : atN P Q i z n < 18446744073709551616 := by
  cases n
  · exact timesN_lt _ _ _
  · exact times2U_lt _ _ _
theorem atN_congr {P Q i : Nat} {y z : Nat → Nat} : ∀ n, (∀ t, t < n → y t = z t) → atN P Q i y n = atN P Q i z n
  | 0, _ => rfl
  | n + 1, h => by unfold atN; rw [atN_congr n fun t ht => h t (by omega), h n (by omega)]

/-- An exponent may be taken modulo the number by which the power is 1. -/
theorem pow_modQ {x Q P : Nat} (h : x ^ Q % P = 1 % P) (k : Nat) : x ^ (k % Q) % P = x ^ k % P := by
  have e : k = Q * (k / Q) + k % Q := (Nat.div_add_mod k Q).symm
  conv => rhs; rw [e]
  rw [Nat.pow_add, Nat.pow_mul, ← mul_mod_left', ← pow_mod' (x ^ Q), h, pow_mod', mul_mod_left', Nat.one_pow, Nat.one_mul]
theorem root_pow {G Q P : Nat} (h : G ^ Q % P = 1 % P) (a : Nat) : (G ^ a % P) ^ Q % P = 1 % P := by
  rw [pow_mod', ← Nat.pow_mul, Nat.mul_comm, Nat.pow_mul, ← pow_mod' (G ^ Q), h, pow_mod', Nat.one_pow]

/-- What parameters that may be keep to, as far as it is used here. -/
structure Grp (P Q G H : Nat) : Prop where
  gP : Good P
  gQ : Good Q
  one : 1 < P
  two : 1 < Q
  rG : G ^ Q % P = 1 % P
  rH : H ^ Q % P = 1 % P

section
variable {P Q G H : Nat} (g : Grp P Q G H)
include g
theorem Grp.sum (x e f : Nat) (hx : x ^ Q % P = 1 % P) : times2U (powU x e P) (powU x f P) P = powU x (addU e f Q) P := by
  rw [times2U_of g.gP, powU_of g.gP, powU_of g.gP, powU_of g.gP, addU_of g.gQ, ← Nat.mul_mod, ← Nat.pow_add, pow_modQ hx]
theorem Grp.fold (x e f : Nat) (hx : x ^ Q % P = 1 % P) : powU (powU x e P) f P = powU x (mulU e f Q) P := by
  rw [powU_of g.gP, powU_of g.gP, powU_of g.gP, mulU_of g.gQ, pow_modQ hx, pow_mod', Nat.pow_mul]
theorem Grp.exp (x e : Nat) (hx : x ^ Q % P = 1 % P) : powU x (e % Q) P = powU x e P := by
  rw [powU_of g.gP, powU_of g.gP, pow_modQ hx]
theorem Grp.root (a : Nat) : (powU G a P) ^ Q % P = 1 % P := by rw [powU_of g.gP]; exact root_pow g.rG a
theorem Grp.comSum (s b s' b' : Nat) : times2U (comU P G H s b) (comU P G H s' b') P = comU P G H (addU s s' Q) (addU b b' Q) := by
  rw [times2U_of g.gP, comU_of g.gP, comU_of g.gP, comU_of g.gP, addU_of g.gQ, addU_of g.gQ, ← Nat.mul_mod, Nat.mul_mod (G ^ _), pow_modQ g.rG, pow_modQ g.rH, ← Nat.mul_mod, Nat.pow_add, Nat.pow_add, Nat.mul_mul_mul_comm]
theorem Grp.comFold (s b k : Nat) : powU (comU P G H s b) k P = comU P G H (mulU s k Q) (mulU b k Q) := by
  rw [powU_of g.gP, comU_of g.gP, comU_of g.gP, mulU_of g.gQ, mulU_of g.gQ, pow_mod', Nat.mul_mod (G ^ _), pow_modQ g.rG, pow_modQ g.rH, ← Nat.mul_mod, Nat.mul_pow, ← Nat.pow_mul, ← Nat.pow_mul]
end

/-- The exponents of the law on values: 1, and each behind it i times the one ahead, modulo Q. -/
def expN (Q i : Nat) : Nat → Nat
  | 0 => 1
  | n + 1 => mulU (expN Q i n) i Q
theorem expN_lt (Q i n : Nat) : expN Q i n < 18446744073709551616 := by
  cases n
  · show (1 : Nat) < _; omega
  · exact mulU_lt _ _ _
/-- The values of the coefficients s, as the law on values reckons them. -/
def valN (Q i : Nat) (s : Nat → Nat) : Nat → Nat
  | 0 => 0
  | n + 1 => addU (valN Q i s n) (mulU (s n) (expN Q i n) Q) Q
theorem valN_lt (Q i : Nat) (s : Nat → Nat) (n : Nat) : valN Q i s n < 18446744073709551616 := by
  cases n
  · show (0 : Nat) < _; omega
  · exact addU_lt _ _ _
section
variable {P Q G H : Nat} (g : Grp P Q G H)
include g
theorem Grp.expN (i : Nat) : ∀ n, expN Q i n = powU i n Q
  | 0 => by rw [powU_of g.gQ, Nat.pow_zero, Nat.mod_eq_of_lt g.two]; rfl
  | n + 1 => by
    show mulU (MM.expN Q i n) i Q = _
    rw [Grp.expN i n, powU_of g.gQ, powU_of g.gQ, mulU_of g.gQ, mul_mod_left', Nat.pow_succ]
theorem Grp.at (i : Nat) (s b : Nat → Nat) : ∀ n, atN P Q i (fun t => comU P G H (s t) (b t)) n = comU P G H (valN Q i s n) (valN Q i b n)
  | 0 => by
    show timesN P _ 0 = comU P G H 0 0
    rw [times0 g.gP, comU_of g.gP, Nat.pow_zero, Nat.pow_zero]
  | n + 1 => by
    show times2U (atN P Q i _ n) (powU (comU P G H (s n) (b n)) (powU i n Q) P) P = comU P G H (addU (valN Q i s n) (mulU (s n) (MM.expN Q i n) Q) Q) (addU (valN Q i b n) (mulU (b n) (MM.expN Q i n) Q) Q)
    rw [Grp.at i s b n, g.comFold, g.comSum, g.expN]
theorem Grp.atMod (i : Nat) (z : Nat → Nat) : ∀ n, atN P Q (i % Q) z n = atN P Q i z n
  | 0 => rfl
  | n + 1 => by
    show times2U (atN P Q (i % Q) z n) (powU (z n) (powU (i % Q) n Q) P) P = times2U (atN P Q i z n) (powU (z n) (powU i n Q) P) P
    rw [Grp.atMod i z n, powU_of g.gQ, powU_of g.gQ, pow_mod']
end
end MM
end Go.Proofs.Ytnlkikcnjlkkdaa
/- What each call of package mod answers, as a fact that a walk meets: sum, difference, product, power, inverse modulo m, for m from 1 to 2^61. -/
namespace Go.Proofs.Ytnlkikcnjlkkdaa
open Go.ChangeShapes Go.WideShapes Go.ChangeAt Go.RowKit
namespace M
theorem ret_add (a b m r : Nat) (hm : 0 < m) (hb : m ≤ 2305843009213693952) (h : (a + b) % m = r) : Ret 19 #[.int .u64 (a : Int), .int .u64 (b : Int), .int .u64 (m : Int)] (.int .u64 (r : Int)) := fun W => by rw [← h]; exact add_any a b m hm hb W
theorem ret_sub (a b m r : Nat) (hm : 0 < m) (hb : m ≤ 2305843009213693952) (h : MM.subm a b m = r) : Ret 18 #[.int .u64 (a : Int), .int .u64 (b : Int), .int .u64 (m : Int)] (.int .u64 (r : Int)) := fun W => by rw [← h]; exact sub_any a b m hm hb W
theorem ret_mul (a b m r : Nat) (hm : 0 < m) (hb : m ≤ 2305843009213693952) (ha : a < 18446744073709551616) (hb' : b < 18446744073709551616) (h : a * b % m = r) : Ret 27 #[.int .u64 (a : Int), .int .u64 (b : Int), .int .u64 (m : Int)] (.int .u64 (r : Int)) := fun W => by rw [← h]; exact mul_any a b m hm hb ha hb' W
theorem ret_no_add (a b m : Nat) (h : m = 0 ∨ 2305843009213693952 < m) : Ret 19 #[.int .u64 (a : Int), .int .u64 (b : Int), .int .u64 (m : Int)] (.int .u64 0) := no_add a b m h
theorem ret_no_sub (a b m : Nat) (h : m = 0 ∨ 2305843009213693952 < m) : Ret 18 #[.int .u64 (a : Int), .int .u64 (b : Int), .int .u64 (m : Int)] (.int .u64 0) := no_sub a b m h
theorem ret_no_mul (a b m : Nat) (h : m = 0 ∨ 2305843009213693952 < m) : Ret 27 #[.int .u64 (a : Int), .int .u64 (b : Int), .int .u64 (m : Int)] (.int .u64 0) := no_mul a b m h
end M
end Go.Proofs.Ytnlkikcnjlkkdaa
/- What calls answer at whatever modulus, rows of numbers that a slice reads, and calls that make new memory at most. -/
namespace Go.Proofs.Ytnlkikcnjlkkdaa
open Go Go.RowKit Go.Lib
namespace M
/-- A call that answers v in every world and makes new memory at most: what was there stays. A plain definition: the walk does not look into it. -/
def RetB (f : FuncId) (args : Array Value) (v : Value) : Prop := ∀ W : World, Calls Try.prog f args W fun e w' => e = .returned v ∧ Below W.heap.size W w'
theorem RetB.at {f : FuncId} {args : Array Value} {v : Value} (h : RetB f args v) (W : World) : Calls Try.prog f args W fun e w' => e = .returned v ∧ Below W.heap.size W w' := h W
theorem below_drewN (w : World) (n : Nat) : Below w.heap.size w (w.drewN n) := ⟨rfl, rfl, rfl, Nat.le_refl _, fun _ _ => rfl⟩
theorem Ret.toB {f : FuncId} {args : Array Value} {v : Value} (h : Ret f args v) : RetB f args v := fun W => (h W).mono fun _ _ ⟨he, n, hn⟩ => ⟨he, by rw [hn]; exact below_drewN _ _⟩
theorem bcell {W w1 : World} (hb : Below W.heap.size W w1) : (∀ b o, b < W.heap.size → w1.cell? ⟨b, o, none⟩ = W.cell? ⟨b, o, none⟩) ∧ (∀ b o, b < W.heap.size → w1.frozen? ⟨b, o, none⟩ = W.frozen? ⟨b, o, none⟩) :=
  ⟨fun b o h => hb.cell (p := ⟨b, o, none⟩) h, fun b o h => hb.frozen (p := ⟨b, o, none⟩) h⟩
theorem setCell_drewN (w : World) (n : Nat) (a : Addr) (v : Value) : (w.drewN n).setCell a v = (w.setCell a v).drewN n := rfl
theorem alloc_drewN (w : World) (n : Nat) (o : Obj) : (w.drewN n).alloc o = (w.alloc o).drewN n := rfl
theorem below_drewN' (w : World) (n B : Nat) : Below B w (w.drewN n) := ⟨rfl, rfl, rfl, Nat.le_refl _, fun _ _ => rfl⟩
theorem row_lt {w : World} {b : Nat} {o : Obj} (h : w.heap[b]? = some o) : b < w.heap.size := by
  rcases Nat.lt_or_ge b w.heap.size with h' | h'
  · exact h'
  · rw [Array.getElem?_eq_none h'] at h; cases h
theorem below_box (w : World) (o : Obj) : Below w.heap.size w (w.alloc o) := (Below.refl _ _).alloc (Nat.le_refl _) _
theorem Below.drawn {B : Nat} {w w' : World} (h : Below B w w') (n : Nat) : Below B w (w'.drewN n) := h.trans (below_drewN' w' n _)

theorem ret_addU (a b m : Nat) : Ret 19 #[.int .u64 (a : Int), .int .u64 (b : Int), .int .u64 (m : Int)] (.int .u64 ((MM.addU a b m : Nat) : Int)) := by
  unfold MM.addU
  by_cases h : MM.Good m
  · rw [if_pos h]; exact ret_add a b m _ h.1 h.2 rfl
  · rw [if_neg h]; exact ret_no_add a b m (MM.good_not h)
theorem ret_mulU (a b m : Nat) (ha : a < 18446744073709551616) (hb : b < 18446744073709551616) : Ret 27 #[.int .u64 (a : Int), .int .u64 (b : Int), .int .u64 (m : Int)] (.int .u64 ((MM.mulU a b m : Nat) : Int)) := by
  unfold MM.mulU
  by_cases h : MM.Good m
  · rw [if_pos h]; exact ret_mul a b m _ h.1 h.2 ha hb rfl
  · rw [if_neg h]; exact ret_no_mul a b m (MM.good_not h)
/-- A row of numbers that a slice reads. -/
def Row (W : World) (a : Addr) (n : Nat) (z : Nat → Nat) : Prop := ∀ t, t < n → W.cell? (a.add t) = some (.int .u64 (z t : Int))
theorem Row.below {W W' : World} {a : Addr} {n : Nat} {z : Nat → Nat} (h : Row W a n z) (hb : Below W.heap.size W W') : Row W' a n z := fun t ht => by
  have h1 := h t ht
  have hs : (a.add t).block < W.heap.size := World.block_lt_of_cell? W _ h1
  rw [hb.cell hs]; exact h1
theorem Row.of_block {W : World} {b : Nat} {cs : Array Value} {t : TypeId} {n : Nat} {z : Nat → Nat} (h : W.heap[b]? = some (.cells cs t (0, 0))) (hz : ∀ k, k < n → cs[k]? = some (.int .u64 (z k : Int))) : Row W ⟨b, 0, none⟩ n z := fun k hk => by
  have e : (⟨b, 0, none⟩ : Addr).add k = ⟨b, k, none⟩ := by
    unfold Addr.add
    by_cases h0 : k = 0
    · subst h0; rfl
    · rw [if_neg h0]; simp
  rw [e, cell_of_row W b k _ _ _ h, hz k hk]

theorem row_cell {W : World} {b : Nat} {n : Nat} {z : Nat → Nat} (h : Row W ⟨b, 0, none⟩ n z) {k : Nat} (hk : k < n) : W.cell? ⟨b, k, none⟩ = some (.int .u64 ((z k : Nat) : Int)) := by
  have e : (⟨b, 0, none⟩ : Addr).add k = ⟨b, k, none⟩ := by
    unfold Addr.add
    by_cases h0 : k = 0
    · subst h0; rfl
    · rw [if_neg h0]; simp
  rw [← e]; exact h k hk
end M
end Go.Proofs.Ytnlkikcnjlkkdaa
/- Parameters as a value: thirteen numbers, each one cell. -/
namespace Go.Proofs.Ytnlkikcnjlkkdaa
open Go Go.RowKit Go.Lib

/-- The parameters. -/
structure Pm where
  P : Nat
  Q : Nat
  G : Nat
  H : Nat
  Nodes : Int
  N : Int
  T : Int
  K : Int
  D : Int
  R : Int
  M : Int
  X : Int
/-- Their cells. -/
abbrev Pm.cells (p : Pm) : Array Value := #[.int .u64 (p.P : Int), .int .u64 (p.Q : Int), .int .u64 (p.G : Int), .int .u64 (p.H : Int), .int .i64 p.Nodes, .int .i64 p.N, .int .i64 p.T, .int .i64 p.K, .int .i64 p.D, .int .i64 p.R, .int .i64 p.M, .int .i64 p.X]
theorem Pm.c0 (p : Pm) : p.cells[0]? = some (.int .u64 (p.P : Int)) := rfl
theorem Pm.c1 (p : Pm) : p.cells[1]? = some (.int .u64 (p.Q : Int)) := rfl
theorem Pm.c2 (p : Pm) : p.cells[2]? = some (.int .u64 (p.G : Int)) := rfl
theorem Pm.c3 (p : Pm) : p.cells[3]? = some (.int .u64 (p.H : Int)) := rfl

namespace M
/-- A whole row read out of its block, also where the operation stands under a guard that lets it run. -/
theorem wpList_row_if {P : Program} {ops : Array Oper} {rest : List Oper} {o : Oper} {a : Act} {w : World} {Q : Exit → Act → World → Prop} (hgd : Region.wanted o (yielded ops a.tmps) = true) (ty : TypeId) (x : Operand) (ho : o.op = .load ty x)
    (g : Nat) (hx : a.eval x = .pointer (some ⟨g, 0, none⟩)) (t : TypeId) (cs : Array Value) (fr : Nat × Nat) (d : TypeDesc) (hg : w.heap[g]? = some (.cells cs t fr))
    (hu : P.underlying ty = some d) (hd : (match d with | .struct _ | .array _ _ => true | _ => false) = true) (hi : (P.info? ty).map (·.size) = some cs.size)
    (h : wpList P ops Q rest (a.put o.dst (.agg cs)) w) : wpList P ops Q (o :: rest) a w :=
  wpList_step fun _ hK => by rw [if_pos hgd]; exact wp_load_row ty x ho g hx t cs fr d hg hu hd hi (hK _ _ h)
/-- The parameters lie in the block g. -/
def PBox (w : World) (g : Nat) (p : Pm) : Prop := w.heap[g]? = some (.cells p.cells 31 (0, 0))
theorem PBox.lt {w : World} {g : Nat} {p : Pm} (h : PBox w g p) : g < w.heap.size := by
  rcases Nat.lt_or_ge g w.heap.size with h' | h'
  · exact h'
  · unfold PBox at h; rw [Array.getElem?_eq_none h'] at h; cases h
theorem PBox.below {w w' : World} {g : Nat} {p : Pm} (h : PBox w g p) (hb : Below w.heap.size w w') : PBox w' g p := by
  unfold PBox
  rw [hb.block _ h.lt]; exact h
theorem PBox.new (w : World) (p : Pm) : PBox (w.alloc (.cells p.cells 31)) w.heap.size p := heap_alloc_new w _
theorem PBox.cell {w : World} {g : Nat} {p : Pm} (h : PBox w g p) (j : Nat) : w.cell? ⟨g, j, none⟩ = p.cells[j]? := cell_of_row w g j _ _ _ h
end M
end Go.Proofs.Ytnlkikcnjlkkdaa
/- What the chapter's functions answer, over numbers: the number of a whole number, the whole number of a number, whether parameters fit, models and queries, secrets, rows, products, scores. -/
namespace Go.Proofs.Ytnlkikcnjlkkdaa
namespace MM
/-- The number of a whole number. -/
def numU (n : Int) (q : Nat) : Nat := if Good q then (n % (q : Int)).toNat else 0
/-- The whole number of a number. -/
def intU (x q : Nat) : Int := if Good q then (if x % q ≤ (q - 1) / 2 then ((x % q : Nat) : Int) else ((x % q : Nat) : Int) - q) else 0
theorem numU_lt (n : Int) (q : Nat) : numU n q < 18446744073709551616 := by
  unfold numU
  by_cases h : Good q
  · rw [if_pos h]
    have h1 := Int.emod_lt_of_pos n (show (0 : Int) < q by have := h.1; omega)
    have := h.2
    omega
  · rw [if_neg h]; omega
theorem numU_bad {n : Int} {q : Nat} (h : ¬ Good q) : numU n q = 0 := if_neg h
theorem numU_int {n : Int} {q : Nat} (h : Good q) : ((numU n q : Nat) : Int) = n % (q : Int) := by
  unfold numU
  rw [if_pos h]
  exact Int.toNat_of_nonneg (Int.emod_nonneg _ (by have := h.1; omega))
theorem numU_nat {x q : Nat} (h : Good q) : numU (x : Int) q = x % q := by
  have := numU_int (n := x) h
  omega
/-- Are they usable here? -/
def Fit (p : Pm) : Prop := 0 ≤ p.K ∧ p.K ≤ 2 ∧ 0 ≤ p.D ∧ p.D ≤ 4 ∧ 0 ≤ p.M ∧ p.M ≤ 1048576 ∧ 0 ≤ p.X ∧ p.X ≤ 1048576
instance (p : Pm) : Decidable (Fit p) := by unfold Fit; infer_instance
/-- Is each of the first n numbers from -most to most? -/
def Wi (most : Int) (n : Nat) (z : Nat → Int) : Prop := ∀ k, k < n → -most ≤ z k ∧ z k ≤ most
instance (most : Int) (n : Nat) (z : Nat → Int) : Decidable (Wi most n z) := by unfold Wi; infer_instance
theorem Wi.congr {most : Int} {n : Nat} {y z : Nat → Int} (e : ∀ k, k < n → y k = z k) : Wi most n y ↔ Wi most n z :=
  ⟨fun h k hk => by rw [← e k hk]; exact h k hk, fun h k hk => by rw [e k hk]; exact h k hk⟩
/-- A model as it reads: m rows, the i-th of L i numbers, F i; n biases, b. -/
structure Mo where
  m : Nat
  L : Nat → Nat
  F : Nat → Nat → Int
  n : Nat
  b : Nat → Int
/-- The model is valid. -/
def Valid (p : Pm) (o : Mo) : Prop := Fit p ∧ (o.m : Int) = p.K ∧ (o.n : Int) = p.K ∧ (∀ i, i < o.m → (o.L i : Int) = p.D) ∧ (∀ i, i < o.m → Wi p.M (o.L i) (o.F i)) ∧ Wi p.M o.n o.b
instance (p : Pm) (o : Mo) : Decidable (Valid p o) := by unfold Valid; infer_instance
/-- What Query answers. -/
def qryE (p : Pm) (n : Nat) (x : Nat → Int) : Int := if Fit p ∧ (n : Int) = p.D then (if Wi p.X n x then 0 else 20) else 4
/-- How many secrets there are, and which. -/
def secN (p : Pm) (o : Mo) : Nat := if Valid p o then p.K.toNat * (p.D.toNat + 1) else 0
def secZ (p : Pm) (o : Mo) (j : Nat) : Nat := numU (if j % (p.D.toNat + 1) < p.D.toNat then o.F (j / (p.D.toNat + 1)) (j % (p.D.toNat + 1)) else o.b (j / (p.D.toNat + 1))) p.Q
/-- How long a row is, and which. -/
def rowN (p : Pm) : Nat := if Fit p then p.D.toNat + 1 else 0
def rowZ (p : Pm) (n : Nat) (x : Nat → Int) (i : Nat) : Nat := if i < p.D.toNat then (if i < n then numU (x i) p.Q else 0) else numU 1 p.Q
/-- How many products there are; one of them, over the first i places. -/
def dotN (p : Pm) : Nat := if Fit p then p.K.toNat else 0
def dotP (q d ln : Nat) (l r : Nat → Nat) (k : Nat) : Nat → Nat
  | 0 => 0
  | i + 1 => if k * (d + 1) + i < ln then addU (dotP q d ln l r k i) (mulU (l (k * (d + 1) + i)) (r i) q) q else dotP q d ln l r k i
theorem dotP_lt (q d ln : Nat) (l r : Nat → Nat) (k : Nat) : ∀ i, dotP q d ln l r k i < 18446744073709551616
  | 0 => by unfold dotP; omega
  | i + 1 => by
    unfold dotP
    by_cases h : k * (d + 1) + i < ln
    · rw [if_pos h]; exact addU_lt _ _ _
    · rw [if_neg h]; exact dotP_lt q d ln l r k i
theorem dotP_congr {q d ln : Nat} {l l' r r' : Nat → Nat} {k : Nat} : ∀ i, (∀ j, j < ln → l j = l' j) → (∀ j, j < i → r j = r' j) → dotP q d ln l r k i = dotP q d ln l' r' k i
  | 0, _, _ => rfl
  | i + 1, h, h' => by
    unfold dotP
    rw [dotP_congr i h fun j hj => h' j (by omega), h' i (by omega)]
    by_cases e : k * (d + 1) + i < ln
    · rw [if_pos e, if_pos e, h _ e]
    · rw [if_neg e, if_neg e]
def dotZ (p : Pm) (ln : Nat) (l : Nat → Nat) (n : Nat) (x : Nat → Int) (k : Nat) : Nat := dotP p.Q p.D.toNat ln l (rowZ p n x) k (p.D.toNat + 1)
/-- How many scores there are; one of them, over the first i columns. -/
def scoN (p : Pm) (o : Mo) (n : Nat) (x : Nat → Int) : Nat := if Valid p o ∧ qryE p n x = 0 then p.K.toNat else 0
def scoP (o : Mo) (x : Nat → Int) (k : Nat) : Nat → Int
  | 0 => o.b k
  | i + 1 => scoP o x k i + o.F k i * x i
def scoZ (p : Pm) (o : Mo) (x : Nat → Int) (k : Nat) : Int := scoP o x k p.D.toNat
/-- Are two rows the same? -/
def eqR (n m : Nat) (y z : Nat → Int) : Prop := n = m ∧ ∀ k, k < n → y k = z k
instance (n m : Nat) (y z : Nat → Int) : Decidable (eqR n m y z) := by unfold eqR; infer_instance
def eqM (a b : Mo) : Prop := (a.m = b.m ∧ ∀ i, i < a.m → eqR (a.L i) (b.L i) (a.F i) (b.F i)) ∧ eqR a.n b.n a.b b.b
instance (a b : Mo) : Decidable (eqM a b) := by unfold eqM; infer_instance
theorem mul_le_20 {a b : Int} (ha : -1048576 ≤ a ∧ a ≤ 1048576) (hb : -1048576 ≤ b ∧ b ≤ 1048576) : -1099511627776 ≤ a * b ∧ a * b ≤ 1099511627776 := by
  have h1 : (a * b).natAbs ≤ 1048576 * 1048576 := by
    rw [Int.natAbs_mul]
    exact Nat.mul_le_mul (by omega) (by omega)
  omega
theorem scoP_le {o : Mo} {x : Nat → Int} {k : Nat} (hb : -1048576 ≤ o.b k ∧ o.b k ≤ 1048576) : ∀ i, (∀ j, j < i → (-1048576 ≤ o.F k j ∧ o.F k j ≤ 1048576) ∧ (-1048576 ≤ x j ∧ x j ≤ 1048576)) → -1048576 - (i : Int) * 1099511627776 ≤ scoP o x k i ∧ scoP o x k i ≤ 1048576 + (i : Int) * 1099511627776
  | 0, _ => by unfold scoP; omega
  | i + 1, h => by
    have h1 := scoP_le hb i fun j hj => h j (by omega)
    have h2 := mul_le_20 (h i (by omega)).1 (h i (by omega)).2
    unfold scoP
    omega
end MM
end Go.Proofs.Ytnlkikcnjlkkdaa
/- A row of numbers that a call itself makes, one append behind the other: what it holds, what is kept over steps, appends and the end. -/
namespace Go.Proofs.Ytnlkikcnjlkkdaa
open Go Go.RowKit Go.Lib
namespace M
theorem info_u64 : (Try.prog.info? 23).map (fun i => (i.zero, i.size, i.bytes)) = some (some (.int .u64 0), 1, 8) := by kernel_rfl
/-- A row's first numbers, as values. -/
def zlist (n : Nat) (z : Nat → Nat) : List Value := (List.range n).map fun k => .int .u64 ((z k : Nat) : Int)
theorem zlist_len (n : Nat) (z : Nat → Nat) : (zlist n z).length = n * 1 := by simp [zlist]
theorem zlist_get {n : Nat} {z : Nat → Nat} {k : Nat} (h : k < n) : (zlist n z)[k]? = some (.int .u64 ((z k : Nat) : Int)) := by simp [zlist, h]
theorem zlist_succ (n : Nat) (z : Nat → Nat) : zlist n z ++ [.int .u64 ((z n : Nat) : Int)] = zlist (n + 1) z := by simp [zlist, List.range_succ]
theorem zlist_congr {n : Nat} {y z : Nat → Nat} (h : ∀ k, k < n → y k = z k) : zlist n y = zlist n z := by
  unfold zlist
  exact List.map_congr_left fun k hk => by rw [h k (List.mem_range.1 hk)]
theorem zlist_cells {W : World} {a : Addr} {n : Nat} {z : Nat → Nat} (h : Row W a n z) : ∀ j u, (zlist n z)[j]? = some u → W.cell? (a.add j) = some u := fun j u hj => by
  have hl := (List.getElem?_eq_some_iff.1 hj).1
  rw [zlist_len] at hl
  rw [zlist_get (by omega)] at hj
  rw [← hj]; exact h j (by omega)
theorem zlist_one (n : Nat) (z : Nat → Nat) : ∀ u ∈ zlist n z, u.oneCell' = true := fun u hu => by
  simp [zlist] at hu
  obtain ⟨k, _, rfl⟩ := hu
  rfl
/-- The row so far: of the call's own memory, behind block B; nothing old has changed. -/
structure Own (w0 : World) (B : Nat) (v : Value) (k : Nat) (z : Nat → Nat) (w : World) : Prop where
  own : w.ownsRow B 23 1 v k (zlist k z)
  size : B ≤ w.heap.size
  low : w0.heap.size ≤ B
  below : Below w0.heap.size w0 w
section
variable {w0 w w' : World} {B k : Nat} {v : Value} {z : Nat → Nat}
theorem Own.start (w0 : World) (z : Nat → Nat) : Own w0 w0.heap.size (.slice none 0 0) 0 z w0 := ⟨⟨by simp [zlist], .inl ⟨rfl, rfl⟩⟩, Nat.le_refl _, Nat.le_refl _, Below.refl _ _⟩
theorem Own.step (h : Own w0 B v k z w) (hb : Below w.heap.size w w') : Own w0 B v k z w' :=
  ⟨h.own.kept (row := none) ⟨hb.os, hb.tape, hb.output, hb.size, fun k hk _ => hb.block k hk⟩ (by cases v.ownBlock <;> simp), Nat.le_trans h.size hb.size, h.low, h.below.trans (hb.mono h.below.size)⟩
theorem Own.drewN (h : Own w0 B v k z w) (n : Nat) : Own w0 B v k z (w.drewN n) := h.step (below_drewN' w n _)
theorem Own.drew (h : Own w0 B v k z w) : Own w0 B v k z w.drew := h.drewN 1
theorem Own.alloc (h : Own w0 B v k z w) (o : Obj) : Own w0 B v k z (w.alloc o) := h.step (below_box _ _)
theorem Own.grow (h : Own w0 B v k z w) {v' : Value} {k' : Nat} {xs : List Value} (ho : w'.ownsRow B 23 1 v' k' xs) (hx : xs = zlist k' z) (hg : w.grownBy w' v.ownBlock) : Own w0 B v' k' z w' :=
  ⟨hx ▸ ho, Nat.le_trans h.size hg.size, h.low,
   h.below.trans ⟨hg.os, hg.tape, hg.output, hg.size, fun j hj => hg.block j (Nat.lt_of_lt_of_le hj h.below.size) (fun e => by have := (h.own.lt j e.symm).1; have := h.low; omega)⟩⟩
/-- What the row reads as. -/
theorem Own.row (h : Own w0 B v k z w) : (v = .slice none 0 0 ∧ k = 0) ∨ ∃ g c, v = .slice (some ⟨g, 0, none⟩) k c ∧ B ≤ g ∧ k ≤ c ∧ c ≤ maxLen ∧ Row w ⟨g, 0, none⟩ k z := by
  obtain ⟨_, h1 | ⟨g, cap, cur, h1, h2, h3, h4, h5, _, h7⟩⟩ := h.own
  · exact .inl h1
  · refine .inr ⟨g, cap, h1, h2, h4, h5, Row.of_block h3 fun j hj => ?_⟩
    have e1 : (cur.toList.take (k * 1))[j]? = (zlist k z)[j]? := by rw [h7]
    rw [zlist_get hj, List.getElem?_take_of_lt (by omega)] at e1
    simpa using e1
end
/-- A call that hands back a row of its own: n numbers z, in new memory; nothing old has changed. A plain definition: the walk does not look into it. -/
def Gives (W : World) (n : Nat) (z : Nat → Nat) (e : Ending) (w' : World) : Prop := ∃ v, e = .returned v ∧ w'.ownsRow W.heap.size 23 1 v n (zlist n z) ∧ Below W.heap.size W w'
theorem Own.gives {w0 w : World} {B k : Nat} {v : Value} {z : Nat → Nat} (h : Own w0 B v k z w) : Gives w0 k z (.returned v) w := ⟨v, rfl, by
  obtain ⟨h1, h2⟩ := h.own
  refine ⟨h1, h2.imp id fun ⟨g, cap, cur, a, b, c⟩ => ⟨g, cap, cur, a, Nat.le_trans h.low b, c⟩⟩, h.below⟩
/-- Numbers that a slice reads, whatever its address while there is none. -/
def Rd (W : World) (ao : Option Addr) (n : Nat) (z : Nat → Nat) : Prop := 0 < n → ∃ ad, ao = some ad ∧ Row W ad n z
theorem Rd.below {W W' : World} {ao : Option Addr} {n : Nat} {z : Nat → Nat} (h : Rd W ao n z) (hb : Below W.heap.size W W') : Rd W' ao n z := fun hn => let ⟨ad, e, hr⟩ := h hn; ⟨ad, e, hr.below hb⟩
theorem Rd.at_ {W : World} {ao : Option Addr} {n : Nat} {z : Nat → Nat} (h : Rd W ao n z) {k : Nat} (hk : k < n) : ∃ ad, ao = some ad ∧ W.cell? (ad.add k) = some (.int .u64 ((z k : Nat) : Int)) := let ⟨ad, e, hr⟩ := h (by omega); ⟨ad, e, hr k hk⟩
theorem Own.rd {w0 w : World} {B k : Nat} {v : Value} {z : Nat → Nat} (h : Own w0 B v k z w) : ∃ ao c, v = .slice ao k c ∧ k ≤ c ∧ c ≤ maxLen ∧ Rd w ao k z := by
  rcases h.row with ⟨rfl, rfl⟩ | ⟨g, c, rfl, _, h1, h2, hr⟩
  · exact ⟨none, 0, rfl, Nat.le_refl _, Nat.zero_le _, fun hn => absurd hn (by omega)⟩
  · exact ⟨_, c, rfl, h1, h2, fun _ => ⟨_, rfl, hr⟩⟩
end M
end Go.Proofs.Ytnlkikcnjlkkdaa
/- A row of numbers that a call itself makes whole (make), and writes cell by cell: what it holds, what is kept, what it is at the end. -/
namespace Go.Proofs.Ytnlkikcnjlkkdaa
open Go Go.RowKit Go.Lib
namespace M
/-- Block B holds the n numbers z, one a cell, none frozen; it lies behind all that was there at w0; nothing of that has changed. -/
structure Mine (w0 : World) (B n : Nat) (z : Nat → Nat) (w : World) : Prop where
  block : ∃ cs : Array Value, w.heap[B]? = some (.cells cs 23 (0, 0)) ∧ cs.size = n ∧ ∀ k, k < n → cs[k]? = some (.int .u64 ((z k : Nat) : Int))
  low : w0.heap.size ≤ B
  below : Below w0.heap.size w0 w
section
variable {w0 w w' : World} {B n : Nat} {z y : Nat → Nat}
theorem Mine.lt (h : Mine w0 B n z w) : B < w.heap.size := by obtain ⟨cs, h1, _⟩ := h.block; exact row_lt h1
theorem Mine.step (h : Mine w0 B n z w) (hb : Below w.heap.size w w') : Mine w0 B n z w' :=
  ⟨by obtain ⟨cs, h1, h2⟩ := h.block; exact ⟨cs, (hb.block B h.lt).trans h1, h2⟩, h.low, h.below.trans (hb.mono h.below.size)⟩
theorem Mine.drewN (h : Mine w0 B n z w) (m : Nat) : Mine w0 B n z (w.drewN m) := h.step (below_drewN' w m _)
theorem Mine.alloc (h : Mine w0 B n z w) (o : Obj) : Mine w0 B n z (w.alloc o) := h.step (below_box _ _)
theorem Mine.congr (h : Mine w0 B n z w) (hz : ∀ k, k < n → z k = y k) : Mine w0 B n y w :=
  ⟨by obtain ⟨cs, h1, h2, h3⟩ := h.block; exact ⟨cs, h1, h2, fun k hk => by rw [h3 k hk, hz k hk]⟩, h.low, h.below⟩
theorem Mine.cell (h : Mine w0 B n z w) {k : Nat} (hk : k < n) : w.cell? ⟨B, k, none⟩ = some (.int .u64 ((z k : Nat) : Int)) := by
  obtain ⟨cs, h1, _, h3⟩ := h.block
  rw [cell_of_row w B k _ _ _ h1, h3 k hk]
theorem Mine.free (h : Mine w0 B n z w) (k : Nat) : w.frozen? ⟨B, k, none⟩ = false := by
  obtain ⟨cs, h1, _⟩ := h.block
  simp [World.frozen?, h1]
/-- One cell is written. -/
theorem Mine.set (h : Mine w0 B n z w) (k x : Nat) (hy : ∀ j, j < n → y j = if j = k then x else z j) : Mine w0 B n y (w.setCell ⟨B, k, none⟩ (.int .u64 (x : Int))) := by
  refine ⟨?_, h.low, h.below.setCell (p := ⟨B, k, none⟩) h.low _⟩
  obtain ⟨cs, h1, h2, h3⟩ := h.block
  refine ⟨_, heap_setCell_same w B k cs _ _ h1, by simpa using h2, fun j hj => ?_⟩
  rw [hy j hj, Array.getElem?_setIfInBounds]
  by_cases e : k = j
  · subst e; rw [if_pos rfl, if_pos (by omega), if_pos rfl]
  · rw [if_neg e, if_neg (fun h => e h.symm), h3 j hj]
theorem Mine.row (h : Mine w0 B n z w) : Row w ⟨B, 0, none⟩ n z := by
  obtain ⟨cs, h1, _, h3⟩ := h.block
  exact Row.of_block h1 h3
theorem Mine.rd (h : Mine w0 B n z w) : Rd w (some ⟨B, 0, none⟩) n z := fun _ => ⟨_, rfl, h.row⟩
theorem Mine.own (h : Mine w0 B n z w) (hn : n ≤ maxLen) : w.ownsRow w0.heap.size 23 1 (.slice (some ⟨B, 0, none⟩) n n) n (zlist n z) := by
  obtain ⟨cs, h1, h2, h3⟩ := h.block
  refine ⟨by simp [zlist], .inr ⟨B, n, cs, rfl, h.low, h1, Nat.le_refl _, hn, by omega, ?_⟩⟩
  apply List.ext_getElem?
  intro k
  by_cases hk : k < n
  · rw [zlist_get hk, List.getElem?_take_of_lt (by omega), Array.getElem?_toList, h3 k hk]
  · rw [List.getElem?_eq_none (by simp; omega), List.getElem?_eq_none (by rw [zlist_len]; omega)]
theorem Mine.gives (h : Mine w0 B n z w) (hn : n ≤ maxLen) : Gives w0 n z (.returned (.slice (some ⟨B, 0, none⟩) n n)) w := ⟨_, rfl, h.own hn, h.below⟩
/-- The row as make leaves it. -/
theorem Mine.made (w0 : World) (n : Nat) : Mine w0 w0.heap.size n (fun _ => 0) (w0.alloc (.cells (madeCells (Value.int .u64 0).cells (n * 1)) 23)) := by
  refine ⟨⟨_, heap_alloc_new _ _, by rw [size_madeCells, Nat.mul_one], fun k hk => ?_⟩, Nat.le_refl _, below_box _ _⟩
  simp [madeCells, hk, Value.cells, Nat.mod_one]
end
/-- All old blocks but B are as they were. -/
def Kept (B : Nat) (W w : World) : Prop := ∀ k, k < W.heap.size → k ≠ B → w.heap[k]? = W.heap[k]?
theorem Kept.refl (B : Nat) (W : World) : Kept B W W := fun _ _ _ => rfl
theorem Kept.drewN {B : Nat} {W w : World} (h : Kept B W w) (n : Nat) : Kept B W (w.drewN n) := fun k a b => h k a b
theorem Kept.setCell {B : Nat} {W w : World} (h : Kept B W w) (i : Nat) (v : Value) : Kept B W (w.setCell ⟨B, i, none⟩ v) := fun k a b => (Below.heap_setCell w ⟨B, i, none⟩ v k b).trans (h k a b)
theorem Kept.below {B : Nat} {W w w' : World} (h : Kept B W w) (hb : Below W.heap.size w w') : Kept B W w' := fun k a b => (hb.block k a).trans (h k a b)
theorem run_made (n : Nat) (hn : n ≤ 1000000000) (w : World) :
    (Instr.makeSlice 39 (.int .i64 (n : Int)) (.int .i64 (n : Int))).run Try.prog w = .ok (.slice (some ⟨w.heap.size, 0, none⟩) n n) (w.alloc (.cells (madeCells (Value.int .u64 0).cells (n * 1)) 23)) := by
  obtain ⟨i0, hi, hz0, hz1, hz2⟩ := info_parts info_u64
  have hr := run_make (P := Try.prog) w 39 23 i0 (.int .u64 0) Try.underlying39 hi hz0 .i64 .i64 n n (by omega) (by omega) (by rw [hz2]; omega) (by omega)
  simp only [Int.toNat_natCast, hz1] at hr
  exact hr
end M
end Go.Proofs.Ytnlkikcnjlkkdaa
