/- The texts ModMath2, ModW2, ModFrame, ModRet, GrpMath, Num, one behind the other. -/
import Derived.Test.YtlnlepadninnaaaKN1
import Derived.WalkSmall
import Derived.Deep.LoopGhost
import Derived.Deep.RegionWith
import Derived.Test.YtlnlepadninnaaaRows
import Derived.ProofKit
import Derived.OpenShut
import Derived.LaidMore
import Derived.SevenTiedAt
import Derived.Stop.Joined
import Derived.Below
import Derived.Laws.Rows
import Derived.Deep.RegionHeld
import Derived.LoopTactic
import Derived.LoopN
import Derived.Deep.QuietTactic
import Derived.BigQuiet
/- Plain facts on sums, products, powers and inverses modulo a number. Nothing here speaks of the program. -/
namespace Go.Proofs.Ytlnlepadninnaaa
namespace MM
/-- The difference modulo m, as the program reckons it. -/
def subm (a b m : Nat) : Nat := (a % m + m - b % m) % m
/-- The power modulo m. -/
def powm (a e m : Nat) : Nat := a ^ e % m

/-- What the loop of the power keeps. -/
structure PowAt (a0 e0 m p a e : Nat) : Prop where
  lt : p < m
  eq : p * a ^ e % m = powm a0 e0 m

theorem mul_mod_left' (a b m : Nat) : (a % m) * b % m = a * b % m := by rw [Nat.mul_mod, Nat.mod_mod, ← Nat.mul_mod]
theorem mul_mod_right' (a b m : Nat) : a * (b % m) % m = a * b % m := by rw [Nat.mul_mod, Nat.mod_mod, ← Nat.mul_mod]
theorem pow_mod' (a e m : Nat) : (a % m) ^ e % m = a ^ e % m := (Nat.pow_mod a e m).symm

theorem PowAt.start (a e m : Nat) (hm : 0 < m) : PowAt a e m (1 % m) a e :=
  ⟨Nat.mod_lt _ hm, by rw [mul_mod_left', Nat.one_mul]; rfl⟩
theorem PowAt.even {a0 e0 m p a e : Nat} (h : PowAt a0 e0 m p a e) (he : e % 2 = 0) : PowAt a0 e0 m p (a * a % m) (e / 2) := by
  refine ⟨h.lt, ?_⟩
  rw [← h.eq, ← mul_mod_right', pow_mod', mul_mod_right']
  have e2 : e = 2 * (e / 2) := by omega
  have : a ^ e = (a * a) ^ (e / 2) := by
    rw [show a * a = a ^ 2 by rw [Nat.pow_two], ← Nat.pow_mul, ← e2]
  rw [this]
theorem PowAt.odd {a0 e0 m p a e : Nat} (h : PowAt a0 e0 m p a e) (he : e % 2 = 1) : PowAt a0 e0 m (p * a % m) (a * a % m) (e / 2) := by
  refine ⟨Nat.mod_lt _ (by have := h.lt; omega), ?_⟩
  rw [← h.eq, mul_mod_left', ← mul_mod_right', pow_mod', mul_mod_right']
  have e2 : e = 2 * (e / 2) + 1 := by omega
  have : a ^ e = a * (a * a) ^ (e / 2) := by
    rw [show a * a = a ^ 2 by rw [Nat.pow_two], ← Nat.pow_mul, Nat.mul_comm a, ← Nat.pow_succ, Nat.succ_eq_add_one, ← e2]
  rw [this, Nat.mul_assoc]
theorem PowAt.done {a0 e0 m p a : Nat} (h : PowAt a0 e0 m p a 0) : p = powm a0 e0 m := by
  rw [← h.eq, Nat.pow_zero, Nat.mul_one, Nat.mod_eq_of_lt h.lt]

end MM
end Go.Proofs.Ytlnlepadninnaaa
/- The walks of mod.Add, mod.Sub, mod.Mul and mod.Pow: for m from 1 to 2^61 the sum, the difference, the product and the power modulo m; for any other m 0. -/
namespace Go.Proofs.Ytlnlepadninnaaa
open Go Go.RowKit Go.Lib
namespace M

theorem add_core (a b m r : Nat) (hm : 0 < m) (hr : (IntKind.u64.wrap ((a : Int) % (m : Int) + (b : Int) % (m : Int))).tmod (m : Int) = (r : Int)) (w : World)
    (hc : ∀ W : World, Calls Try.prog 42 #[.int .u64 m] W fun e w' => e = .returned (.bool true) ∧ W = w') :
    Calls Try.prog 40 #[.int .u64 a, .int .u64 b, .int .u64 m] w fun e w' => e = .returned (.int .u64 (r : Int)) ∧ ∃ n, w' = w.drewN n := by
  have HC := Lib.hid hc
  clear hc
  go_enter Try.func40, Try.ntmps40
  go_wp2_with (go_at_call 42; refine (HC.out _).mono ?_; rintro e w' ⟨rfl, rfl⟩)
  go_quiet (fail)
  go_wp2_with fail
  go_ret
  exact ⟨rfl, ⟨_, rfl⟩⟩

theorem add_any (a b m : Nat) (hm : 0 < m) (hb : m ≤ 2305843009213693952) (w : World) :
    Calls Try.prog 40 #[.int .u64 a, .int .u64 b, .int .u64 m] w fun e w' => e = .returned (.int .u64 (((a + b) % m : Nat) : Int)) ∧ ∃ n, w' = w.drewN n := by
  have h1 := Nat.mod_lt a hm
  have h2 := Nat.mod_lt b hm
  refine add_core a b m _ hm ?_ w (allowed_ok m hm hb)
  rw [← Int.natCast_emod, ← Int.natCast_emod, addN, wrapN _ (by omega), ← Int.ofNat_tmod, ← Nat.add_mod]

theorem mul_core (a b m p q r : Nat)
    (hc : ∀ W : World, Calls Try.prog 42 #[.int .u64 m] W fun e w' => e = .returned (.bool true) ∧ W = w')
    (hc2 : ∀ W : World, Calls Try.prog 44 #[.int .u64 a, .int .u64 b] W fun e w' => e = .returned (.tuple #[.int .u64 p, .int .u64 q]) ∧ W = w')
    (hc3 : ∀ W : World, Calls Try.prog 45 #[.int .u64 p, .int .u64 q, .int .u64 m] W fun e w' => e = .returned (.int .u64 (r : Int)) ∧ ∃ n, w' = W.drewN n) (w : World) :
    Calls Try.prog 41 #[.int .u64 a, .int .u64 b, .int .u64 m] w fun e w' => e = .returned (.int .u64 (r : Int)) ∧ ∃ n, w' = w.drewN n := by
  have HC := Lib.hid hc
  have HC2 := Lib.hid hc2
  have HC3 := Lib.hid hc3
  clear hc hc2 hc3
  go_enter Try.func41, Try.ntmps41
  go_wp2_with (first | (go_at_call 42; refine (HC.out _).mono ?_; rintro e w' ⟨rfl, rfl⟩) | (go_at_call 44; refine (HC2.out _).mono ?_; rintro e w' ⟨rfl, rfl⟩) | (go_at_call 45; refine (HC3.out _).mono ?_; rintro e w' ⟨rfl, n, rfl⟩))
  go_ret
  exact ⟨rfl, ⟨_, rfl⟩⟩

theorem mul_any (a b m : Nat) (hm : 0 < m) (hb : m ≤ 2305843009213693952) (ha : a < 18446744073709551616) (hb' : b < 18446744073709551616) (w : World) :
    Calls Try.prog 41 #[.int .u64 a, .int .u64 b, .int .u64 m] w fun e w' => e = .returned (.int .u64 ((a * b % m : Nat) : Int)) ∧ ∃ n, w' = w.drewN n := by
  have e : a * b = a * b / 18446744073709551616 * 18446744073709551616 + a * b % 18446744073709551616 := (Nat.div_add_mod' _ _).symm
  have h3 := rem64_any (a * b / 18446744073709551616) (a * b % 18446744073709551616) m hm hb (Nat.mod_lt _ (by omega))
  rw [← e] at h3
  exact mul_core a b m _ _ _ (allowed_ok m hm hb) (mul64_any a b ha hb') h3 w

theorem no_add (a b m : Nat) (h : m = 0 ∨ 2305843009213693952 < m) (w : World) :
    Calls Try.prog 40 #[.int .u64 a, .int .u64 b, .int .u64 m] w fun e w' => e = .returned (.int .u64 0) ∧ ∃ n, w' = w.drewN n := by
  have HC := Lib.hid (allowed_no m h)
  clear h
  go_enter Try.func40, Try.ntmps40
  go_wp2_with (go_at_call 42; refine (HC.out _).mono ?_; rintro e w' ⟨rfl, rfl⟩)
  go_ret
  exact ⟨rfl, ⟨0, rfl⟩⟩
theorem no_mul (a b m : Nat) (h : m = 0 ∨ 2305843009213693952 < m) (w : World) :
    Calls Try.prog 41 #[.int .u64 a, .int .u64 b, .int .u64 m] w fun e w' => e = .returned (.int .u64 0) ∧ ∃ n, w' = w.drewN n := by
  have HC := Lib.hid (allowed_no m h)
  clear h
  go_enter Try.func41, Try.ntmps41
  go_wp2_with (go_at_call 42; refine (HC.out _).mono ?_; rintro e w' ⟨rfl, rfl⟩)
  go_ret
  exact ⟨rfl, ⟨0, rfl⟩⟩
theorem no_pow (a b m : Nat) (h : m = 0 ∨ 2305843009213693952 < m) (w : World) :
    Calls Try.prog 30 #[.int .u64 a, .int .u64 b, .int .u64 m] w fun e w' => e = .returned (.int .u64 0) ∧ ∃ n, w' = w.drewN n := by
  have HC := Lib.hid (allowed_no m h)
  clear h
  go_enter Try.func30, Try.ntmps30
  go_wp2_with (go_at_call 42; refine (HC.out _).mono ?_; rintro e w' ⟨rfl, rfl⟩)
  go_ret
  exact ⟨rfl, ⟨0, rfl⟩⟩

set_option maxHeartbeats 400000 in
theorem pow_core (a0 e0 m : Nat) (hm : 0 < m) (hb : m ≤ 2305843009213693952) (ha : a0 < 18446744073709551616) (he : e0 < 18446744073709551616) (w : World) :
    Calls Try.prog 30 #[.int .u64 a0, .int .u64 e0, .int .u64 m] w fun e w' => e = .returned (.int .u64 ((MM.powm a0 e0 m : Nat) : Int)) ∧ ∃ n, w' = w.drewN n := by
  have HC := Lib.hid (allowed_ok m hm hb)
  have HM := Lib.hid (fun a b ha hb' => mul_any a b m hm hb ha hb')
  have HS := Lib.hid (MM.PowAt.start a0 e0 m hm)
  have HB := Lib.hid hb
  have HA := Lib.hid ha
  have HE := Lib.hid he
  clear hb ha he
  go_enter Try.func30, Try.ntmps30
  go_wp2_with (go_at_call 42; refine (HC.out _).mono ?_; rintro e w' ⟨rfl, rfl⟩)
  go_loopw [0, 1, 7] (fun s0 s1 s7 wx => ∃ a e p n : Nat, s0 = .int .u64 (a : Int) ∧ s1 = .int .u64 (e : Int) ∧ s7 = .int .u64 (p : Int) ∧ wx = w.drewN n ∧ Hid (a < 18446744073709551616) ∧ Hid (e < 18446744073709551616) ∧ MM.PowAt a0 e0 m p a e) (fun _ s1 _ _ => (RowKit.intOf s1).toNat)
  case atStart => exact ⟨_, _, _, 0, rfl, rfl, rfl, rfl, HA, HE, HS.out⟩
  case round =>
    obtain ⟨a, e, p, n, rfl, rfl, rfl, rfl, Ha, He, hp⟩ := hrel
    have HP := Lib.hid hp
    clear hp
    by_cases h0 : e = 0
    · have h0' : ¬ ((0 : Int) < (e : Int)) := by omega
      have HZ := Lib.hid h0
      clear h0
      go_wp2_with fail
      go_ret
      refine ⟨congrArg Ending.returned (int_eq ?_), ⟨_, rfl⟩⟩
      have h := HP.out
      rw [HZ.out] at h
      rw [h.done]
    · have h1 : (0 : Int) < (e : Int) := by omega
      have hand : bits BinOp.and IntKind.u64 (e : Int) 1 = (e : Int) % 2 := and_one_u64 (e : Int) (by omega) (by have := He.out; omega)
      have hlt := HP.out.lt
      have HLT : Hid (p < 18446744073709551616) := by have := HB.out; show p < 18446744073709551616; omega
      clear hlt
      rcases Nat.mod_two_eq_zero_or_one e with h2 | h2
      · have hb1 : (((e : Int) % 2) == 1) = false := by simp; omega
        have HN := Lib.hid (HP.out.even h2)
        have H2 := Lib.hid h2
        clear h2
        go_wp2_with (go_at_call 41; refine (HM.out _ _ Ha.out Ha.out _).mono ?_; rintro e w' ⟨rfl, n, rfl⟩)
        go_roundw
        case rel => exact ⟨_, _, _, _, rfl, int_eq (by omega), rfl, rfl, by have h := Nat.mod_lt (a * a) hm; have hB := HB.out; show a * a % m < 18446744073709551616; omega, by have h := He.out; show e / 2 < 18446744073709551616; omega, HN.out⟩
        case measure => simp [RowKit.intOf]; omega
      · have hb1 : (((e : Int) % 2) == 1) = true := by simp; omega
        have HN := Lib.hid (HP.out.odd h2)
        have H2 := Lib.hid h2
        clear h2
        go_wp2_with (first | (go_at_call_of 41 (Value.int IntKind.u64 (p : Int)); refine (HM.out p a HLT.out Ha.out _).mono ?_; rintro e w' ⟨rfl, n, rfl⟩) | (go_at_call_of 41 (Value.int IntKind.u64 (a : Int)); refine (HM.out a a Ha.out Ha.out _).mono ?_; rintro e w' ⟨rfl, n, rfl⟩))
        go_roundw
        case rel => exact ⟨_, _, _, _, rfl, int_eq (by omega), rfl, rfl, by have h := Nat.mod_lt (a * a) hm; have hB := HB.out; show a * a % m < 18446744073709551616; omega, by have h := He.out; show e / 2 < 18446744073709551616; omega, HN.out⟩
        case measure => simp [RowKit.intOf]; omega
end M
end Go.Proofs.Ytlnlepadninnaaa
/- What the tie of the program's two tables gives a walk: each cell of the witnesses, each cell of the table of bits.TrailingZeros64. -/
namespace Go.Proofs.Ytlnlepadninnaaa
open Go.ChangeShapes Go.WideShapes Go.ChangeAt Go.RowKit
namespace M


theorem own : ownKnob Try.prog.godebug = none := by kernel_rfl

/-- An array of integers that reads as a known row: its cells. -/
theorem int_cells {P : Program} {W : World} {n : Nat} {e t : TypeId} {k : IntKind} {cs : Array Value} {zs : List Int} {base fuel : Nat} {spare : Nat → Bool} {held : Bool} {enc : TypeId × Value → Unit} {q : List MemPlace}
    (ht : P.underlying t = some (.array n e)) (he : P.underlying e = some (.int k)) (c1 : P.cellsOf e = 1) (c2 : P.cellsOf t = n) (hz : zs.length = n)
    (h : DataW.trod enc P W base spare held fuel t cs.toList = some (.agg (zs.map fun z => .lit (.int k z)), q)) :
    cs.size = n ∧ ∀ r, r < n → cs[r]? = some (.int k (zs.getD r 0)) := by
  obtain ⟨xs, m, _, ex, hcl, hl, hel⟩ := DataW.trod_array ht h
  refine ⟨by rw [c2] at hcl; simpa using hcl, fun r hr => ?_⟩
  have hE := hel r hr
  rw [c1, Nat.mul_one, List.getElem?_eq_getElem (by omega)] at hE
  obtain ⟨z, e1, e2, _⟩ := DataW.trod_int he hE
  have e3 : (xs.map (·.1)) = zs.map fun z => .lit (.int k z) := (DataW.agg.inj (Prod.mk.inj ex).1).symm
  have e4 : (xs.map (·.1))[r]? = (zs.map fun z => (DataW.lit (.int k z) : DataW Unit))[r]? := by rw [e3]
  rw [List.getElem?_map, List.getElem?_map, List.getElem?_eq_getElem (by omega : r < xs.length), List.getElem?_eq_getElem (by omega : r < zs.length), e2] at e4
  have hz' : z = zs.getD r 0 := by
    simp only [Option.map_some, Option.some.injEq, DataW.lit.injEq, Lit.int.injEq, true_and] at e4
    rw [e4, List.getD, List.getElem?_eq_getElem (by omega : r < zs.length)]; rfl
  rw [← hz']
  have : cs.toList[r]? = some (.int k z) := by
    have h0 : ((cs.toList.drop r).take 1)[0]? = some (.int k z) := by rw [e1]; rfl
    simpa using h0
  simpa using this

theorem u64_bounds {n : Int} (h : (Lit.int .u64 n).wf = true) : 0 ≤ n ∧ n ≤ 18446744073709551615 := by
  simp [Lit.wf, IntKind.min, IntKind.max, IntKind.signed, IntKind.bits] at h
  omega

theorem grown_drewN {W w' : World} (h : Grown W w') (n : Nat) : Grown W (w'.drewN n) := h

/-- A call that answers v in every world, and leaves the world as it was but for draws. A plain definition: the walk does not look into it. -/
def Ret (f : FuncId) (args : Array Value) (v : Value) : Prop := ∀ W : World, Calls Try.prog f args W fun e w' => e = .returned v ∧ ∃ n, w' = W.drewN n
theorem Ret.at {f : FuncId} {args : Array Value} {v : Value} (h : Ret f args v) (W : World) : Calls Try.prog f args W fun e w' => e = .returned v ∧ ∃ n, w' = W.drewN n := h W
theorem Ret.quiet {f : FuncId} {args : Array Value} {v : Value} (h : Ret f args v) {w : World} {n : Nat} : Calls Try.prog f args (w.drewN n) fun e w'' => e = .returned v ∧ ∃ m, w'' = w.drewN m := Calls.quiet_of (h _)
end M
end Go.Proofs.Ytlnlepadninnaaa
/- What each call of package mod answers, as a fact that a walk meets: sum, difference, product, power, inverse modulo m, for m from 1 to 2^61. -/
namespace Go.Proofs.Ytlnlepadninnaaa
open Go.ChangeShapes Go.WideShapes Go.ChangeAt Go.RowKit
namespace M
theorem ret_add (a b m r : Nat) (hm : 0 < m) (hb : m ≤ 2305843009213693952) (h : (a + b) % m = r) : Ret 40 #[.int .u64 (a : Int), .int .u64 (b : Int), .int .u64 (m : Int)] (.int .u64 (r : Int)) := fun W => by rw [← h]; exact add_any a b m hm hb W
theorem ret_mul (a b m r : Nat) (hm : 0 < m) (hb : m ≤ 2305843009213693952) (ha : a < 18446744073709551616) (hb' : b < 18446744073709551616) (h : a * b % m = r) : Ret 41 #[.int .u64 (a : Int), .int .u64 (b : Int), .int .u64 (m : Int)] (.int .u64 (r : Int)) := fun W => by rw [← h]; exact mul_any a b m hm hb ha hb' W
theorem ret_pow (a e m r : Nat) (hm : 0 < m) (hb : m ≤ 2305843009213693952) (ha : a < 18446744073709551616) (he : e < 18446744073709551616) (h : MM.powm a e m = r) : Ret 30 #[.int .u64 (a : Int), .int .u64 (e : Int), .int .u64 (m : Int)] (.int .u64 (r : Int)) := fun W => by rw [← h]; exact pow_core a e m hm hb ha he W
theorem ret_no_add (a b m : Nat) (h : m = 0 ∨ 2305843009213693952 < m) : Ret 40 #[.int .u64 (a : Int), .int .u64 (b : Int), .int .u64 (m : Int)] (.int .u64 0) := no_add a b m h
theorem ret_no_mul (a b m : Nat) (h : m = 0 ∨ 2305843009213693952 < m) : Ret 41 #[.int .u64 (a : Int), .int .u64 (b : Int), .int .u64 (m : Int)] (.int .u64 0) := no_mul a b m h
theorem ret_no_pow (a b m : Nat) (h : m = 0 ∨ 2305843009213693952 < m) : Ret 30 #[.int .u64 (a : Int), .int .u64 (b : Int), .int .u64 (m : Int)] (.int .u64 0) := no_pow a b m h
end M
end Go.Proofs.Ytlnlepadninnaaa
/- Plain facts on the group: sums, products and powers modulo any number, products of rows, commitments, values at a place. Nothing here speaks of the program. -/
namespace Go.Proofs.Ytlnlepadninnaaa
namespace MM

/-- There are numbers modulo m. -/
def Good (m : Nat) : Prop := 0 < m ∧ m ≤ 2305843009213693952
instance (m : Nat) : Decidable (Good m) := by unfold Good; infer_instance
theorem good_not {m : Nat} (h : ¬ Good m) : m = 0 ∨ 2305843009213693952 < m := by unfold Good at h; omega
def addU (a b m : Nat) : Nat := if Good m then (a + b) % m else 0
def mulU (a b m : Nat) : Nat := if Good m then a * b % m else 0
def powU (a e m : Nat) : Nat := if Good m then powm a e m else 0
theorem lt_of_mod {a m : Nat} (h : Good m) : a % m < 18446744073709551616 := by have := Nat.mod_lt a h.1; have := h.2; omega
theorem addU_lt (a b m : Nat) : addU a b m < 18446744073709551616 := by
  unfold addU
  by_cases h : Good m
  · rw [if_pos h]; exact lt_of_mod h
  · rw [if_neg h]; omega
theorem mulU_lt (a b m : Nat) : mulU a b m < 18446744073709551616 := by
  unfold mulU
  by_cases h : Good m
  · rw [if_pos h]; exact lt_of_mod h
  · rw [if_neg h]; omega
theorem powU_lt (a b m : Nat) : powU a b m < 18446744073709551616 := by
  unfold powU
  by_cases h : Good m
  · rw [if_pos h]; exact lt_of_mod h
  · rw [if_neg h]; omega
theorem addU_of {a b m : Nat} (h : Good m) : addU a b m = (a + b) % m := if_pos h
theorem mulU_of {a b m : Nat} (h : Good m) : mulU a b m = a * b % m := if_pos h
theorem powU_of {a b m : Nat} (h : Good m) : powU a b m = a ^ b % m := if_pos h

/-- The product of the first n numbers of a row. -/
def timesN (P : Nat) (z : Nat → Nat) : Nat → Nat
  | 0 => addU 0 1 P
  | n + 1 => mulU (timesN P z n) (z n) P
theorem timesN_lt (P : Nat) (z : Nat → Nat) (n : Nat) : timesN P z n < 18446744073709551616 := by
  cases n
  · exact addU_lt _ _ _
  · exact mulU_lt _ _ _
theorem timesN_bad {P : Nat} (h : ¬ Good P) (z : Nat → Nat) : ∀ n, timesN P z n = 0
  | 0 => if_neg h
  | _ + 1 => if_neg h
theorem timesN_congr {P : Nat} {y z : Nat → Nat} : ∀ n, (∀ t, t < n → y t = z t) → timesN P y n = timesN P z n
  | 0, _ => rfl
  | n + 1, h => by unfold timesN; rw [timesN_congr n fun t ht => h t (by omega), h n (by omega)]
theorem times0 {P : Nat} (h : Good P) (z : Nat → Nat) : timesN P z 0 = 1 % P := by unfold timesN; rw [addU_of h]
theorem times2 {P : Nat} (h : Good P) (z : Nat → Nat) : timesN P z 2 = z 0 * z 1 % P := by
  unfold timesN timesN timesN
  rw [mulU_of h, mulU_of h, addU_of h, Nat.zero_add, mul_mod_left', ← mul_mod_left' (1 % P * z 0), mul_mod_left' 1, Nat.one_mul, mul_mod_left']
theorem times3 {P : Nat} (h : Good P) (z : Nat → Nat) : timesN P z 3 = z 0 * z 1 * z 2 % P := by
  rw [show timesN P z 3 = mulU (timesN P z 2) (z 2) P from rfl, times2 h, mulU_of h, mul_mod_left']
/-- A row of two. -/
def two (a b : Nat) : Nat → Nat
  | 0 => a
  | _ => b
/-- A row of three. -/
def three (a b c : Nat) : Nat → Nat
  | 0 => a
  | 1 => b
  | _ => c
def times2U (a b P : Nat) : Nat := timesN P (two a b) 2
theorem times2U_of {a b P : Nat} (h : Good P) : times2U a b P = a * b % P := times2 h _
theorem times2U_bad {a b P : Nat} (h : ¬ Good P) : times2U a b P = 0 := timesN_bad h _ _
theorem times2U_lt (a b P : Nat) : times2U a b P < 18446744073709551616 := timesN_lt _ _ _

/-- The power by squares, as the document reckons it: an even exponent, an odd one. -/
theorem pow_even (x e P : Nat) (he : e % 2 = 0) : times2U (powU x (e / 2) P) (powU x (e / 2) P) P = powU x e P := by
  by_cases h : Good P
  · rw [times2U_of h, powU_of h, powU_of h, ← Nat.mul_mod, ← Nat.pow_add]
    congr 2; omega
  · rw [times2U_bad h]; unfold powU; rw [if_neg h]
theorem pow_odd (x e P : Nat) (he : e % 2 = 1) : timesN P (three (powU x (e / 2) P) (powU x (e / 2) P) x) 3 = powU x e P := by
  by_cases h : Good P
  · rw [times3 h]
    show powU x (e / 2) P * powU x (e / 2) P * x % P = _
    rw [powU_of h, powU_of h, Nat.mul_mod, ← Nat.mul_mod (x ^ (e / 2)), ← Nat.mul_mod, ← Nat.pow_add, ← Nat.pow_succ]
    congr 2; omega
  · rw [timesN_bad h]; unfold powU; rw [if_neg h]
theorem pow_zero (x P : Nat) (z : Nat → Nat) : timesN P z 0 = powU x 0 P := by
  by_cases h : Good P
  · rw [times0 h, powU_of h, Nat.pow_zero]
  · rw [timesN_bad h]; unfold powU; rw [if_neg h]

/-- The commitment to a pair. -/
def comU (P G H s b : Nat) : Nat := times2U (powU G s P) (powU H b P) P
theorem comU_lt (P G H s b : Nat) : comU P G H s b < 18446744073709551616 := times2U_lt _ _ _
theorem comU_of {P G H s b : Nat} (h : Good P) : comU P G H s b = G ^ s * H ^ b % P := by
  unfold comU; rw [times2U_of h, powU_of h, powU_of h, ← Nat.mul_mod]

/-- The value of the first n commitments of a row at i. -/
def atN (P Q i : Nat) (z : Nat → Nat) : Nat → Nat
  | 0 => timesN P (fun _ => 0) 0
  | n + 1 => times2U (atN P Q i z n) (powU (z n) (powU i n Q) P) P
theorem atN_lt (P Q i : Nat) (z : Nat → Nat) (n : Nat) : atN P Q i z n < 18446744073709551616 := by
  cases n
  · exact timesN_lt _ _ _
  · exact times2U_lt _ _ _
theorem atN_congr {P Q i : Nat} {y z : Nat → Nat} : ∀ n, (∀ t, t < n → y t = z t) → atN P Q i y n = atN P Q i z n
  | 0, _ => rfl
  | n + 1, h => by unfold atN; rw [atN_congr n fun t ht => h t (by omega), h n (by omega)]

/-- An exponent may be taken modulo the number by which the power is 1. -/
theorem pow_modQ {x Q P : Nat} (h : x ^ Q % P = 1 % P) (k : Nat) : x ^ (k % Q) % P = x ^ k % P := by
  have e : k = Q * (k / Q) + k % Q := (Nat.div_add_mod k Q).symm
  conv => rhs; rw [e]
  rw [Nat.pow_add, Nat.pow_mul, ← mul_mod_left', ← pow_mod' (x ^ Q), h, pow_mod', mul_mod_left', Nat.one_pow, Nat.one_mul]
theorem root_pow {G Q P : Nat} (h : G ^ Q % P = 1 % P) (a : Nat) : (G ^ a % P) ^ Q % P = 1 % P := by
  rw [pow_mod', ← Nat.pow_mul, Nat.mul_comm, Nat.pow_mul, ← pow_mod' (G ^ Q), h, pow_mod', Nat.one_pow]

/-- What parameters that may be keep to, as far as it is used here. -/
structure Grp (P Q G H : Nat) : Prop where
  gP : Good P
  gQ : Good Q
  one : 1 < P
  two : 1 < Q
  rG : G ^ Q % P = 1 % P
  rH : H ^ Q % P = 1 % P

section
variable {P Q G H : Nat} (g : Grp P Q G H)
include g
theorem Grp.sum (x e f : Nat) (hx : x ^ Q % P = 1 % P) : times2U (powU x e P) (powU x f P) P = powU x (addU e f Q) P := by
  rw [times2U_of g.gP, powU_of g.gP, powU_of g.gP, powU_of g.gP, addU_of g.gQ, ← Nat.mul_mod, ← Nat.pow_add, pow_modQ hx]
theorem Grp.fold (x e f : Nat) (hx : x ^ Q % P = 1 % P) : powU (powU x e P) f P = powU x (mulU e f Q) P := by
  rw [powU_of g.gP, powU_of g.gP, powU_of g.gP, mulU_of g.gQ, pow_modQ hx, pow_mod', Nat.pow_mul]
theorem Grp.exp (x e : Nat) (hx : x ^ Q % P = 1 % P) : powU x (e % Q) P = powU x e P := by
  rw [powU_of g.gP, powU_of g.gP, pow_modQ hx]
theorem Grp.root (a : Nat) : (powU G a P) ^ Q % P = 1 % P := by rw [powU_of g.gP]; exact root_pow g.rG a
theorem Grp.comSum (s b s' b' : Nat) : times2U (comU P G H s b) (comU P G H s' b') P = comU P G H (addU s s' Q) (addU b b' Q) := by
  rw [times2U_of g.gP, comU_of g.gP, comU_of g.gP, comU_of g.gP, addU_of g.gQ, addU_of g.gQ, ← Nat.mul_mod, Nat.mul_mod (G ^ _), pow_modQ g.rG, pow_modQ g.rH, ← Nat.mul_mod, Nat.pow_add, Nat.pow_add, Nat.mul_mul_mul_comm]
theorem Grp.comFold (s b k : Nat) : powU (comU P G H s b) k P = comU P G H (mulU s k Q) (mulU b k Q) := by
  rw [powU_of g.gP, comU_of g.gP, comU_of g.gP, mulU_of g.gQ, mulU_of g.gQ, pow_mod', Nat.mul_mod (G ^ _), pow_modQ g.rG, pow_modQ g.rH, ← Nat.mul_mod, Nat.mul_pow, ← Nat.pow_mul, ← Nat.pow_mul]
end

/-- The exponents of the law on values: 1, and each behind it i times the one ahead, modulo Q. -/
def expN (Q i : Nat) : Nat → Nat
  | 0 => 1
  | n + 1 => mulU (expN Q i n) i Q
theorem expN_lt (Q i n : Nat) : expN Q i n < 18446744073709551616 := by
  cases n
  · show (1 : Nat) < _; omega
  · exact mulU_lt _ _ _
/-- The values of the coefficients s, as the law on values reckons them. -/
def valN (Q i : Nat) (s : Nat → Nat) : Nat → Nat
  | 0 => 0
  | n + 1 => addU (valN Q i s n) (mulU (s n) (expN Q i n) Q) Q
theorem valN_lt (Q i : Nat) (s : Nat → Nat) (n : Nat) : valN Q i s n < 18446744073709551616 := by
  cases n
  · show (0 : Nat) < _; omega
  · exact addU_lt _ _ _
section
variable {P Q G H : Nat} (g : Grp P Q G H)
include g
theorem Grp.expN (i : Nat) : ∀ n, expN Q i n = powU i n Q
  | 0 => by rw [powU_of g.gQ, Nat.pow_zero, Nat.mod_eq_of_lt g.two]; rfl
  | n + 1 => by
    show mulU (MM.expN Q i n) i Q = _
    rw [Grp.expN i n, powU_of g.gQ, powU_of g.gQ, mulU_of g.gQ, mul_mod_left', Nat.pow_succ]
theorem Grp.at (i : Nat) (s b : Nat → Nat) : ∀ n, atN P Q i (fun t => comU P G H (s t) (b t)) n = comU P G H (valN Q i s n) (valN Q i b n)
  | 0 => by
    show timesN P _ 0 = comU P G H 0 0
    rw [times0 g.gP, comU_of g.gP, Nat.pow_zero, Nat.pow_zero]
  | n + 1 => by
    show times2U (atN P Q i _ n) (powU (comU P G H (s n) (b n)) (powU i n Q) P) P = comU P G H (addU (valN Q i s n) (mulU (s n) (MM.expN Q i n) Q) Q) (addU (valN Q i b n) (mulU (b n) (MM.expN Q i n) Q) Q)
    rw [Grp.at i s b n, g.comFold, g.comSum, g.expN]
theorem Grp.atMod (i : Nat) (z : Nat → Nat) : ∀ n, atN P Q (i % Q) z n = atN P Q i z n
  | 0 => rfl
  | n + 1 => by
    show times2U (atN P Q (i % Q) z n) (powU (z n) (powU (i % Q) n Q) P) P = times2U (atN P Q i z n) (powU (z n) (powU i n Q) P) P
    rw [Grp.atMod i z n, powU_of g.gQ, powU_of g.gQ, pow_mod']
end
end MM
end Go.Proofs.Ytlnlepadninnaaa
/- What calls answer at whatever modulus, rows of numbers that a slice reads, and calls that make new memory at most. -/
namespace Go.Proofs.Ytlnlepadninnaaa
open Go Go.RowKit Go.Lib
namespace M
/-- A call that answers v in every world and makes new memory at most: what was there stays. A plain definition: the walk does not look into it. -/
def RetB (f : FuncId) (args : Array Value) (v : Value) : Prop := ∀ W : World, Calls Try.prog f args W fun e w' => e = .returned v ∧ Below W.heap.size W w'
theorem RetB.at {f : FuncId} {args : Array Value} {v : Value} (h : RetB f args v) (W : World) : Calls Try.prog f args W fun e w' => e = .returned v ∧ Below W.heap.size W w' := h W
theorem below_drewN (w : World) (n : Nat) : Below w.heap.size w (w.drewN n) := ⟨rfl, rfl, rfl, Nat.le_refl _, fun _ _ => rfl⟩
theorem Ret.toB {f : FuncId} {args : Array Value} {v : Value} (h : Ret f args v) : RetB f args v := fun W => (h W).mono fun _ _ ⟨he, n, hn⟩ => ⟨he, by rw [hn]; exact below_drewN _ _⟩
theorem bcell {W w1 : World} (hb : Below W.heap.size W w1) : (∀ b o, b < W.heap.size → w1.cell? ⟨b, o, none⟩ = W.cell? ⟨b, o, none⟩) ∧ (∀ b o, b < W.heap.size → w1.frozen? ⟨b, o, none⟩ = W.frozen? ⟨b, o, none⟩) :=
  ⟨fun b o h => hb.cell (p := ⟨b, o, none⟩) h, fun b o h => hb.frozen (p := ⟨b, o, none⟩) h⟩
theorem setCell_drewN (w : World) (n : Nat) (a : Addr) (v : Value) : (w.drewN n).setCell a v = (w.setCell a v).drewN n := rfl
theorem alloc_drewN (w : World) (n : Nat) (o : Obj) : (w.drewN n).alloc o = (w.alloc o).drewN n := rfl
theorem below_drewN' (w : World) (n B : Nat) : Below B w (w.drewN n) := ⟨rfl, rfl, rfl, Nat.le_refl _, fun _ _ => rfl⟩
theorem row_lt {w : World} {b : Nat} {o : Obj} (h : w.heap[b]? = some o) : b < w.heap.size := by
  rcases Nat.lt_or_ge b w.heap.size with h' | h'
  · exact h'
  · rw [Array.getElem?_eq_none h'] at h; cases h
theorem below_box (w : World) (o : Obj) : Below w.heap.size w (w.alloc o) := (Below.refl _ _).alloc (Nat.le_refl _) _
theorem Below.drawn {B : Nat} {w w' : World} (h : Below B w w') (n : Nat) : Below B w (w'.drewN n) := h.trans (below_drewN' w' n _)

theorem ret_addU (a b m : Nat) : Ret 40 #[.int .u64 (a : Int), .int .u64 (b : Int), .int .u64 (m : Int)] (.int .u64 ((MM.addU a b m : Nat) : Int)) := by
  unfold MM.addU
  by_cases h : MM.Good m
  · rw [if_pos h]; exact ret_add a b m _ h.1 h.2 rfl
  · rw [if_neg h]; exact ret_no_add a b m (MM.good_not h)
theorem ret_mulU (a b m : Nat) (ha : a < 18446744073709551616) (hb : b < 18446744073709551616) : Ret 41 #[.int .u64 (a : Int), .int .u64 (b : Int), .int .u64 (m : Int)] (.int .u64 ((MM.mulU a b m : Nat) : Int)) := by
  unfold MM.mulU
  by_cases h : MM.Good m
  · rw [if_pos h]; exact ret_mul a b m _ h.1 h.2 ha hb rfl
  · rw [if_neg h]; exact ret_no_mul a b m (MM.good_not h)
theorem ret_powU (a e m : Nat) (ha : a < 18446744073709551616) (he : e < 18446744073709551616) : Ret 30 #[.int .u64 (a : Int), .int .u64 (e : Int), .int .u64 (m : Int)] (.int .u64 ((MM.powU a e m : Nat) : Int)) := by
  unfold MM.powU
  by_cases h : MM.Good m
  · rw [if_pos h]; exact ret_pow a e m _ h.1 h.2 ha he rfl
  · rw [if_neg h]; exact ret_no_pow a e m (MM.good_not h)
/-- A row of numbers that a slice reads. -/
def Row (W : World) (a : Addr) (n : Nat) (z : Nat → Nat) : Prop := ∀ t, t < n → W.cell? (a.add t) = some (.int .u64 (z t : Int))
theorem Row.below {W W' : World} {a : Addr} {n : Nat} {z : Nat → Nat} (h : Row W a n z) (hb : Below W.heap.size W W') : Row W' a n z := fun t ht => by
  have h1 := h t ht
  have hs : (a.add t).block < W.heap.size := World.block_lt_of_cell? W _ h1
  rw [hb.cell hs]; exact h1
theorem Row.of_block {W : World} {b : Nat} {cs : Array Value} {t : TypeId} {n : Nat} {z : Nat → Nat} (h : W.heap[b]? = some (.cells cs t (0, 0))) (hz : ∀ k, k < n → cs[k]? = some (.int .u64 (z k : Int))) : Row W ⟨b, 0, none⟩ n z := fun k hk => by
  have e : (⟨b, 0, none⟩ : Addr).add k = ⟨b, k, none⟩ := by
    unfold Addr.add
    by_cases h0 : k = 0
    · subst h0; rfl
    · rw [if_neg h0]; simp
  rw [e, cell_of_row W b k _ _ _ h, hz k hk]

theorem row_cell {W : World} {b : Nat} {n : Nat} {z : Nat → Nat} (h : Row W ⟨b, 0, none⟩ n z) {k : Nat} (hk : k < n) : W.cell? ⟨b, k, none⟩ = some (.int .u64 ((z k : Nat) : Int)) := by
  have e : (⟨b, 0, none⟩ : Addr).add k = ⟨b, k, none⟩ := by
    unfold Addr.add
    by_cases h0 : k = 0
    · subst h0; rfl
    · rw [if_neg h0]; simp
  rw [← e]; exact h k hk
end M
end Go.Proofs.Ytlnlepadninnaaa
