/- Plain facts on the group: sums, products and powers modulo any number, products of rows, commitments, values at a place. Nothing here speaks of the program. -/
import Derived.Test.YtdblijpoelcghaaModMath2
namespace Go.Proofs.Ytdblijpoelcghaa
namespace MM

/-- There are numbers modulo m. -/
def Good (m : Nat) : Prop := 0 < m ∧ m ≤ 2305843009213693952
instance (m : Nat) : Decidable (Good m) := by unfold Good; infer_instance
theorem good_not {m : Nat} (h : ¬ Good m) : m = 0 ∨ 2305843009213693952 < m := by unfold Good at h; omega
def addU (a b m : Nat) : Nat := if Good m then (a + b) % m else 0
def mulU (a b m : Nat) : Nat := if Good m then a * b % m else 0
def powU (a e m : Nat) : Nat := if Good m then powm a e m else 0
theorem lt_of_mod {a m : Nat} (h : Good m) : a % m < 18446744073709551616 := by have := Nat.mod_lt a h.1; have := h.2; omega
theorem addU_lt (a b m : Nat) : addU a b m < 18446744073709551616 := by
  unfold addU
  by_cases h : Good m
  · rw [if_pos h]; exact lt_of_mod h
  · rw [if_neg h]; omega
theorem mulU_lt (a b m : Nat) : mulU a b m < 18446744073709551616 := by
  unfold mulU
  by_cases h : Good m
  · rw [if_pos h]; exact lt_of_mod h
  · rw [if_neg h]; omega
theorem powU_lt (a b m : Nat) : powU a b m < 18446744073709551616 := by
  unfold powU
  by_cases h : Good m
  · rw [if_pos h]; exact lt_of_mod h
  · rw [if_neg h]; omega
theorem addU_of {a b m : Nat} (h : Good m) : addU a b m = (a + b) % m := if_pos h
theorem mulU_of {a b m : Nat} (h : Good m) : mulU a b m = a * b % m := if_pos h
theorem powU_of {a b m : Nat} (h : Good m) : powU a b m = a ^ b % m := if_pos h

/-- The product of the first n numbers of a row. -/
def timesN (P : Nat) (z : Nat → Nat) : Nat → Nat
  | 0 => addU 0 1 P
  | n + 1 => mulU (timesN P z n) (z n) P
theorem timesN_lt (P : Nat) (z : Nat → Nat) (n : Nat) : timesN P z n < 18446744073709551616 := by
  cases n
  · exact addU_lt _ _ _
  · exact mulU_lt _ _ _
theorem timesN_bad {P : Nat} (h : ¬ Good P) (z : Nat → Nat) : ∀ n, timesN P z n = 0
  | 0 => if_neg h
  | _ + 1 => if_neg h
theorem timesN_congr {P : Nat} {y z : Nat → Nat} : ∀ n, (∀ t, t < n → y t = z t) → timesN P y n = timesN P z n
  | 0, _ => rfl
  | n + 1, h => by unfold timesN; rw [timesN_congr n fun t ht => h t (by omega), h n (by omega)]
theorem times0 {P : Nat} (h : Good P) (z : Nat → Nat) : timesN P z 0 = 1 % P := by unfold timesN; rw [addU_of h]
theorem times2 {P : Nat} (h : Good P) (z : Nat → Nat) : timesN P z 2 = z 0 * z 1 % P := by
  unfold timesN timesN timesN
  rw [mulU_of h, mulU_of h, addU_of h, Nat.zero_add, mul_mod_left', ← mul_mod_left' (1 % P * z 0), mul_mod_left' 1, Nat.one_mul, mul_mod_left']
theorem times3 {P : Nat} (h : Good P) (z : Nat → Nat) : timesN P z 3 = z 0 * z 1 * z 2 % P := by
  rw [show timesN P z 3 = mulU (timesN P z 2) (z 2) P from rfl, times2 h, mulU_of h, mul_mod_left']
/-- A row of two. -/
def two (a b : Nat) : Nat → Nat
  | 0 => a
  | _ => b
/-- A row of three. -/
def three (a b c : Nat) : Nat → Nat
  | 0 => a
  | 1 => b
  | _ => c
def times2U (a b P : Nat) : Nat := timesN P (two a b) 2
theorem times2U_of {a b P : Nat} (h : Good P) : times2U a b P = a * b % P := times2 h _
theorem times2U_bad {a b P : Nat} (h : ¬ Good P) : times2U a b P = 0 := timesN_bad h _ _
theorem times2U_lt (a b P : Nat) : times2U a b P < 18446744073709551616 := timesN_lt _ _ _

/-- The power by squares, as the document reckons it: an even exponent, an odd one. -/
theorem pow_even (x e P : Nat) (he : e % 2 = 0) : times2U (powU x (e / 2) P) (powU x (e / 2) P) P = powU x e P := by
  by_cases h : Good P
  · rw [times2U_of h, powU_of h, powU_of h, ← Nat.mul_mod, ← Nat.pow_add]
    congr 2; omega
  · rw [times2U_bad h]; unfold powU; rw [if_neg h]
theorem pow_odd (x e P : Nat) (he : e % 2 = 1) : timesN P (three (powU x (e / 2) P) (powU x (e / 2) P) x) 3 = powU x e P := by
  by_cases h : Good P
  · rw [times3 h]
    show powU x (e / 2) P * powU x (e / 2) P * x % P = _
    rw [powU_of h, powU_of h, Nat.mul_mod, ← Nat.mul_mod (x ^ (e / 2)), ← Nat.mul_mod, ← Nat.pow_add, ← Nat.pow_succ]
    congr 2; omega
  · rw [timesN_bad h]; unfold powU; rw [if_neg h]
theorem pow_zero (x P : Nat) (z : Nat → Nat) : timesN P z 0 = powU x 0 P := by
  by_cases h : Good P
  · rw [times0 h, powU_of h, Nat.pow_zero]
  · rw [timesN_bad h]; unfold powU; rw [if_neg h]

/-- The commitment to a pair. -/
def comU (P G H s b : Nat) : Nat := times2U (powU G s P) (powU H b P) P
theorem comU_lt (P G H s b : Nat) : comU P G H s b < 18446744073709551616 := times2U_lt _ _ _
theorem comU_of {P G H s b : Nat} (h : Good P) : comU P G H s b = G ^ s * H ^ b % P := by
  unfold comU; rw [times2U_of h, powU_of h, powU_of h, ← Nat.mul_mod]

/-- The value of the first n commitments of a row at i. -/
def atN (P Q i : Nat) (z : Nat → Nat) : Nat → Nat
  | 0 => timesN P (fun _ => 0) 0
  | n + 1 => times2U (atN P Q i z n) (powU (z n) (powU i n Q) P) P
theorem atN_lt (P Q i : Nat) (z : Nat → Nat) (n : Nat) : atN P Q i z n < 18446744073709551616 := by
  cases n
  · exact timesN_lt _ _ _
  · exact times2U_lt _ _ _
theorem atN_congr {P Q i : Nat} {y z : Nat → Nat} : ∀ n, (∀ t, t < n → y t = z t) → atN P Q i y n = atN P Q i z n
  | 0, _ => rfl
  | n + 1, h => by unfold atN; rw [atN_congr n fun t ht => h t (by omega), h n (by omega)]

/-- An exponent may be taken modulo the number by which the power is 1. -/
theorem pow_modQ {x Q P : Nat} (h : x ^ Q % P = 1 % P) (k : Nat) : x ^ (k % Q) % P = x ^ k % P := by
  have e : k = Q * (k / Q) + k % Q := (Nat.div_add_mod k Q).symm
  conv => rhs; rw [e]
  rw [Nat.pow_add, Nat.pow_mul, ← mul_mod_left', ← pow_mod' (x ^ Q), h, pow_mod', mul_mod_left', Nat.one_pow, Nat.one_mul]
theorem root_pow {G Q P : Nat} (h : G ^ Q % P = 1 % P) (a : Nat) : (G ^ a % P) ^ Q % P = 1 % P := by
  rw [pow_mod', ← Nat.pow_mul, Nat.mul_comm, Nat.pow_mul, ← pow_mod' (G ^ Q), h, pow_mod', Nat.one_pow]

/-- What parameters that may be keep to, as far as it is used here. -/
structure Grp (P Q G H : Nat) : Prop where
  gP : Good P
  gQ : Good Q
  one : 1 < P
  two : 1 < Q
  rG : G ^ Q % P = 1 % P
  rH : H ^ Q % P = 1 % P

section
variable {P Q G H : Nat} (g : Grp P Q G H)
include g
theorem Grp.sum (x e f : Nat) (hx : x ^ Q % P = 1 % P) : times2U (powU x e P) (powU x f P) P = powU x (addU e f Q) P := by
  rw [times2U_of g.gP, powU_of g.gP, powU_of g.gP, powU_of g.gP, addU_of g.gQ, ← Nat.mul_mod, ← Nat.pow_add, pow_modQ hx]
theorem Grp.fold (x e f : Nat) (hx : x ^ Q % P = 1 % P) : powU (powU x e P) f P = powU x (mulU e f Q) P := by
  rw [powU_of g.gP, powU_of g.gP, powU_of g.gP, mulU_of g.gQ, pow_modQ hx, pow_mod', Nat.pow_mul]
theorem Grp.exp (x e : Nat) (hx : x ^ Q % P = 1 % P) : powU x (e % Q) P = powU x e P := by
  rw [powU_of g.gP, powU_of g.gP, pow_modQ hx]
theorem Grp.root (a : Nat) : (powU G a P) ^ Q % P = 1 % P := by rw [powU_of g.gP]; exact root_pow g.rG a
theorem Grp.comSum (s b s' b' : Nat) : times2U (comU P G H s b) (comU P G H s' b') P = comU P G H (addU s s' Q) (addU b b' Q) := by
  rw [times2U_of g.gP, comU_of g.gP, comU_of g.gP, comU_of g.gP, addU_of g.gQ, addU_of g.gQ, ← Nat.mul_mod, Nat.mul_mod (G ^ _), pow_modQ g.rG, pow_modQ g.rH, ← Nat.mul_mod, Nat.pow_add, Nat.pow_add, Nat.mul_mul_mul_comm]
theorem Grp.comFold (s b k : Nat) : powU (comU P G H s b) k P = comU P G H (mulU s k Q) (mulU b k Q) := by
  rw [powU_of g.gP, comU_of g.gP, comU_of g.gP, mulU_of g.gQ, mulU_of g.gQ, pow_mod', Nat.mul_mod (G ^ _), pow_modQ g.rG, pow_modQ g.rH, ← Nat.mul_mod, Nat.mul_pow, ← Nat.pow_mul, ← Nat.pow_mul]
end

/-- The exponents of the law on values: 1, and each behind it i times the one ahead, modulo Q. -/
def expN (Q i : Nat) : Nat → Nat
  | 0 => 1
  | n + 1 => mulU (expN Q i n) i Q
theorem expN_lt (Q i n : Nat) : expN Q i n < 18446744073709551616 := by
  cases n
  · show (1 : Nat) < _; omega
  · exact mulU_lt _ _ _
/-- The values of the coefficients s, as the law on values reckons them. -/
def valN (Q i : Nat) (s : Nat → Nat) : Nat → Nat
  | 0 => 0
  | n + 1 => addU (valN Q i s n) (mulU (s n) (expN Q i n) Q) Q
theorem valN_lt (Q i : Nat) (s : Nat → Nat) (n : Nat) : valN Q i s n < 18446744073709551616 := by
  cases n
  · show (0 : Nat) < _; omega
  · exact addU_lt _ _ _
section
variable {P Q G H : Nat} (g : Grp P Q G H)
include g
theorem Grp.expN (i : Nat) : ∀ n, expN Q i n = powU i n Q
  | 0 => by rw [powU_of g.gQ, Nat.pow_zero, Nat.mod_eq_of_lt g.two]; rfl
  | n + 1 => by
    show mulU (MM.expN Q i n) i Q = _
    rw [Grp.expN i n, powU_of g.gQ, powU_of g.gQ, mulU_of g.gQ, mul_mod_left', Nat.pow_succ]
theorem Grp.at (i : Nat) (s b : Nat → Nat) : ∀ n, atN P Q i (fun t => comU P G H (s t) (b t)) n = comU P G H (valN Q i s n) (valN Q i b n)
  | 0 => by
    show timesN P _ 0 = comU P G H 0 0
    rw [times0 g.gP, comU_of g.gP, Nat.pow_zero, Nat.pow_zero]
  | n + 1 => by
    show times2U (atN P Q i _ n) (powU (comU P G H (s n) (b n)) (powU i n Q) P) P = comU P G H (addU (valN Q i s n) (mulU (s n) (MM.expN Q i n) Q) Q) (addU (valN Q i b n) (mulU (b n) (MM.expN Q i n) Q) Q)
    rw [Grp.at i s b n, g.comFold, g.comSum, g.expN]
theorem Grp.atMod (i : Nat) (z : Nat → Nat) : ∀ n, atN P Q (i % Q) z n = atN P Q i z n
  | 0 => rfl
  | n + 1 => by
    show times2U (atN P Q (i % Q) z n) (powU (z n) (powU (i % Q) n Q) P) P = times2U (atN P Q i z n) (powU (z n) (powU i n Q) P) P
    rw [Grp.atMod i z n, powU_of g.gQ, powU_of g.gQ, pow_mod']
end
end MM
end Go.Proofs.Ytdblijpoelcghaa
