/- Plain facts on polynomials as rows of coefficients, modulo any number. Nothing here speaks of the program. -/
import Derived.Test.YtaogdhpiiclejaaDoorGrpMath
import Derived.Test.YtaogdhpiiclejaaDoorModMath5
namespace Go.Proofs.YtaogdhpiiclejaaDoor
namespace MM
/-- The coefficient at i, modulo q; 0 behind the end. -/
def atU (n q : Nat) (z : Nat → Nat) (i : Nat) : Nat := if i < n then z i % q else 0
theorem atU_lt {n q i : Nat} {z : Nat → Nat} (h : Good q) : atU n q z i < 18446744073709551616 := by
  unfold atU
  by_cases hi : i < n
  · rw [if_pos hi]; exact lt_of_mod h
  · rw [if_neg hi]; omega
/-- The value of the first n coefficients at x. -/
def evalU (c : Nat → Nat) (x q : Nat) : Nat → Nat
  | 0 => 0
  | n + 1 => addU (evalU c x q n) (mulU (c n) (powU x n q) q) q
theorem evalU_lt (c : Nat → Nat) (x q n : Nat) : evalU c x q n < 18446744073709551616 := by
  cases n
  · show (0 : Nat) < _; omega
  · exact addU_lt _ _ _
/-- The degree of the first n coefficients: that of the last one that is not 0 modulo q. -/
def degU (c : Nat → Nat) (q : Nat) : Nat → Int
  | 0 => -1
  | n + 1 => if c n % q = 0 then degU c q n else n
theorem degU_bd (c : Nat → Nat) (q : Nat) : ∀ n : Nat, -1 ≤ degU c q n ∧ degU c q n < n
  | 0 => ⟨by show (-1 : Int) ≤ -1; omega, by show (-1 : Int) < ((0 : Nat) : Int); omega⟩
  | n + 1 => by
    have h := degU_bd c q n
    unfold degU
    by_cases h0 : c n % q = 0
    · rw [if_pos h0]; omega
    · rw [if_neg h0]; omega
/-- The coefficients of a sum, and of a multiple. -/
def sumU (n m q : Nat) (a b : Nat → Nat) (i : Nat) : Nat := addU (atU n q a i) (atU m q b i) q
def scaleU (k q : Nat) (a : Nat → Nat) (i : Nat) : Nat := mulU (a i) k q
/-- The coefficient at n of a product: its first i summands. -/
def convU (la lb q : Nat) (a b : Nat → Nat) (n : Nat) : Nat → Nat
  | 0 => 0
  | i + 1 => if i < la ∧ n - i < lb then addU (convU la lb q a b n i) (mulU (a i) (b (n - i)) q) q else convU la lb q a b n i
theorem convU_lt (la lb q : Nat) (a b : Nat → Nat) (n : Nat) : ∀ i, convU la lb q a b n i < 18446744073709551616
  | 0 => by show (0 : Nat) < _; omega
  | i + 1 => by
    unfold convU
    by_cases h : i < la ∧ n - i < lb
    · rw [if_pos h]; exact addU_lt _ _ _
    · rw [if_neg h]; exact convU_lt la lb q a b n i
def timesU (la lb q : Nat) (a b : Nat → Nat) (n : Nat) : Nat := convU la lb q a b n (n + 1)
/-- Whether the first n coefficients are the same. -/
def sameU (la lb q : Nat) (a b : Nat → Nat) : Nat → Bool
  | 0 => true
  | n + 1 => sameU la lb q a b n && (atU la q a n == atU lb q b n)
theorem sameU_no {la lb q : Nat} {a b : Nat → Nat} {k : Nat} (h : atU la q a k ≠ atU lb q b k) : ∀ n, k < n → sameU la lb q a b n = false
  | 0, hk => absurd hk (by omega)
  | n + 1, hk => by
    unfold sameU
    rcases Nat.lt_or_ge k n with h1 | h1
    · rw [sameU_no h n h1, Bool.false_and]
    · obtain rfl : k = n := by omega
      rw [show (atU la q a k == atU lb q b k) = false by simpa using h, Bool.and_false]
theorem sameU_succ {la lb q : Nat} {a b : Nat → Nat} {k : Nat} (h0 : sameU la lb q a b k = true) (h : atU la q a k = atU lb q b k) : sameU la lb q a b (k + 1) = true := by
  rw [sameU, h0, h]; simp
/-- The difference, and the inverse with what is told beside it, modulo any number. -/
def subU (a b m : Nat) : Nat := if Good m then subm a b m else 0
theorem subU_lt (a b m : Nat) : subU a b m < 18446744073709551616 := by
  unfold subU
  by_cases h : Good m
  · rw [if_pos h]; exact lt_of_mod h
  · rw [if_neg h]; omega
noncomputable def invU (a m : Nat) : Nat := if Good m ∧ Nat.gcd a m = 1 then invm a m else 0
def invC (a m : Nat) : Int := if Good m then (if Nat.gcd a m = 1 then 0 else 5) else 1
theorem invU_of {a m x : Nat} (h : Good m) (hx : IsInv a m x) : invU a m = x := by unfold invU; rw [if_pos ⟨h, hx.gcd⟩, invm_eq hx]
theorem invU_lt (a m : Nat) : invU a m < 18446744073709551616 := by
  unfold invU
  by_cases h : Good m ∧ Nat.gcd a m = 1
  · rw [if_pos h]
    obtain ⟨x, hx⟩ := exists_inv h.1.1 h.2
    rw [invm_eq hx]
    have := hx.1; have := h.1.2; omega
  · rw [if_neg h]; omega
/-- What is wrong with places: two that are the same, one that has no inverse against another. -/
def twRow (q : Nat) (z : Nat → Nat) (i : Nat) : Nat → Bool
  | 0 => false
  | k + 1 => twRow q z i k || (subU (z i) (z k) q == 0)
def noRow (q : Nat) (z : Nat → Nat) (i : Nat) : Nat → Bool
  | 0 => false
  | k + 1 => noRow q z i k || (invC (subU (z i) (z k) q) q != 0)
def twAll (q : Nat) (z : Nat → Nat) : Nat → Bool
  | 0 => false
  | i + 1 => twAll q z i || twRow q z i i
def noAll (q : Nat) (z : Nat → Nat) : Nat → Bool
  | 0 => false
  | i + 1 => noAll q z i || noRow q z i i
theorem twRow_up {q : Nat} {z : Nat → Nat} {i k : Nat} (h : subU (z i) (z k) q = 0) : ∀ n, k < n → twRow q z i n = true
  | 0, hk => absurd hk (by omega)
  | n + 1, hk => by
    unfold twRow
    rcases Nat.lt_or_ge k n with h1 | h1
    · rw [twRow_up h n h1, Bool.true_or]
    · obtain rfl : k = n := by omega
      rw [h]; simp
theorem twAll_up {q : Nat} {z : Nat → Nat} {i : Nat} (h : twRow q z i i = true) : ∀ n, i < n → twAll q z n = true
  | 0, hk => absurd hk (by omega)
  | n + 1, hk => by
    unfold twAll
    rcases Nat.lt_or_ge i n with h1 | h1
    · rw [twAll_up h n h1, Bool.true_or]
    · obtain rfl : i = n := by omega
      rw [h, Bool.or_true]
/-- What is told of places where there are numbers, and not too many places. -/
def wrongB (q : Nat) (z : Nat → Nat) (n : Nat) : Int := if twAll q z n = true then 6 else if noAll q z n = true then 5 else 0
def wrongU (q n : Nat) (z : Nat → Nat) : Int := if ¬ Good q then 1 else if 1024 < n then 40 else wrongB q z n
/-- The weight of the place i: its first k factors. -/
noncomputable def weightU (q : Nat) (z : Nat → Nat) (place i : Nat) : Nat → Nat
  | 0 => addU 1 0 q
  | k + 1 => if k = i then weightU q z place i k else mulU (weightU q z place i k) (mulU (subU place (z k) q) (invU (subU (z i) (z k) q) q) q) q
/-- What is 0 at the first i places, and the polynomial through the first i points, point by point. -/
def noneU (q : Nat) (z : Nat → Nat) : Nat → Nat → Nat
  | 0 => fun _ => addU 1 0 q
  | i + 1 => timesU (i + 1) 2 q (noneU q z i) (two (subU 0 (z i) q) 1)
theorem noneU_lt (q : Nat) (z : Nat → Nat) : ∀ i k, noneU q z i k < 18446744073709551616
  | 0, _ => addU_lt _ _ _
  | _ + 1, _ => convU_lt _ _ _ _ _ _ _
noncomputable def facU (q : Nat) (z y : Nat → Nat) (i : Nat) (o : Nat → Nat) : Nat := mulU (subU (y i) (evalU o (z i) q i) q) (invU (evalU (noneU q z i) (z i) q (i + 1)) q) q
noncomputable def thruU (q : Nat) (z y : Nat → Nat) : Nat → Nat → Nat
  | 0 => fun _ => 0
  | i + 1 => sumU i (i + 1) q (thruU q z y i) (scaleU (facU q z y i (thruU q z y i)) q (noneU q z i))
end MM
end Go.Proofs.YtaogdhpiiclejaaDoor
