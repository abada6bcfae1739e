/- The test of primes that the program makes, as a function on numbers. Nothing here speaks of the program. -/
import Derived.Test.YtdblijpoelcghaaModMath3
namespace Go.Proofs.Ytdblijpoelcghaa
namespace MM

/-- The numbers by which a prime is tested. -/
def wits : List Nat := [2, 3, 5, 7, 11, 13, 17, 19, 23]

/-- Squared again and again, k times at most: is n - 1 met? -/
def passB (n : Nat) : Nat → Nat → Bool
  | 0, _ => false
  | k + 1, x => x == n - 1 || passB n k (x * x % n)

/-- All the numbers of a list: n is one that divides it, or each passes. -/
def primeL (n d t : Nat) : List Nat → Bool
  | [] => true
  | v :: l => if n % v = 0 then n == v else if powm v d n == 1 || passB n t (powm v d n) then primeL n d t l else false

/-- What mod.Prime answers; t: how often 2 divides n - 1. -/
def primeB (t n : Nat) : Bool := if n < 2 ∨ 2305843009213693952 < n then false else primeL n ((n - 1) / 2 ^ t) t wits

theorem wits_pos : ∀ k, k < 9 → 2 ≤ wits.getD k 0 ∧ wits.getD k 0 < 24 := by decide
theorem wits_drop (k : Nat) (h : k < 9) : wits.drop k = wits.getD k 0 :: wits.drop (k + 1) := by
  rw [List.drop_eq_getElem_cons (show k < wits.length from h), List.getD_eq_getElem?_getD, List.getElem?_eq_getElem (show k < wits.length from h)]
  rfl
end MM
end Go.Proofs.Ytdblijpoelcghaa
