/- Powers and the test of primes reckoned by squaring, so that they can be computed for great numbers: the same as the plain ones. Nothing here speaks of the program. -/
import Derived.Test.YtaogdhpiiclejaaDoorModMath5
import Derived.Lib.TrailingZeros
namespace Go.Proofs.YtaogdhpiiclejaaDoor
namespace MM

def pw (m : Nat) : Nat → Nat → Nat → Nat → Nat
  | 0, p, _, _ => p
  | k + 1, p, a, e => if e = 0 then p else pw m k (if e % 2 = 1 then p * a % m else p) (a * a % m) (e / 2)
theorem pw_eq {a0 e0 m : Nat} : ∀ k p a e, e < 2 ^ k → PowAt a0 e0 m p a e → pw m k p a e = powm a0 e0 m
  | 0, p, a, e, he, h => by
    obtain rfl : e = 0 := by simp at he; exact he
    exact h.done
  | k + 1, p, a, e, he, h => by
    unfold pw
    by_cases h0 : e = 0
    · subst h0; rw [if_pos rfl]; exact h.done
    · rw [if_neg h0]
      have h2 : e / 2 < 2 ^ k := by rw [Nat.pow_succ] at he; omega
      by_cases h1 : e % 2 = 1
      · rw [if_pos h1]; exact pw_eq k _ _ _ h2 (h.odd h1)
      · rw [if_neg h1]; exact pw_eq k _ _ _ h2 (h.even (by omega))
def powF (a e m : Nat) : Nat := pw m 64 (1 % m) a e
theorem powF_eq (a e m : Nat) (hm : 0 < m) (he : e < 18446744073709551616) : powm a e m = powF a e m := (pw_eq 64 _ _ _ he (PowAt.start a e m hm)).symm

def primeLF (n d t : Nat) : List Nat → Bool
  | [] => true
  | v :: l => if n % v = 0 then n == v else if powF v d n == 1 || passB n t (powF v d n) then primeLF n d t l else false
theorem primeLF_eq (n d t : Nat) (hn : 0 < n) (hd : d < 18446744073709551616) : ∀ l, primeL n d t l = primeLF n d t l
  | [] => rfl
  | v :: l => by unfold primeL primeLF; rw [powF_eq v d n hn hd, primeLF_eq n d t hn hd l]
def primeF (n : Nat) : Bool := if n < 2 ∨ 2305843009213693952 < n then false else primeLF n ((n - 1) / 2 ^ Lib.ctz 64 (n - 1)) (Lib.ctz 64 (n - 1)) wits
theorem primeF_eq (n : Nat) : primeB (Lib.ctz 64 (n - 1)) n = primeF n := by
  unfold primeB primeF
  by_cases h : n < 2 ∨ 2305843009213693952 < n
  · rw [if_pos h, if_pos h]
  · rw [if_neg h, if_neg h, primeLF_eq _ _ _ (by omega) (Nat.lt_of_le_of_lt (Nat.div_le_self _ _) (by omega))]
end MM
end Go.Proofs.YtaogdhpiiclejaaDoor
