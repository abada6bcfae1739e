/- Plain facts: a polynomial's value reckoned from the last coefficient on, and from the first one on, are the same. -/
import Derived.Test.YtaogdhpiiclejaaDoorPolyW4
namespace Go.Proofs.YtaogdhpiiclejaaDoor
namespace MM
theorem hornL_bad {z : Nat → Nat} {x q : Nat} (hq : ¬ Good q) (l : List Nat) : hornL z x q l = 0 := by
  rcases List.eq_nil_or_concat l with rfl | ⟨l', i, rfl⟩
  · rfl
  · rw [List.concat_eq_append, hornL_snoc]; unfold addU; rw [if_neg hq]
theorem evalU_bad {z : Nat → Nat} {x q : Nat} (hq : ¬ Good q) : ∀ n, evalU z x q n = 0
  | 0 => rfl
  | n + 1 => by unfold evalU addU; rw [if_neg hq]
theorem add_mul_mod (a b c q : Nat) : (a + b % q * c) % q = (a + b * c) % q := by rw [Nat.add_mod, mul_mod_left', ← Nat.add_mod]
theorem horn_part {z : Nat → Nat} {x q n : Nat} (hq : Good q) : ∀ j m, m + j = n → (evalU z x q m + hornL z x q (M.down n m) * x ^ m) % q = evalU z x q n % q
  | 0, m, h => by
    obtain rfl : m = n := by omega
    rw [M.down_self]; simp [hornL]
  | j + 1, m, h => by
    have ih := horn_part (z := z) (x := x) (n := n) hq j (m + 1) (by omega)
    have hd := M.down_succ (n := n) (m := m) (by omega)
    rw [← ih, hd, hornL_snoc, evalU, addU_of hq, mulU_of hq, addU_of hq, mulU_of hq, powU_of hq]
    generalize hornL z x q (M.down n (m + 1)) = H
    generalize evalU z x q m = E
    have e1 : (E + (H * x % q + z m) % q * x ^ m) % q = (E + z m * x ^ m + H * x * x ^ m) % q := by
      rw [add_mul_mod, Nat.add_mul, show E + (H * x % q * x ^ m + z m * x ^ m) = E + z m * x ^ m + H * x % q * x ^ m by omega, add_mul_mod]
    have e2 : ((E + z m * (x ^ m % q) % q) % q + H * x ^ (m + 1)) % q = (E + z m * x ^ m + H * x ^ (m + 1)) % q := by
      rw [Nat.mod_add_mod, show E + z m * (x ^ m % q) % q + H * x ^ (m + 1) = E + H * x ^ (m + 1) + z m * (x ^ m % q) % q by omega, Nat.add_mod_mod, Nat.mul_comm (z m), add_mul_mod,
        show E + H * x ^ (m + 1) + x ^ m * z m = E + x ^ m * z m + H * x ^ (m + 1) by omega, Nat.mul_comm (x ^ m)]
    rw [e1, e2, Nat.pow_succ, Nat.mul_assoc H x, Nat.mul_comm x]
theorem evalU_mod {z : Nat → Nat} {x q : Nat} (hq : Good q) : ∀ n, evalU z x q n % q = evalU z x q n
  | 0 => Nat.zero_mod _
  | n + 1 => by unfold evalU; rw [addU_of hq, Nat.mod_mod]
theorem hornL_mod {z : Nat → Nat} {x q : Nat} (hq : Good q) (l : List Nat) : hornL z x q l % q = hornL z x q l := by
  rcases List.eq_nil_or_concat l with rfl | ⟨l', i, rfl⟩
  · exact Nat.zero_mod _
  · rw [List.concat_eq_append, hornL_snoc, addU_of hq, Nat.mod_mod]
theorem horn_eval (z : Nat → Nat) (x q n : Nat) : hornL z x q (M.down n 0) = evalU z x q n := by
  by_cases hq : Good q
  · have h := horn_part (z := z) (x := x) hq n 0 (Nat.zero_add n)
    rw [show evalU z x q 0 = 0 from rfl, Nat.zero_add, Nat.pow_zero, Nat.mul_one, hornL_mod hq, evalU_mod hq] at h
    exact h
  · rw [hornL_bad hq, evalU_bad hq]
end MM
end Go.Proofs.YtaogdhpiiclejaaDoor
