/- Plain facts on sums, products, powers and inverses modulo a number. Nothing here speaks of the program. -/
namespace Go.Proofs.Ytdblijpoelcghaa
namespace MM
/-- The difference modulo m, as the program reckons it. -/
def subm (a b m : Nat) : Nat := (a % m + m - b % m) % m
/-- The power modulo m. -/
def powm (a e m : Nat) : Nat := a ^ e % m

/-- What the loop of the power keeps. -/
structure PowAt (a0 e0 m p a e : Nat) : Prop where
  lt : p < m
  eq : p * a ^ e % m = powm a0 e0 m

theorem mul_mod_left' (a b m : Nat) : (a % m) * b % m = a * b % m := by rw [Nat.mul_mod, Nat.mod_mod, ← Nat.mul_mod]
theorem mul_mod_right' (a b m : Nat) : a * (b % m) % m = a * b % m := by rw [Nat.mul_mod, Nat.mod_mod, ← Nat.mul_mod]
theorem pow_mod' (a e m : Nat) : (a % m) ^ e % m = a ^ e % m := (Nat.pow_mod a e m).symm

theorem PowAt.start (a e m : Nat) (hm : 0 < m) : PowAt a e m (1 % m) a e :=
  ⟨Nat.mod_lt _ hm, by rw [mul_mod_left', Nat.one_mul]; rfl⟩
theorem PowAt.even {a0 e0 m p a e : Nat} (h : PowAt a0 e0 m p a e) (he : e % 2 = 0) : PowAt a0 e0 m p (a * a % m) (e / 2) := by
  refine ⟨h.lt, ?_⟩
  rw [← h.eq, ← mul_mod_right', pow_mod', mul_mod_right']
  have e2 : e = 2 * (e / 2) := by omega
  have : a ^ e = (a * a) ^ (e / 2) := by
    rw [show a * a = a ^ 2 by rw [Nat.pow_two], ← Nat.pow_mul, ← e2]
  rw [this]
theorem PowAt.odd {a0 e0 m p a e : Nat} (h : PowAt a0 e0 m p a e) (he : e % 2 = 1) : PowAt a0 e0 m (p * a % m) (a * a % m) (e / 2) := by
  refine ⟨Nat.mod_lt _ (by have := h.lt; omega), ?_⟩
  rw [← h.eq, mul_mod_left', ← mul_mod_right', pow_mod', mul_mod_right']
  have e2 : e = 2 * (e / 2) + 1 := by omega
  have : a ^ e = a * (a * a) ^ (e / 2) := by
    rw [show a * a = a ^ 2 by rw [Nat.pow_two], ← Nat.pow_mul, Nat.mul_comm a, ← Nat.pow_succ, Nat.succ_eq_add_one, ← e2]
  rw [this, Nat.mul_assoc]
theorem PowAt.done {a0 e0 m p a : Nat} (h : PowAt a0 e0 m p a 0) : p = powm a0 e0 m := by
  rw [← h.eq, Nat.pow_zero, Nat.mul_one, Nat.mod_eq_of_lt h.lt]

end MM
end Go.Proofs.Ytdblijpoelcghaa
