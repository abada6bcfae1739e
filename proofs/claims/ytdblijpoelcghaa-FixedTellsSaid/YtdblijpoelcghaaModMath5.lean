/- Plain facts on inverses modulo a number: when there is one, of a product, of an inverse. Nothing here speaks of the program. -/
import Derived.Test.YtdblijpoelcghaaModMath4
namespace Go.Proofs.Ytdblijpoelcghaa
namespace MM

theorem InvAt.all {a m : Nat} (hg : Nat.gcd a m = 1) : ∀ (next rest inv aft : Nat), InvAt a m rest next inv aft → ∃ x, IsInv a m x := by
  intro next
  induction next using Nat.strongRecOn with
  | _ next ih =>
    intro rest inv aft h
    rcases Nat.eq_zero_or_pos next with e | e
    · subst e
      obtain ⟨h1, h2⟩ := h.done
      exact ⟨inv, h2 (by rw [h1, hg])⟩
    · exact ih (rest % next) (Nat.mod_lt _ e) _ _ _ (h.step e)
theorem exists_inv {a m : Nat} (hm : 0 < m) (hg : Nat.gcd a m = 1) : ∃ x, IsInv a m x := InvAt.all hg _ _ _ _ (InvAt.start a m hm)

theorem gcd_mod (a m : Nat) : Nat.gcd (a % m) m = Nat.gcd a m := by rw [← Nat.gcd_rec, Nat.gcd_comm]

theorem IsInv.mul {a b m x y : Nat} (hx : IsInv a m x) (hy : IsInv b m y) : IsInv (a * b % m) m (x * y % m) := by
  have hm : 0 < m := by have := hx.1; omega
  refine ⟨Nat.mod_lt _ hm, ?_⟩
  rw [← Nat.mul_mod, Nat.mul_mul_mul_comm, Nat.mul_mod, hx.2, hy.2, ← Nat.mul_mod]
theorem IsInv.back {a m x : Nat} (hx : IsInv a m x) : IsInv x m (a % m) := by
  have hm : 0 < m := by have := hx.1; omega
  exact ⟨Nat.mod_lt _ hm, by rw [mul_mod_right', Nat.mul_comm, hx.2]⟩
theorem gcd_mul_left {a b m : Nat} (h : Nat.gcd a m ≠ 1) : Nat.gcd (a * b % m) m ≠ 1 := by
  rw [gcd_mod]
  intro e
  have d : Nat.gcd a m ∣ Nat.gcd (a * b) m := Nat.dvd_gcd (Nat.dvd_mul_right_of_dvd (Nat.gcd_dvd_left a m) b) (Nat.gcd_dvd_right a m)
  rw [e] at d
  exact h (Nat.dvd_one.1 d)
theorem gcd_mul_right {a b m : Nat} (h : Nat.gcd b m ≠ 1) : Nat.gcd (a * b % m) m ≠ 1 := by
  rw [Nat.mul_comm]; exact gcd_mul_left h
end MM
end Go.Proofs.Ytdblijpoelcghaa
