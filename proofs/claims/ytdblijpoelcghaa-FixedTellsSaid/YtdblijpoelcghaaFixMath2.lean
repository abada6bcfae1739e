/- The number of a whole number keeps sums and products; the way back. -/
import Derived.Test.YtdblijpoelcghaaFixMath
namespace Go.Proofs.Ytdblijpoelcghaa
namespace MM
theorem numU_of_emod {a b : Int} {q : Nat} (h : a % (q : Int) = b % (q : Int)) : numU a q = numU b q := by unfold numU; rw [h]
theorem numU_self {x q : Nat} (h : Good q) (hx : x < q) : numU (x : Int) q = x := by rw [numU_nat h, Nat.mod_eq_of_lt hx]
theorem numU_ltq {n : Int} {q : Nat} (h : Good q) : numU n q < q := by
  have h1 := numU_int (n := n) h
  have h2 := Int.emod_lt_of_pos n (show (0 : Int) < q by have := h.1; omega)
  omega
theorem numU_add {a b : Int} {q : Nat} (h : Good q) : addU (numU a q) (numU b q) q = numU (a + b) q := by
  rw [addU_of h]
  have e : (((numU a q + numU b q) % q : Nat) : Int) = ((numU (a + b) q : Nat) : Int) := by
    rw [Int.natCast_emod, Int.natCast_add, numU_int h, numU_int h, numU_int h]
    simp only [Int.emod_add_emod, Int.add_emod_emod]
  omega
theorem numU_mul {a b : Int} {q : Nat} (h : Good q) : mulU (numU a q) (numU b q) q = numU (a * b) q := by
  rw [mulU_of h]
  have e : ((numU a q * numU b q % q : Nat) : Int) = ((numU (a * b) q : Nat) : Int) := by
    rw [Int.natCast_emod, Int.natCast_mul, numU_int h, numU_int h, numU_int h, ← Int.mul_emod]
  omega
theorem numU_zero {q : Nat} (h : Good q) : numU 0 q = 0 := by
  have := numU_int (n := 0) h
  simp at this
  omega
theorem numU_neg {a : Int} {q : Nat} (h : Good q) : addU (numU a q) (numU (-a) q) q = 0 := by
  rw [numU_add h, show a + -a = 0 by omega, numU_zero h]
theorem numU_sub_q {a : Int} {q : Nat} : numU (a - q) q = numU a q := numU_of_emod (by rw [Int.sub_emod_right])
/-- Num of Int is the number. -/
theorem num_int {x q : Nat} (h : Good q) : numU (intU x q) q = x % q := by
  unfold intU
  rw [if_pos h]
  by_cases e : x % q ≤ (q - 1) / 2
  · rw [if_pos e, numU_self h (Nat.mod_lt _ h.1)]
  · rw [if_neg e, numU_sub_q, numU_self h (Nat.mod_lt _ h.1)]
/-- Int of Num is the whole number, near 0. -/
theorem int_num {n : Int} {q : Nat} (h : Good q) (h1 : -(((q - 1) / 2 : Nat) : Int) ≤ n) (h2 : n ≤ (((q - 1) / 2 : Nat) : Int)) : intU (numU n q) q = n := by
  have hlt := numU_ltq (n := n) h
  have hq := h.1
  unfold intU
  rw [if_pos h, Nat.mod_eq_of_lt hlt]
  obtain ⟨t, ht⟩ : ∃ t, (q - 1) / 2 = t := ⟨_, rfl⟩
  rw [ht] at h1 h2 ⊢
  have htq : 2 * t < q := by omega
  by_cases h0 : 0 ≤ n
  · have e : ((numU n q : Nat) : Int) = n := by rw [numU_int h]; exact Int.emod_eq_of_lt h0 (by omega)
    rw [if_pos (by omega), e]
  · have e : ((numU n q : Nat) : Int) = n + q := by
      rw [numU_int h, ← Int.add_emod_right]
      exact Int.emod_eq_of_lt (by omega) (by omega)
    rw [if_neg (by omega), e]
    omega
end MM
end Go.Proofs.Ytdblijpoelcghaa
