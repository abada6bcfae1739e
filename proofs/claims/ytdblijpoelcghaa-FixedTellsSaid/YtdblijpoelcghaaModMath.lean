/- Plain facts on numbers that the walks over package mod lean on: a long division digit by digit, sums and products modulo a number, powers, the common divisor. Nothing here speaks of the program. -/
namespace Go.Proofs.Ytdblijpoelcghaa
namespace MM

/-- What the correcting loop of one digit keeps: D = v1 * 2^32 + v0, the number is U * 2^32 + z; q is never below the digit. -/
structure Dig (U D v1 v0 z q r : Nat) : Prop where
  eD : D = v1 * 4294967296 + v0
  h1 : 2147483648 ≤ v1
  h1' : v1 < 4294967296
  h0 : v0 < 4294967296
  hU : U < D
  hz : z < 4294967296
  sum : q * v1 + r = U
  low : (U * 4294967296 + z) / D ≤ q
  rr : r < 4294967296
  qq : q < 17179869184

theorem mulD (q v1 v0 D : Nat) (e : D = v1 * 4294967296 + v0) : q * D = q * v1 * 4294967296 + q * v0 := by
  rw [e, Nat.mul_add, ← Nat.mul_assoc]

theorem dig_start (U D v1 v0 z : Nat) (eD : D = v1 * 4294967296 + v0) (h1 : 2147483648 ≤ v1) (h1' : v1 < 4294967296) (h0 : v0 < 4294967296) (hU : U < D) (hz : z < 4294967296) :
    Dig U D v1 v0 z (U / v1) (U % v1) := by
  have hs : U / v1 * v1 + U % v1 = U := Nat.div_add_mod' U v1
  have hr := Nat.mod_lt U (show 0 < v1 by omega)
  have hq : U / v1 < 17179869184 := by
    rw [Nat.div_lt_iff_lt_mul (by omega)]
    have : 17179869184 * 2147483648 ≤ 17179869184 * v1 := Nat.mul_le_mul_left _ h1
    omega
  refine ⟨eD, h1, h1', h0, hU, hz, hs, ?_, by omega, hq⟩
  generalize U / v1 = q at *
  generalize U % v1 = r at *
  have : (U * 4294967296 + z) / D < q + 1 := by
    rw [Nat.div_lt_iff_lt_mul (by omega), Nat.succ_mul, mulD q v1 v0 D eD]
    generalize q * v1 = a at *
    generalize q * v0 = b at *
    omega
  omega

theorem Dig.more {U D v1 v0 z q r : Nat} (h : Dig U D v1 v0 z q r) (hc : 4294967296 ≤ q ∨ 4294967296 * r + z < q * v0) :
    1 ≤ q ∧ (q - 1) * v1 + (r + v1) = U ∧ (U * 4294967296 + z) / D ≤ q - 1 := by
  have hq : 1 ≤ q := by
    rcases hc with hc | hc
    · omega
    · rcases Nat.eq_zero_or_pos q with e | e
      · subst e; simp at hc
      · exact e
  have hs := h.sum
  have hlt : (U * 4294967296 + z) / D < q := by
    have hD := h.h1
    have e0 := h.eD
    rw [Nat.div_lt_iff_lt_mul (by omega), mulD q v1 v0 D h.eD]
    rcases hc with hc | hc
    · have := h.hU
      have := h.hz
      have h2 : 4294967296 * D ≤ q * D := Nat.mul_le_mul_right _ hc
      rw [mulD q v1 v0 D h.eD] at h2
      omega
    · generalize q * v1 = a at *
      generalize q * v0 = b at *
      omega
  refine ⟨hq, ?_, by omega⟩
  obtain ⟨p, rfl⟩ : ∃ p, q = p + 1 := ⟨q - 1, by omega⟩
  rw [Nat.succ_mul] at hs
  show (p + 1 - 1) * v1 + (r + v1) = U
  rw [Nat.add_sub_cancel]
  omega

theorem Dig.next {U D v1 v0 z q r : Nat} (h : Dig U D v1 v0 z q r) (hc : 4294967296 ≤ q ∨ 4294967296 * r + z < q * v0) (hr : r + v1 < 4294967296) :
    Dig U D v1 v0 z (q - 1) (r + v1) := by
  obtain ⟨a, b, c⟩ := h.more hc
  exact ⟨h.eD, h.h1, h.h1', h.h0, h.hU, h.hz, b, c, hr, by have := h.qq; omega⟩

theorem Dig.out1 {U D v1 v0 z q r : Nat} (h : Dig U D v1 v0 z q r) (hc : 4294967296 ≤ q ∨ 4294967296 * r + z < q * v0) (hr : 4294967296 ≤ r + v1) :
    q - 1 = (U * 4294967296 + z) / D := by
  obtain ⟨a, b, c⟩ := h.more hc
  have hq : q - 1 < 4294967296 := by
    have hlt : (q - 1) * v1 < 4294967296 * v1 := by
      have := h.hU
      have := h.eD
      have := h.h0
      omega
    exact Nat.lt_of_mul_lt_mul_right hlt
  refine Nat.le_antisymm ?_ c
  have e0 := h.eD
  have := h.h1
  rw [Nat.le_div_iff_mul_le (by omega), mulD (q - 1) v1 v0 D h.eD]
  have h3 : (q - 1) * v0 ≤ 4294967296 * v0 := Nat.mul_le_mul_right _ (by omega)
  have := h.h0
  generalize (q - 1) * v1 = x at *
  generalize (q - 1) * v0 = y at *
  omega

theorem Dig.out2 {U D v1 v0 z q r : Nat} (h : Dig U D v1 v0 z q r) (hc : q * v0 ≤ 4294967296 * r + z) :
    q = (U * 4294967296 + z) / D := by
  refine Nat.le_antisymm ?_ h.low
  have e0 := h.eD
  have := h.h1
  have hs := h.sum
  rw [Nat.le_div_iff_mul_le (by omega), mulD q v1 v0 D h.eD]
  generalize q * v1 = x at *
  generalize q * v0 = y at *
  omega

theorem Dig.prod {U D v1 v0 z q r : Nat} (h : Dig U D v1 v0 z q r) (hq : q < 4294967296) : q * v0 < 18446744073709551616 := by
  have h1 : q * v0 ≤ 4294967295 * v0 := Nat.mul_le_mul_right _ (by omega)
  have := h.h0
  omega

/-- What is left after one digit, reckoned with numbers that go round at 2^64. -/
theorem left_round (U D z q : Nat) (hU : U < D) (hD : D < 18446744073709551616) (hq : q = (U * 4294967296 + z) / D) :
    ((U * 4294967296 : Int) + z - (q : Int) * D) % 18446744073709551616 = (((U * 4294967296 + z) % D : Nat) : Int) := by
  have h1 := Nat.div_add_mod' (U * 4294967296 + z) D
  rw [← hq] at h1
  have h2 := Nat.mod_lt (U * 4294967296 + z) (show 0 < D by omega)
  generalize (U * 4294967296 + z) % D = m at *
  have h3 : (q : Int) * D = ((q * D : Nat) : Int) := (Int.natCast_mul q D).symm
  rw [h3]
  generalize q * D = p at *
  omega

end MM
end Go.Proofs.Ytdblijpoelcghaa
