/- Plain facts on inverses modulo a number, and on what Euclid's way with inverses beside it keeps. Nothing here speaks of the program. -/
import Derived.Test.YtdblijpoelcghaaModMath2
namespace Go.Proofs.Ytdblijpoelcghaa
namespace MM

/-- Subtracting modulo m, as whole numbers. -/
theorem subm_int (a b m : Nat) (hm : 0 < m) : ∃ k : Int, (subm a b m : Int) = (a : Int) - b + m * k := by
  have h1 := Nat.mod_lt a hm
  have h2 := Nat.mod_lt b hm
  have ha := Nat.div_add_mod a m
  have hb := Nat.div_add_mod b m
  have hs := Nat.div_add_mod (a % m + m - b % m) m
  refine ⟨(b / m : Nat) - (a / m : Nat) + 1 - ((a % m + m - b % m) / m : Nat), ?_⟩
  unfold subm
  have ha' : (m : Int) * ((a / m : Nat) : Int) + ((a % m : Nat) : Int) = a := by rw [← Int.natCast_mul, ← Int.natCast_add, ha]
  have hb' : (m : Int) * ((b / m : Nat) : Int) + ((b % m : Nat) : Int) = b := by rw [← Int.natCast_mul, ← Int.natCast_add, hb]
  have hs' : (m : Int) * (((a % m + m - b % m) / m : Nat) : Int) + (((a % m + m - b % m) % m : Nat) : Int) = ((a % m : Nat) : Int) + m - ((b % m : Nat) : Int) := by
    rw [← Int.natCast_mul, ← Int.natCast_add, hs]; omega
  grind

theorem mod_int (a m : Nat) : ∃ k : Int, ((a % m : Nat) : Int) = (a : Int) + m * k := by
  have ha := Nat.div_add_mod a m
  refine ⟨-((a / m : Nat) : Int), ?_⟩
  have ha' : (m : Int) * ((a / m : Nat) : Int) + ((a % m : Nat) : Int) = a := by rw [← Int.natCast_mul, ← Int.natCast_add, ha]
  grind

/-- What the loop of the inverse keeps. -/
structure InvAt (a m rest next inv aft : Nat) : Prop where
  g : Nat.gcd rest next = Nat.gcd a m
  r0 : 0 < rest
  r1 : rest ≤ m
  n1 : next < rest
  i1 : inv < m
  a1 : aft ≤ m
  a2 : 0 < next → aft < m
  e1 : ∃ k : Int, (inv : Int) * a = rest + m * k
  e2 : ∃ k : Int, (aft : Int) * a = next + m * k

theorem InvAt.start (a m : Nat) (hm : 0 < m) : InvAt a m m (a % m) 0 1 := by
  have h := Nat.mod_lt a hm
  refine ⟨by rw [Nat.gcd_comm a m, Nat.gcd_rec m a, Nat.gcd_comm], hm, Nat.le_refl _, h, hm, hm, fun h' => by omega, ⟨-1, by grind⟩, ?_⟩
  obtain ⟨k, hk⟩ := mod_int a m
  exact ⟨-k, by rw [hk]; grind⟩

theorem InvAt.step {a m rest next inv aft : Nat} (h : InvAt a m rest next inv aft) (hn : 0 < next) :
    InvAt a m next (rest % next) aft (subm inv (rest / next * aft % m) m) := by
  have hm : 0 < m := by have := h.i1; omega
  have h1 := Nat.mod_lt rest hn
  have h2 := Nat.div_add_mod rest next
  refine ⟨?_, hn, by have := h.n1; have := h.r1; omega, h1, h.a2 hn, Nat.le_of_lt (Nat.mod_lt _ hm), fun _ => Nat.mod_lt _ hm, h.e2, ?_⟩
  · rw [← h.g, Nat.gcd_comm, ← Nat.gcd_rec, Nat.gcd_comm]
  · obtain ⟨k1, e1⟩ := h.e1
    obtain ⟨k2, e2⟩ := h.e2
    obtain ⟨k3, e3⟩ := subm_int inv (rest / next * aft % m) m hm
    obtain ⟨k4, e4⟩ := mod_int (rest / next * aft) m
    have e5 : ((rest / next * aft : Nat) : Int) = ((rest / next : Nat) : Int) * aft := Int.natCast_mul _ _
    have e6 : (next : Int) * ((rest / next : Nat) : Int) + ((rest % next : Nat) : Int) = rest := by rw [← Int.natCast_mul, ← Int.natCast_add, h2]
    generalize rest % next = r at *
    generalize hq : rest / next = q at *
    rw [e5] at e4
    rw [e4] at e3
    refine ⟨k1 - q * k2 - k4 * a + k3 * a, ?_⟩
    rw [e3]
    have : ((inv : Int) - ((q : Int) * aft + m * k4) + m * k3) * a = inv * a - q * (aft * a) - m * k4 * a + m * k3 * a := by grind
    rw [this, e1, e2]
    grind

/-- An inverse of a modulo m. -/
def IsInv (a m x : Nat) : Prop := x < m ∧ a * x % m = 1 % m
noncomputable def invm (a m : Nat) : Nat := @Classical.epsilon Nat ⟨0⟩ (IsInv a m)

theorem mod_of_int {x y m : Nat} (h : ∃ k : Int, (x : Int) = y + m * k) : x % m = y % m := by
  obtain ⟨k, hk⟩ := h
  have h2 : ((x % m : Nat) : Int) = ((y % m : Nat) : Int) := by
    rw [Int.natCast_emod, Int.natCast_emod, hk, Int.add_mul_emod_self_left]
  omega

theorem InvAt.done {a m rest inv aft : Nat} (h : InvAt a m rest 0 inv aft) : rest = Nat.gcd a m ∧ (rest = 1 → IsInv a m inv) := by
  refine ⟨by rw [← h.g, Nat.gcd_zero_right], fun e => ⟨h.i1, ?_⟩⟩
  subst e
  obtain ⟨k, hk⟩ := h.e1
  refine mod_of_int ⟨k, ?_⟩
  rw [Int.natCast_mul, Int.mul_comm, hk]

theorem int_of_mod {x y m : Nat} (h : x % m = y % m) : ∃ k : Int, (x : Int) = y + m * k := by
  obtain ⟨k1, e1⟩ := mod_int x m
  obtain ⟨k2, e2⟩ := mod_int y m
  rw [h] at e1
  exact ⟨k2 - k1, by grind⟩

theorem IsInv.gcd {a m x : Nat} (h : IsInv a m x) : Nat.gcd a m = 1 := by
  obtain ⟨k, hk⟩ := int_of_mod h.2
  have d1 : ((Nat.gcd a m : Nat) : Int) ∣ (a : Int) := Int.natCast_dvd_natCast.2 (Nat.gcd_dvd_left a m)
  have d2 : ((Nat.gcd a m : Nat) : Int) ∣ (m : Int) := Int.natCast_dvd_natCast.2 (Nat.gcd_dvd_right a m)
  have d : ((Nat.gcd a m : Nat) : Int) ∣ 1 := by
    have e : (1 : Int) = a * x - m * k := by rw [Int.natCast_mul] at hk; rw [hk]; simp
    rw [e]
    exact Int.dvd_sub (Int.dvd_mul_of_dvd_left d1) (Int.dvd_mul_of_dvd_left d2)
  have := Int.natCast_dvd_natCast.1 (show ((Nat.gcd a m : Nat) : Int) ∣ ((1 : Nat) : Int) from d)
  exact Nat.dvd_one.1 this

theorem IsInv.unique {a m x y : Nat} (hx : IsInv a m x) (hy : IsInv a m y) : x = y := by
  obtain ⟨k1, e1⟩ := int_of_mod hx.2
  obtain ⟨k2, e2⟩ := int_of_mod hy.2
  have : x % m = y % m := by
    refine mod_of_int ⟨k1 * y - k2 * x, ?_⟩
    rw [Int.natCast_mul] at e1 e2
    have h1 : (a : Int) * x * y = (1 + m * k1) * y := by rw [e1]; rfl
    have h2 : (a : Int) * y * x = (1 + m * k2) * x := by rw [e2]; rfl
    grind
  rwa [Nat.mod_eq_of_lt hx.1, Nat.mod_eq_of_lt hy.1] at this

theorem invm_is {a m : Nat} (h : ∃ x, IsInv a m x) : IsInv a m (invm a m) := Classical.epsilon_spec h
theorem invm_eq {a m x : Nat} (h : IsInv a m x) : invm a m = x := (invm_is ⟨x, h⟩).unique h

end MM
end Go.Proofs.Ytdblijpoelcghaa
