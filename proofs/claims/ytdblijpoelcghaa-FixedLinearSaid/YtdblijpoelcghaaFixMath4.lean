/- Products of a sum of rows, of a multiple; mixtures of queries. -/
import Derived.Test.YtdblijpoelcghaaFixMath2
namespace Go.Proofs.Ytdblijpoelcghaa
namespace MM
/-- Alike modulo q. -/
def Al (q : Nat) (x y : Int) : Prop := ∃ t : Int, x = y + q * t
theorem Al.refl (q : Nat) (x : Int) : Al q x x := ⟨0, by omega⟩
theorem Al.symm {q : Nat} {x y : Int} (h : Al q x y) : Al q y x := let ⟨t, e⟩ := h; ⟨-t, by rw [e]; grind⟩
theorem Al.trans {q : Nat} {x y z : Int} (h : Al q x y) (h' : Al q y z) : Al q x z := let ⟨t, e⟩ := h; let ⟨s, e'⟩ := h'; ⟨t + s, by rw [e, e']; grind⟩
theorem Al.add {q : Nat} {x y x' y' : Int} (h : Al q x y) (h' : Al q x' y') : Al q (x + x') (y + y') := let ⟨t, e⟩ := h; let ⟨s, e'⟩ := h'; ⟨t + s, by rw [e, e']; grind⟩
theorem Al.mul {q : Nat} {x y x' y' : Int} (h : Al q x y) (h' : Al q x' y') : Al q (x * x') (y * y') := let ⟨t, e⟩ := h; let ⟨s, e'⟩ := h'; ⟨t * y' + y * s + q * t * s, by rw [e, e']; grind⟩
theorem Al.mod (q x : Nat) : Al q ((x % q : Nat) : Int) (x : Int) := ⟨-((x / q : Nat) : Int), by
  have h := Nat.mod_add_div x q
  have : ((x % q : Nat) : Int) + (q : Int) * ((x / q : Nat) : Int) = (x : Int) := by exact_mod_cast h
  grind⟩
theorem Al.addU {q a b : Nat} (h : Good q) : Al q ((addU a b q : Nat) : Int) ((a : Int) + (b : Int)) := by rw [addU_of h]; exact Al.mod q (a + b)
theorem Al.mulU {q a b : Nat} (h : Good q) : Al q ((mulU a b q : Nat) : Int) ((a : Int) * (b : Int)) := by rw [mulU_of h]; exact Al.mod q (a * b)
theorem Al.eq {q x y : Nat} (h : Al q (x : Int) (y : Int)) (hx : x < q) (hy : y < q) : x = y := by
  obtain ⟨t, e⟩ := h
  have h1 : (q : Int) * t < q := by omega
  have h2 : -(q : Int) < (q : Int) * t := by omega
  have h3 : t < 1 := by
    refine Int.lt_of_mul_lt_mul_left (a := (q : Int)) ?_ (by omega)
    rw [Int.mul_one]; exact h1
  have h4 : -1 < t := by
    refine Int.lt_of_mul_lt_mul_left (a := (q : Int)) ?_ (by omega)
    rw [Int.mul_neg, Int.mul_one]; exact h2
  obtain rfl : t = 0 := by omega
  omega
theorem addU_ltq {a b q : Nat} (h : Good q) : addU a b q < q := by rw [addU_of h]; exact Nat.mod_lt _ h.1
theorem mulU_ltq {a b q : Nat} (h : Good q) : mulU a b q < q := by rw [mulU_of h]; exact Nat.mod_lt _ h.1
/-- A row where what is missing is 0. -/
def padU (ln : Nat) (l : Nat → Nat) (i : Nat) : Nat := if i < ln then l i else 0
theorem dotP_step {q d ln : Nat} {l r : Nat → Nat} {k : Nat} (h : Good q) (i : Nat) : Al q ((dotP q d ln l r k (i + 1) : Nat) : Int) (((dotP q d ln l r k i : Nat) : Int) + ((padU ln l (k * (d + 1) + i) : Nat) : Int) * ((r i : Nat) : Int)) := by
  rw [dotP]
  unfold padU
  by_cases e : k * (d + 1) + i < ln
  · rw [if_pos e, if_pos e]
    exact (Al.addU h).trans ((Al.refl _ _).add (Al.mulU h))
  · rw [if_neg e, if_neg e]
    simp only [Int.natCast_zero, Int.zero_mul, Int.add_zero]
    exact Al.refl _ _
theorem dotP_ltq {q d ln : Nat} {l r : Nat → Nat} {k : Nat} (h : Good q) : ∀ i, dotP q d ln l r k i < q
  | 0 => by rw [dotP]; exact h.1
  | i + 1 => by
    rw [dotP]
    split
    · exact addU_ltq h
    · exact dotP_ltq h i
theorem dotP_bad {q d ln : Nat} {l r : Nat → Nat} {k : Nat} (h : ¬ Good q) : ∀ i, dotP q d ln l r k i = 0
  | 0 => rfl
  | i + 1 => by
    rw [dotP]
    split
    · unfold addU; rw [if_neg h]
    · exact dotP_bad h i
/-- The sum of two rows, a multiple of one. -/
def sumZ (q ln lo : Nat) (l o : Nat → Nat) (i : Nat) : Nat := addU (padU ln l i) (padU lo o i) q
def manZ (q ln : Nat) (l : Nat → Nat) (f i : Nat) : Nat := mulU (padU ln l i) f q
theorem pad_sum {q ln lo m : Nat} {l o : Nat → Nat} (h : Good q) (hm : ln ≤ m ∧ lo ≤ m) (i : Nat) : Al q ((padU m (sumZ q ln lo l o) i : Nat) : Int) (((padU ln l i : Nat) : Int) + ((padU lo o i : Nat) : Int)) := by
  by_cases e : i < m
  · rw [padU, if_pos e]; exact Al.addU h
  · rw [padU, if_neg e, padU, if_neg (by omega), padU, if_neg (by omega)]; exact ⟨0, by omega⟩
theorem pad_man {q ln m f : Nat} {l : Nat → Nat} (h : Good q) (hm : ln ≤ m) (i : Nat) : Al q ((padU m (manZ q ln l f) i : Nat) : Int) (((padU ln l i : Nat) : Int) * (f : Int)) := by
  by_cases e : i < m
  · rw [padU, if_pos e]; exact Al.mulU h
  · rw [padU, if_neg e, padU, if_neg (by omega)]; exact ⟨0, by simp⟩
theorem dot_sum {q d ln lo m : Nat} {l o r : Nat → Nat} {k : Nat} (h : Good q) (hm : ln ≤ m ∧ lo ≤ m) : ∀ i, Al q ((dotP q d m (sumZ q ln lo l o) r k i : Nat) : Int) (((dotP q d ln l r k i : Nat) : Int) + ((dotP q d lo o r k i : Nat) : Int))
  | 0 => ⟨0, by simp [dotP]⟩
  | i + 1 => by
    have h1 := (dotP_step (q := q) (d := d) (ln := m) (l := sumZ q ln lo l o) (r := r) (k := k) h i).trans ((dot_sum h hm i).add ((pad_sum h hm (k * (d + 1) + i)).mul (Al.refl q ((r i : Nat) : Int))))
    have h2 := (dotP_step (q := q) (d := d) (ln := ln) (l := l) (r := r) (k := k) h i).add (dotP_step (q := q) (d := d) (ln := lo) (l := o) (r := r) (k := k) h i)
    refine h1.trans (Al.trans ?_ h2.symm)
    exact ⟨0, by grind⟩
theorem dot_man {q d ln m f : Nat} {l r : Nat → Nat} {k : Nat} (h : Good q) (hm : ln ≤ m) : ∀ i, Al q ((dotP q d m (manZ q ln l f) r k i : Nat) : Int) (((dotP q d ln l r k i : Nat) : Int) * (f : Int))
  | 0 => ⟨0, by simp [dotP]⟩
  | i + 1 => by
    have h1 := (dotP_step (q := q) (d := d) (ln := m) (l := manZ q ln l f) (r := r) (k := k) h i).trans ((dot_man h hm i).add ((pad_man h hm (k * (d + 1) + i)).mul (Al.refl q ((r i : Nat) : Int))))
    have h2 := (dotP_step (q := q) (d := d) (ln := ln) (l := l) (r := r) (k := k) h i).mul (Al.refl q (f : Int))
    refine h1.trans (Al.trans ?_ h2.symm)
    exact ⟨0, by grind⟩
theorem lin_sum (p : Pm) {ln lo m n : Nat} {l o : Nat → Nat} {x : Nat → Int} {k : Nat} (hm : ln ≤ m ∧ lo ≤ m) : addU (dotZ p ln l n x k) (dotZ p lo o n x k) p.Q = dotZ p m (sumZ p.Q ln lo l o) n x k := by
  unfold dotZ
  by_cases h : Good p.Q
  · exact ((Al.addU h).trans (dot_sum h hm _).symm).eq (addU_ltq h) (dotP_ltq h _)
  · rw [dotP_bad h]; unfold addU; rw [if_neg h]; exact (dotP_bad h _).symm
theorem lin_man (p : Pm) {ln m n f : Nat} {l : Nat → Nat} {x : Nat → Int} {k : Nat} (hm : ln ≤ m) : mulU (dotZ p ln l n x k) f p.Q = dotZ p m (manZ p.Q ln l f) n x k := by
  unfold dotZ
  by_cases h : Good p.Q
  · exact ((Al.mulU h).trans (dot_man h hm _).symm).eq (mulU_ltq h) (dotP_ltq h _)
  · rw [dotP_bad h]; unfold mulU; rw [if_neg h]; exact (dotP_bad h _).symm
end MM
end Go.Proofs.Ytdblijpoelcghaa
