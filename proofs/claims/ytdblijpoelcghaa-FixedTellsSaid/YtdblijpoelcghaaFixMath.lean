/- What the chapter's functions answer, over numbers: the number of a whole number, the whole number of a number, whether parameters fit, models and queries, secrets, rows, products, scores. -/
import Derived.Test.YtdblijpoelcghaaGrpMath
import Derived.Test.YtdblijpoelcghaaPm
namespace Go.Proofs.Ytdblijpoelcghaa
namespace MM
/-- The number of a whole number. -/
def numU (n : Int) (q : Nat) : Nat := if Good q then (n % (q : Int)).toNat else 0
/-- The whole number of a number. -/
def intU (x q : Nat) : Int := if Good q then (if x % q ≤ (q - 1) / 2 then ((x % q : Nat) : Int) else ((x % q : Nat) : Int) - q) else 0
theorem numU_lt (n : Int) (q : Nat) : numU n q < 18446744073709551616 := by
  unfold numU
  by_cases h : Good q
  · rw [if_pos h]
    have h1 := Int.emod_lt_of_pos n (show (0 : Int) < q by have := h.1; omega)
    have := h.2
    omega
  · rw [if_neg h]; omega
theorem numU_bad {n : Int} {q : Nat} (h : ¬ Good q) : numU n q = 0 := if_neg h
theorem numU_int {n : Int} {q : Nat} (h : Good q) : ((numU n q : Nat) : Int) = n % (q : Int) := by
  unfold numU
  rw [if_pos h]
  exact Int.toNat_of_nonneg (Int.emod_nonneg _ (by have := h.1; omega))
theorem numU_nat {x q : Nat} (h : Good q) : numU (x : Int) q = x % q := by
  have := numU_int (n := x) h
  omega
/-- Are they usable here? -/
def Fit (p : Pm) : Prop := 0 ≤ p.K ∧ p.K ≤ 2 ∧ 0 ≤ p.D ∧ p.D ≤ 4 ∧ 0 ≤ p.M ∧ p.M ≤ 1048576 ∧ 0 ≤ p.X ∧ p.X ≤ 1048576
instance (p : Pm) : Decidable (Fit p) := by unfold Fit; infer_instance
/-- Is each of the first n numbers from -most to most? -/
def Wi (most : Int) (n : Nat) (z : Nat → Int) : Prop := ∀ k, k < n → -most ≤ z k ∧ z k ≤ most
instance (most : Int) (n : Nat) (z : Nat → Int) : Decidable (Wi most n z) := by unfold Wi; infer_instance
theorem Wi.congr {most : Int} {n : Nat} {y z : Nat → Int} (e : ∀ k, k < n → y k = z k) : Wi most n y ↔ Wi most n z :=
  ⟨fun h k hk => by rw [← e k hk]; exact h k hk, fun h k hk => by rw [e k hk]; exact h k hk⟩
/-- A model as it reads: m rows, the i-th of L i numbers, F i; n biases, b. -/
structure Mo where
  m : Nat
  L : Nat → Nat
  F : Nat → Nat → Int
  n : Nat
  b : Nat → Int
/-- The model is valid. -/
def Valid (p : Pm) (o : Mo) : Prop := Fit p ∧ (o.m : Int) = p.K ∧ (o.n : Int) = p.K ∧ (∀ i, i < o.m → (o.L i : Int) = p.D) ∧ (∀ i, i < o.m → Wi p.M (o.L i) (o.F i)) ∧ Wi p.M o.n o.b
instance (p : Pm) (o : Mo) : Decidable (Valid p o) := by unfold Valid; infer_instance
/-- What Query answers. -/
def qryE (p : Pm) (n : Nat) (x : Nat → Int) : Int := if Fit p ∧ (n : Int) = p.D then (if Wi p.X n x then 0 else 20) else 4
/-- How many secrets there are, and which. -/
def secN (p : Pm) (o : Mo) : Nat := if Valid p o then p.K.toNat * (p.D.toNat + 1) else 0
def secZ (p : Pm) (o : Mo) (j : Nat) : Nat := numU (if j % (p.D.toNat + 1) < p.D.toNat then o.F (j / (p.D.toNat + 1)) (j % (p.D.toNat + 1)) else o.b (j / (p.D.toNat + 1))) p.Q
/-- How long a row is, and which. -/
def rowN (p : Pm) : Nat := if Fit p then p.D.toNat + 1 else 0
def rowZ (p : Pm) (n : Nat) (x : Nat → Int) (i : Nat) : Nat := if i < p.D.toNat then (if i < n then numU (x i) p.Q else 0) else numU 1 p.Q
/-- How many products there are; one of them, over the first i places. -/
def dotN (p : Pm) : Nat := if Fit p then p.K.toNat else 0
def dotP (q d ln : Nat) (l r : Nat → Nat) (k : Nat) : Nat → Nat
  | 0 => 0
  | i + 1 => if k * (d + 1) + i < ln then addU (dotP q d ln l r k i) (mulU (l (k * (d + 1) + i)) (r i) q) q else dotP q d ln l r k i
theorem dotP_lt (q d ln : Nat) (l r : Nat → Nat) (k : Nat) : ∀ i, dotP q d ln l r k i < 18446744073709551616
  | 0 => by unfold dotP; omega
  | i + 1 => by
    unfold dotP
    by_cases h : k * (d + 1) + i < ln
    · rw [if_pos h]; exact addU_lt _ _ _
    · rw [if_neg h]; exact dotP_lt q d ln l r k i
theorem dotP_congr {q d ln : Nat} {l l' r r' : Nat → Nat} {k : Nat} : ∀ i, (∀ j, j < ln → l j = l' j) → (∀ j, j < i → r j = r' j) → dotP q d ln l r k i = dotP q d ln l' r' k i
  | 0, _, _ => rfl
  | i + 1, h, h' => by
    unfold dotP
    rw [dotP_congr i h fun j hj => h' j (by omega), h' i (by omega)]
    by_cases e : k * (d + 1) + i < ln
    · rw [if_pos e, if_pos e, h _ e]
    · rw [if_neg e, if_neg e]
def dotZ (p : Pm) (ln : Nat) (l : Nat → Nat) (n : Nat) (x : Nat → Int) (k : Nat) : Nat := dotP p.Q p.D.toNat ln l (rowZ p n x) k (p.D.toNat + 1)
/-- How many scores there are; one of them, over the first i columns. -/
def scoN (p : Pm) (o : Mo) (n : Nat) (x : Nat → Int) : Nat := if Valid p o ∧ qryE p n x = 0 then p.K.toNat else 0
def scoP (o : Mo) (x : Nat → Int) (k : Nat) : Nat → Int
  | 0 => o.b k
  | i + 1 => scoP o x k i + o.F k i * x i
def scoZ (p : Pm) (o : Mo) (x : Nat → Int) (k : Nat) : Int := scoP o x k p.D.toNat
/-- Are two rows the same? -/
def eqR (n m : Nat) (y z : Nat → Int) : Prop := n = m ∧ ∀ k, k < n → y k = z k
instance (n m : Nat) (y z : Nat → Int) : Decidable (eqR n m y z) := by unfold eqR; infer_instance
def eqM (a b : Mo) : Prop := (a.m = b.m ∧ ∀ i, i < a.m → eqR (a.L i) (b.L i) (a.F i) (b.F i)) ∧ eqR a.n b.n a.b b.b
instance (a b : Mo) : Decidable (eqM a b) := by unfold eqM; infer_instance
theorem mul_le_20 {a b : Int} (ha : -1048576 ≤ a ∧ a ≤ 1048576) (hb : -1048576 ≤ b ∧ b ≤ 1048576) : -1099511627776 ≤ a * b ∧ a * b ≤ 1099511627776 := by
  have h1 : (a * b).natAbs ≤ 1048576 * 1048576 := by
    rw [Int.natAbs_mul]
    exact Nat.mul_le_mul (by omega) (by omega)
  omega
theorem scoP_le {o : Mo} {x : Nat → Int} {k : Nat} (hb : -1048576 ≤ o.b k ∧ o.b k ≤ 1048576) : ∀ i, (∀ j, j < i → (-1048576 ≤ o.F k j ∧ o.F k j ≤ 1048576) ∧ (-1048576 ≤ x j ∧ x j ≤ 1048576)) → -1048576 - (i : Int) * 1099511627776 ≤ scoP o x k i ∧ scoP o x k i ≤ 1048576 + (i : Int) * 1099511627776
  | 0, _ => by unfold scoP; omega
  | i + 1, h => by
    have h1 := scoP_le hb i fun j hj => h j (by omega)
    have h2 := mul_le_20 (h i (by omega)).1 (h i (by omega)).2
    unfold scoP
    omega
end MM
end Go.Proofs.Ytdblijpoelcghaa
