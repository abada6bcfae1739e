/- The texts BivMath, one behind the other. -/
import Derived.Test.YtlnlepadninnaaaKN13
/- Plain facts on polynomials of two: the widest list, rows, columns and values, and what becomes of them when both are turned about. Nothing here speaks of the program. -/
namespace Go.Proofs.Ytlnlepadninnaaa
namespace MM
/-- The greatest of the first m lengths. -/
def widU (L : Nat → Nat) : Nat → Nat
  | 0 => 0
  | n + 1 => max (widU L n) (L n)
theorem le_widU {L : Nat → Nat} : ∀ {m i : Nat}, i < m → L i ≤ widU L m
  | 0, _, h => absurd h (by omega)
  | m + 1, i, h => by
    unfold widU
    by_cases e : i = m
    · subst e; omega
    · have := le_widU (L := L) (m := m) (i := i) (by omega); omega
theorem widU_le {L : Nat → Nat} {n : Nat} : ∀ m, (∀ i, i < m → L i ≤ n) → widU L m ≤ n
  | 0, _ => Nat.zero_le _
  | m + 1, h => by
    unfold widU
    have h1 := widU_le m fun i hi => h i (by omega)
    have h2 := h m (by omega)
    omega
theorem widU_same (k : Nat) : ∀ m, 0 < m → widU (fun _ => k) m = k
  | 0, h => absurd h (by omega)
  | 1, _ => by show max 0 k = k; omega
  | m + 2, _ => by
    show max (widU (fun _ => k) (m + 1)) k = k
    rw [widU_same k (m + 1) (by omega)]; omega
/-- The coefficient at j of the row at x, of the first lists. -/
def rowP (q x : Nat) (L : Nat → Nat) (F : Nat → Nat → Nat) (j : Nat) : Nat → Nat
  | 0 => 0
  | n + 1 => if j < L n then addU (rowP q x L F j n) (mulU (F n j) (powU x n q) q) q else rowP q x L F j n
/-- The same, while of the list n only the first k coefficients were put. -/
def rowK (q x : Nat) (L : Nat → Nat) (F : Nat → Nat → Nat) (n k j : Nat) : Nat := if j < k then addU (rowP q x L F j n) (mulU (F n j) (powU x n q) q) q else rowP q x L F j n
theorem rowK_zero (q x : Nat) (L : Nat → Nat) (F : Nat → Nat → Nat) (n j : Nat) : rowK q x L F n 0 j = rowP q x L F j n := by unfold rowK; rw [if_neg (by omega)]
theorem rowK_end (q x : Nat) (L : Nat → Nat) (F : Nat → Nat → Nat) (n j : Nat) : rowK q x L F n (L n) j = rowP q x L F j (n + 1) := rfl
theorem rowK_step (q x : Nat) (L : Nat → Nat) (F : Nat → Nat → Nat) (n k j : Nat) : rowK q x L F n (k + 1) j = if j = k then addU (rowK q x L F n k k) (mulU (F n k) (powU x n q) q) q else rowK q x L F n k j := by
  unfold rowK
  by_cases h : j = k
  · subst h; rw [if_pos rfl, if_pos (by omega), if_neg (by omega)]
  · rw [if_neg h]
    by_cases h2 : j < k
    · rw [if_pos (by omega), if_pos h2]
    · rw [if_neg (by omega), if_neg h2]
theorem rowP_lt (q x : Nat) (L : Nat → Nat) (F : Nat → Nat → Nat) (j : Nat) : ∀ n, rowP q x L F j n < 18446744073709551616
  | 0 => by show (0 : Nat) < _; omega
  | n + 1 => by
    unfold rowP
    by_cases h : j < L n
    · rw [if_pos h]; exact addU_lt _ _ _
    · rw [if_neg h]; exact rowP_lt q x L F j n
theorem rowK_lt (q x : Nat) (L : Nat → Nat) (F : Nat → Nat → Nat) (n k j : Nat) : rowK q x L F n k j < 18446744073709551616 := by
  unfold rowK
  by_cases h : j < k
  · rw [if_pos h]; exact addU_lt _ _ _
  · rw [if_neg h]; exact rowP_lt q x L F j n
theorem rowP_bad {q x : Nat} (hq : ¬ Good q) (L : Nat → Nat) (F : Nat → Nat → Nat) (j : Nat) : ∀ n, rowP q x L F j n = 0
  | 0 => rfl
  | n + 1 => by
    unfold rowP
    by_cases h : j < L n
    · rw [if_pos h]; unfold addU; rw [if_neg hq]
    · rw [if_neg h]; exact rowP_bad hq L F j n
theorem rowP_mod {q x : Nat} (hq : Good q) (L : Nat → Nat) (F : Nat → Nat → Nat) (j : Nat) : ∀ n, rowP q x L F j n % q = rowP q x L F j n
  | 0 => Nat.zero_mod _
  | n + 1 => by
    unfold rowP
    by_cases h : j < L n
    · rw [if_pos h, addU_of hq, Nat.mod_mod]
    · rw [if_neg h]; exact rowP_mod hq L F j n
/-- The power as the program carries it along. -/
def pwr (x q : Nat) : Nat → Nat
  | 0 => 1
  | n + 1 => mulU (pwr x q n) x q
theorem pwr_lt (x q : Nat) : ∀ n, pwr x q n < 18446744073709551616
  | 0 => by show (1 : Nat) < _; omega
  | _ + 1 => mulU_lt _ _ _
theorem pwr_mod {q : Nat} (hq : Good q) (x : Nat) : ∀ n, pwr x q n % q = powU x n q % q
  | 0 => by rw [powU_of hq]; show 1 % q = 1 % q % q; rw [Nat.mod_mod]
  | n + 1 => by
    show mulU (pwr x q n) x q % q = _
    rw [mulU_of hq, powU_of hq, Nat.mod_mod, Nat.mod_mod, Nat.mul_mod, pwr_mod hq x n, powU_of hq, Nat.mod_mod, ← Nat.mul_mod, ← Nat.pow_succ]
theorem pwr_mul (c x q n : Nat) : mulU c (pwr x q n) q = mulU c (powU x n q) q := by
  by_cases hq : Good q
  · rw [mulU_of hq, mulU_of hq, Nat.mul_mod, pwr_mod hq, ← Nat.mul_mod]
  · unfold mulU; rw [if_neg hq, if_neg hq]
theorem mul_same {q : Nat} (hq : Good q) {a b c d : Nat} (h : a % q = b % q) (k : c % q = d % q) : mulU a c q = mulU b d q := by rw [mulU_of hq, mulU_of hq, Nat.mul_mod, h, k, ← Nat.mul_mod]
/-- The coefficient at i and j, 0 beyond the end of a list. -/
def gZ (L : Nat → Nat) (F : Nat → Nat → Nat) (i j : Nat) : Int := if j < L i then (F i j : Int) else 0
theorem row_evZ {q : Nat} (hq : Good q) (x : Nat) (L : Nat → Nat) (F : Nat → Nat → Nat) (j : Nat) : ∀ n, Cg q (rowP q x L F j n) (evZ (fun i => gZ L F i j) x n)
  | 0 => Cg.refl _ _
  | n + 1 => by
    unfold rowP evZ gZ
    by_cases h : j < L n
    · rw [if_pos h, if_pos h]
      exact (cg_add hq _ _).trans ((row_evZ hq x L F j n).add ((cg_mul hq _ _).trans ((Cg.refl _ _).mul (cg_pow hq _ _))))
    · rw [if_neg h, if_neg h]
      exact (row_evZ hq x L F j n).trans (.of_eq (by unfold gZ; simp))
theorem col_evZ {q : Nat} (hq : Good q) (y : Nat) {L : Nat → Nat} (F : Nat → Nat → Nat) {i w : Nat} (h : L i ≤ w) : Cg q (evalU (F i) y q (L i)) (evZ (gZ L F i) y w) := by
  refine (eval_evZ hq (F i) y (L i)).trans ?_
  refine Cg.trans (.of_eq (evZ_congr (L i) fun k hk => ?_)) (evZ_zeros w h fun k h1 _ => ?_).symm
  · unfold gZ; rw [if_pos hk]
  · unfold gZ; rw [if_neg (by omega)]; exact Cg.refl _ _
/-- Sums may be told in either row. -/
theorem evZ_turn (G : Nat → Nat → Int) (x y : Int) (w : Nat) : ∀ m, evZ (fun j => evZ (fun i => G i j) x m) y w = evZ (fun i => evZ (G i) y w) x m
  | 0 => by
    show evZ (fun _ => (0 : Int)) y w = 0
    induction w with
    | zero => rfl
    | succ w ih => unfold evZ; rw [ih]; simp
  | m + 1 => by
    show evZ (fun j => evZ (fun i => G i j) x m + G m j * x ^ m) y w = evZ (fun i => evZ (G i) y w) x m + evZ (G m) y w * x ^ m
    rw [← evZ_turn G x y w m, Int.mul_comm _ (x ^ m), ← evZ_lin]
    exact evZ_congr w fun j _ => by rw [Int.mul_comm]
/-- The value at x and y, as that of the column at y; a column's numbers. -/
def colP (q y : Nat) (L : Nat → Nat) (F : Nat → Nat → Nat) (i : Nat) : Nat := evalU (F i) y q (L i)
theorem colP_lt (q y : Nat) (L : Nat → Nat) (F : Nat → Nat → Nat) (i : Nat) : colP q y L F i < 18446744073709551616 := evalU_lt _ _ _ _
def atP (q x y m : Nat) (L : Nat → Nat) (F : Nat → Nat → Nat) : Nat := evalU (colP q y L F) x q m
theorem atP_evZ {q : Nat} (hq : Good q) (x y m : Nat) (L : Nat → Nat) (F : Nat → Nat → Nat) {w : Nat} (hw : widU L m ≤ w) : Cg q (atP q x y m L F) (evZ (fun i => evZ (gZ L F i) y w) x m) :=
  (eval_evZ hq _ x m).trans (evZ_cg m fun _ hi => col_evZ hq y F (Nat.le_trans (le_widU hi) hw))
theorem cg_eq {q a b : Nat} (ha : a % q = a) (hb : b % q = b) (h : Cg q a b) : a = b := by rw [← ha, ← hb]; exact h.nat
/-- The value of the row at x. -/
theorem row_at (q x y m : Nat) (L : Nat → Nat) (F : Nat → Nat → Nat) : evalU (fun j => rowP q x L F j m) y q (widU L m) = atP q x y m L F := by
  by_cases hq : Good q
  · refine cg_eq (evalU_mod hq _) (evalU_mod hq _) (((eval_evZ hq _ y _).trans (evZ_cg _ fun j _ => row_evZ hq x L F j m)).trans ?_)
    rw [evZ_turn]
    exact (atP_evZ hq x y m L F (Nat.le_refl _)).symm
  · unfold atP; rw [evalU_bad hq, evalU_bad hq]
/-- Both turned about: the coefficient at j and i. -/
def trn (L : Nat → Nat) (F : Nat → Nat → Nat) (j i : Nat) : Nat := if j < L i then F i j else 0
theorem trn_gZ (L : Nat → Nat) (F : Nat → Nat → Nat) {m i j : Nat} (hi : i < m) : gZ (fun _ => m) (trn L F) j i = gZ L F i j := by
  unfold gZ trn
  rw [if_pos hi]
  by_cases h : j < L i
  · rw [if_pos h, if_pos h]
  · rw [if_neg h, if_neg h]; rfl
theorem trn_col (q x m : Nat) (L : Nat → Nat) (F : Nat → Nat → Nat) (j : Nat) : colP q x (fun _ => m) (trn L F) j = rowP q x L F j m := by
  by_cases hq : Good q
  · refine cg_eq (evalU_mod hq _) (rowP_mod hq _ _ _ _) (((col_evZ hq x (trn L F) (L := fun _ => m) (i := j) (w := m) (Nat.le_refl _)).trans (.of_eq (evZ_congr m fun _ hi => trn_gZ L F hi))).trans (row_evZ hq x L F j m).symm)
  · rw [rowP_bad hq]; exact evalU_bad hq _
theorem trn_at (q x y m : Nat) (L : Nat → Nat) (F : Nat → Nat → Nat) : atP q y x (widU L m) (fun _ => m) (trn L F) = atP q x y m L F := by
  rw [← row_at q x y m L F]
  exact evalU_congr _ fun j _ => trn_col q x m L F j
theorem trn_row (q y m : Nat) (L : Nat → Nat) (F : Nat → Nat → Nat) {i : Nat} (hi : i < m) : rowP q y (fun _ => m) (trn L F) i (widU L m) = colP q y L F i := by
  by_cases hq : Good q
  · refine cg_eq (rowP_mod hq _ _ _ _) (evalU_mod hq _) (((row_evZ hq y _ _ i _).trans (.of_eq (evZ_congr _ fun j _ => trn_gZ L F hi))).trans (col_evZ hq y F (le_widU hi)).symm)
  · rw [rowP_bad hq]; exact (evalU_bad hq _).symm
/-- The value as the document has it: sum by sum. -/
def termU (q x y : Nat) (F : Nat → Nat → Nat) (i j : Nat) : Nat := mulU (F i j) (mulU (powU x i q) (powU y j q) q) q
def atI (q x y : Nat) (F : Nat → Nat → Nat) (i acc : Nat) : Nat → Nat
  | 0 => acc
  | j + 1 => addU (atI q x y F i acc j) (termU q x y F i j) q
def atR (q x y : Nat) (L : Nat → Nat) (F : Nat → Nat → Nat) : Nat → Nat
  | 0 => 0
  | i + 1 => atI q x y F i (atR q x y L F i) (L i)
theorem atI_lt {q x y : Nat} {F : Nat → Nat → Nat} {i acc : Nat} (h : acc < 18446744073709551616) : ∀ j, atI q x y F i acc j < 18446744073709551616
  | 0 => h
  | _ + 1 => addU_lt _ _ _
theorem atR_lt (q x y : Nat) (L : Nat → Nat) (F : Nat → Nat → Nat) : ∀ i, atR q x y L F i < 18446744073709551616
  | 0 => by show (0 : Nat) < _; omega
  | i + 1 => atI_lt (atR_lt q x y L F i) _
theorem atI_evZ {q : Nat} (hq : Good q) (x y : Nat) (F : Nat → Nat → Nat) (i acc : Nat) : ∀ j, Cg q (atI q x y F i acc j) (acc + evZ (fun k => F i k) y j * (x : Int) ^ i)
  | 0 => .of_eq (by simp [atI, evZ])
  | j + 1 => by
    unfold atI termU
    refine (cg_add hq _ _).trans (((atI_evZ hq x y F i acc j).add ((cg_mul hq _ _).trans ((Cg.refl _ _).mul ((cg_mul hq _ _).trans ((cg_pow hq _ _).mul (cg_pow hq _ _)))))).trans (.of_eq ?_))
    rw [evZ]
    grind
theorem atI_mod {q : Nat} (hq : Good q) {x y : Nat} {F : Nat → Nat → Nat} {i acc : Nat} (h : acc % q = acc) : ∀ j, atI q x y F i acc j % q = atI q x y F i acc j
  | 0 => h
  | _ + 1 => by unfold atI; rw [addU_of hq, Nat.mod_mod]
theorem atR_mod {q : Nat} (hq : Good q) (x y : Nat) (L : Nat → Nat) (F : Nat → Nat → Nat) : ∀ i, atR q x y L F i % q = atR q x y L F i
  | 0 => Nat.zero_mod _
  | i + 1 => atI_mod hq (atR_mod hq x y L F i) _
theorem atI_bad {q : Nat} (hq : ¬ Good q) {x y : Nat} {F : Nat → Nat → Nat} {i : Nat} : ∀ j, atI q x y F i 0 j = 0
  | 0 => rfl
  | _ + 1 => by unfold atI addU; rw [if_neg hq]
theorem atR_bad {q : Nat} (hq : ¬ Good q) (x y : Nat) (L : Nat → Nat) (F : Nat → Nat → Nat) : ∀ i, atR q x y L F i = 0
  | 0 => rfl
  | i + 1 => by unfold atR; rw [atR_bad hq x y L F i]; exact atI_bad hq _
theorem atR_evZ {q : Nat} (hq : Good q) (x y : Nat) (L : Nat → Nat) (F : Nat → Nat → Nat) : ∀ m, Cg q (atR q x y L F m) (evZ (fun i => evZ (fun k => F i k) y (L i)) x m)
  | 0 => Cg.refl _ _
  | m + 1 => (atI_evZ hq x y F m _ _).trans ((atR_evZ hq x y L F m).add (Cg.refl _ _))
theorem atR_eq (q x y m : Nat) (L : Nat → Nat) (F : Nat → Nat → Nat) : atR q x y L F m = atP q x y m L F := by
  by_cases hq : Good q
  · refine cg_eq (atR_mod hq _ _ _ _ _) (evalU_mod hq _) ((atR_evZ hq x y L F m).trans ?_)
    refine Cg.symm ((eval_evZ hq _ x m).trans (evZ_cg m fun i _ => eval_evZ hq (F i) y (L i)))
  · rw [atR_bad hq]; unfold atP; rw [evalU_bad hq]
end MM
end Go.Proofs.Ytlnlepadninnaaa
