/- The texts BivMath, BivOwn, BivW1, BivW2, BivR1, BivR2, Law06a, OpenR, one behind the other. -/
import Derived.Test.YtccpdjjgpkkkbaaRobMath
import Derived.Test.YtccpdjjgpkkkbaaPolyW9
import Derived.Laws.MakeOwn
import Derived.Test.YtccpdjjgpkkkbaaPolyEq
import Derived.Test.YtccpdjjgpkkkbaaPolyR1
import Derived.Laws.CopyOwn
import Derived.IntWalk
import Derived.Test.YtccpdjjgpkkkbaaPolyW4
import Derived.Test.YtccpdjjgpkkkbaaQuietTail
import Derived.Laws.OwnMore
import Derived.Lib.AppendZeros
import Derived.Test.YtccpdjjgpkkkbaaRegK
import Derived.Test.YtccpdjjgpkkkbaaOpenN
import Derived.Deep.Matrix
/- BivMath: Plain facts on polynomials of two: the widest list, rows, columns and values, and what becomes of them when both are turned about. Nothing here speaks of the program. -/
namespace Go.Proofs.Ytccpdjjgpkkkbaa
namespace MM
/-- The greatest of the first m lengths. -/
def widU (L : Nat → Nat) : Nat → Nat
  | 0 => 0
  | n + 1 => max (widU L n) (L n)
theorem le_widU {L : Nat → Nat} : ∀ {m i : Nat}, i < m → L i ≤ widU L m
  | 0, _, h => absurd h (by omega)
  | m + 1, i, h => by
    unfold widU
    by_cases e : i = m
    · subst e; omega
    · have := le_widU (L := L) (m := m) (i := i) (by omega); omega
theorem widU_le {L : Nat → Nat} {n : Nat} : ∀ m, (∀ i, i < m → L i ≤ n) → widU L m ≤ n
  | 0, _ => Nat.zero_le _
  | m + 1, h => by
    unfold widU
    have h1 := widU_le m fun i hi => h i (by omega)
    have h2 := h m (by omega)
    omega
theorem widU_same (k : Nat) : ∀ m, 0 < m → widU (fun _ => k) m = k
  | 0, h => absurd h (by omega)
  | 1, _ => by show max 0 k = k; omega
  | m + 2, _ => by
    show max (widU (fun _ => k) (m + 1)) k = k
    rw [widU_same k (m + 1) (by omega)]; omega
/-- The coefficient at j of the row at x, of the first lists. -/
def rowP (q x : Nat) (L : Nat → Nat) (F : Nat → Nat → Nat) (j : Nat) : Nat → Nat
  | 0 => 0
  | n + 1 => if j < L n then addU (rowP q x L F j n) (mulU (F n j) (powU x n q) q) q else rowP q x L F j n
/-- The same, while of the list n only the first k coefficients were put. -/
def rowK (q x : Nat) (L : Nat → Nat) (F : Nat → Nat → Nat) (n k j : Nat) : Nat := if j < k then addU (rowP q x L F j n) (mulU (F n j) (powU x n q) q) q else rowP q x L F j n
theorem rowK_zero (q x : Nat) (L : Nat → Nat) (F : Nat → Nat → Nat) (n j : Nat) : rowK q x L F n 0 j = rowP q x L F j n := by unfold rowK; rw [if_neg (by omega)]
theorem rowK_end (q x : Nat) (L : Nat → Nat) (F : Nat → Nat → Nat) (n j : Nat) : rowK q x L F n (L n) j = rowP q x L F j (n + 1) := rfl
theorem rowK_step (q x : Nat) (L : Nat → Nat) (F : Nat → Nat → Nat) (n k j : Nat) : rowK q x L F n (k + 1) j = if j = k then addU (rowK q x L F n k k) (mulU (F n k) (powU x n q) q) q else rowK q x L F n k j := by
  unfold rowK
  by_cases h : j = k
  · subst h; rw [if_pos rfl, if_pos (by omega), if_neg (by omega)]
  · rw [if_neg h]
    by_cases h2 : j < k
    · rw [if_pos (by omega), if_pos h2]
    · rw [if_neg (by omega), if_neg h2]
theorem rowP_lt (q x : Nat) (L : Nat → Nat) (F : Nat → Nat → Nat) (j : Nat) : ∀ n, rowP q x L F j n < 18446744073709551616
  | 0 => by show (0 : Nat) < _; omega
  | n + 1 => by
    unfold rowP
    by_cases h : j < L n
    · rw [if_pos h]; exact addU_lt _ _ _
    · rw [if_neg h]; exact rowP_lt q x L F j n
theorem rowK_lt (q x : Nat) (L : Nat → Nat) (F : Nat → Nat → Nat) (n k j : Nat) : rowK q x L F n k j < 18446744073709551616 := by
  unfold rowK
  by_cases h : j < k
  · rw [if_pos h]; exact addU_lt _ _ _
  · rw [if_neg h]; exact rowP_lt q x L F j n
theorem rowP_bad {q x : Nat} (hq : ¬ Good q) (L : Nat → Nat) (F : Nat → Nat → Nat) (j : Nat) : ∀ n, rowP q x L F j n = 0
  | 0 => rfl
  | n + 1 => by
    unfold rowP
    by_cases h : j < L n
    · rw [if_pos h]; unfold addU; rw [if_neg hq]
    · rw [if_neg h]; exact rowP_bad hq L F j n
theorem rowP_mod {q x : Nat} (hq : Good q) (L : Nat → Nat) (F : Nat → Nat → Nat) (j : Nat) : ∀ n, rowP q x L F j n % q = rowP q x L F j n
  | 0 => Nat.zero_mod _
  | n + 1 => by
    unfold rowP
    by_cases h : j < L n
    · rw [if_pos h, addU_of hq, Nat.mod_mod]
    · rw [if_neg h]; exact rowP_mod hq L F j n
/-- The power as the program carries it along. -/
def pwr (x q : Nat) : Nat → Nat
  | 0 => 1
  | n + 1 => mulU (pwr x q n) x q
theorem pwr_lt (x q : Nat) : ∀ n, pwr x q n < 18446744073709551616
  | 0 => by show (1 : Nat) < _; omega
  | _ + 1 => mulU_lt _ _ _
theorem pwr_mod {q : Nat} (hq : Good q) (x : Nat) : ∀ n, pwr x q n % q = powU x n q % q
  | 0 => by rw [powU_of hq]; show 1 % q = 1 % q % q; rw [Nat.mod_mod]
  | n + 1 => by
    show mulU (pwr x q n) x q % q = _
    rw [mulU_of hq, powU_of hq, Nat.mod_mod, Nat.mod_mod, Nat.mul_mod, pwr_mod hq x n, powU_of hq, Nat.mod_mod, ← Nat.mul_mod, ← Nat.pow_succ]
theorem pwr_mul (c x q n : Nat) : mulU c (pwr x q n) q = mulU c (powU x n q) q := by
  by_cases hq : Good q
  · rw [mulU_of hq, mulU_of hq, Nat.mul_mod, pwr_mod hq, ← Nat.mul_mod]
  · unfold mulU; rw [if_neg hq, if_neg hq]
theorem mul_same {q : Nat} (hq : Good q) {a b c d : Nat} (h : a % q = b % q) (k : c % q = d % q) : mulU a c q = mulU b d q := by rw [mulU_of hq, mulU_of hq, Nat.mul_mod, h, k, ← Nat.mul_mod]
/-- The coefficient at i and j, 0 beyond the end of a list. -/
def gZ (L : Nat → Nat) (F : Nat → Nat → Nat) (i j : Nat) : Int := if j < L i then (F i j : Int) else 0
theorem row_evZ {q : Nat} (hq : Good q) (x : Nat) (L : Nat → Nat) (F : Nat → Nat → Nat) (j : Nat) : ∀ n, Cg q (rowP q x L F j n) (evZ (fun i => gZ L F i j) x n)
  | 0 => Cg.refl _ _
  | n + 1 => by
    unfold rowP evZ gZ
    by_cases h : j < L n
    · rw [if_pos h, if_pos h]
      exact (cg_add hq _ _).trans ((row_evZ hq x L F j n).add ((cg_mul hq _ _).trans ((Cg.refl _ _).mul (cg_pow hq _ _))))
    · rw [if_neg h, if_neg h]
      exact (row_evZ hq x L F j n).trans (.of_eq (by unfold gZ; simp))
theorem col_evZ {q : Nat} (hq : Good q) (y : Nat) {L : Nat → Nat} (F : Nat → Nat → Nat) {i w : Nat} (h : L i ≤ w) : Cg q (evalU (F i) y q (L i)) (evZ (gZ L F i) y w) := by
  refine (eval_evZ hq (F i) y (L i)).trans ?_
  refine Cg.trans (.of_eq (evZ_congr (L i) fun k hk => ?_)) (evZ_zeros w h fun k h1 _ => ?_).symm
  · unfold gZ; rw [if_pos hk]
  · unfold gZ; rw [if_neg (by omega)]; exact Cg.refl _ _
/-- Sums may be told in either row. -/
theorem evZ_turn (G : Nat → Nat → Int) (x y : Int) (w : Nat) : ∀ m, evZ (fun j => evZ (fun i => G i j) x m) y w = evZ (fun i => evZ (G i) y w) x m
  | 0 => by
    show evZ (fun _ => (0 : Int)) y w = 0
    induction w with
    | zero => rfl
    | succ w ih => unfold evZ; rw [ih]; simp
  | m + 1 => by
    show evZ (fun j => evZ (fun i => G i j) x m + G m j * x ^ m) y w = evZ (fun i => evZ (G i) y w) x m + evZ (G m) y w * x ^ m
    rw [← evZ_turn G x y w m, Int.mul_comm _ (x ^ m), ← evZ_lin]
    exact evZ_congr w fun j _ => by rw [Int.mul_comm]
/-- The value at x and y, as that of the column at y; a column's numbers. -/
def colP (q y : Nat) (L : Nat → Nat) (F : Nat → Nat → Nat) (i : Nat) : Nat := evalU (F i) y q (L i)
theorem colP_lt (q y : Nat) (L : Nat → Nat) (F : Nat → Nat → Nat) (i : Nat) : colP q y L F i < 18446744073709551616 := evalU_lt _ _ _ _
def atP (q x y m : Nat) (L : Nat → Nat) (F : Nat → Nat → Nat) : Nat := evalU (colP q y L F) x q m
theorem atP_evZ {q : Nat} (hq : Good q) (x y m : Nat) (L : Nat → Nat) (F : Nat → Nat → Nat) {w : Nat} (hw : widU L m ≤ w) : Cg q (atP q x y m L F) (evZ (fun i => evZ (gZ L F i) y w) x m) :=
  (eval_evZ hq _ x m).trans (evZ_cg m fun _ hi => col_evZ hq y F (Nat.le_trans (le_widU hi) hw))
theorem cg_eq {q a b : Nat} (ha : a % q = a) (hb : b % q = b) (h : Cg q a b) : a = b := by rw [← ha, ← hb]; exact h.nat
/-- The value of the row at x. -/
theorem row_at (q x y m : Nat) (L : Nat → Nat) (F : Nat → Nat → Nat) : evalU (fun j => rowP q x L F j m) y q (widU L m) = atP q x y m L F := by
  by_cases hq : Good q
  · refine cg_eq (evalU_mod hq _) (evalU_mod hq _) (((eval_evZ hq _ y _).trans (evZ_cg _ fun j _ => row_evZ hq x L F j m)).trans ?_)
    rw [evZ_turn]
    exact (atP_evZ hq x y m L F (Nat.le_refl _)).symm
  · unfold atP; rw [evalU_bad hq, evalU_bad hq]
/-- Both turned about: the coefficient at j and i. -/
def trn (L : Nat → Nat) (F : Nat → Nat → Nat) (j i : Nat) : Nat := if j < L i then F i j else 0
theorem trn_gZ (L : Nat → Nat) (F : Nat → Nat → Nat) {m i j : Nat} (hi : i < m) : gZ (fun _ => m) (trn L F) j i = gZ L F i j := by
  unfold gZ trn
  rw [if_pos hi]
  by_cases h : j < L i
  · rw [if_pos h, if_pos h]
  · rw [if_neg h, if_neg h]; rfl
theorem trn_col (q x m : Nat) (L : Nat → Nat) (F : Nat → Nat → Nat) (j : Nat) : colP q x (fun _ => m) (trn L F) j = rowP q x L F j m := by
  by_cases hq : Good q
  · refine cg_eq (evalU_mod hq _) (rowP_mod hq _ _ _ _) (((col_evZ hq x (trn L F) (L := fun _ => m) (i := j) (w := m) (Nat.le_refl _)).trans (.of_eq (evZ_congr m fun _ hi => trn_gZ L F hi))).trans (row_evZ hq x L F j m).symm)
  · rw [rowP_bad hq]; exact evalU_bad hq _
theorem trn_at (q x y m : Nat) (L : Nat → Nat) (F : Nat → Nat → Nat) : atP q y x (widU L m) (fun _ => m) (trn L F) = atP q x y m L F := by
  rw [← row_at q x y m L F]
  exact evalU_congr _ fun j _ => trn_col q x m L F j
theorem trn_row (q y m : Nat) (L : Nat → Nat) (F : Nat → Nat → Nat) {i : Nat} (hi : i < m) : rowP q y (fun _ => m) (trn L F) i (widU L m) = colP q y L F i := by
  by_cases hq : Good q
  · refine cg_eq (rowP_mod hq _ _ _ _) (evalU_mod hq _) (((row_evZ hq y _ _ i _).trans (.of_eq (evZ_congr _ fun j _ => trn_gZ L F hi))).trans (col_evZ hq y F (le_widU hi)).symm)
  · rw [rowP_bad hq]; exact (evalU_bad hq _).symm
/-- The value as the document has it: sum by sum. -/
def termU (q x y : Nat) (F : Nat → Nat → Nat) (i j : Nat) : Nat := mulU (F i j) (mulU (powU x i q) (powU y j q) q) q
def atI (q x y : Nat) (F : Nat → Nat → Nat) (i acc : Nat) : Nat → Nat
  | 0 => acc
  | j + 1 => addU (atI q x y F i acc j) (termU q x y F i j) q
def atR (q x y : Nat) (L : Nat → Nat) (F : Nat → Nat → Nat) : Nat → Nat
  | 0 => 0
  | i + 1 => atI q x y F i (atR q x y L F i) (L i)
theorem atI_lt {q x y : Nat} {F : Nat → Nat → Nat} {i acc : Nat} (h : acc < 18446744073709551616) : ∀ j, atI q x y F i acc j < 18446744073709551616
  | 0 => h
  | _ + 1 => addU_lt _ _ _
theorem atR_lt (q x y : Nat) (L : Nat → Nat) (F : Nat → Nat → Nat) : ∀ i, atR q x y L F i < 18446744073709551616
  | 0 => by show (0 : Nat) < _; omega
  | i + 1 => atI_lt (atR_lt q x y L F i) _
theorem atI_evZ {q : Nat} (hq : Good q) (x y : Nat) (F : Nat → Nat → Nat) (i acc : Nat) : ∀ j, Cg q (atI q x y F i acc j) (acc + evZ (fun k => F i k) y j * (x : Int) ^ i)
  | 0 => .of_eq (by simp [atI, evZ])
  | j + 1 => by
    unfold atI termU
    refine (cg_add hq _ _).trans (((atI_evZ hq x y F i acc j).add ((cg_mul hq _ _).trans ((Cg.refl _ _).mul ((cg_mul hq _ _).trans ((cg_pow hq _ _).mul (cg_pow hq _ _)))))).trans (.of_eq ?_))
    rw [evZ]
    grind
theorem atI_mod {q : Nat} (hq : Good q) {x y : Nat} {F : Nat → Nat → Nat} {i acc : Nat} (h : acc % q = acc) : ∀ j, atI q x y F i acc j % q = atI q x y F i acc j
  | 0 => h
  | _ + 1 => by unfold atI; rw [addU_of hq, Nat.mod_mod]
theorem atR_mod {q : Nat} (hq : Good q) (x y : Nat) (L : Nat → Nat) (F : Nat → Nat → Nat) : ∀ i, atR q x y L F i % q = atR q x y L F i
  | 0 => Nat.zero_mod _
  | i + 1 => atI_mod hq (atR_mod hq x y L F i) _
theorem atI_bad {q : Nat} (hq : ¬ Good q) {x y : Nat} {F : Nat → Nat → Nat} {i : Nat} : ∀ j, atI q x y F i 0 j = 0
  | 0 => rfl
  | _ + 1 => by unfold atI addU; rw [if_neg hq]
theorem atR_bad {q : Nat} (hq : ¬ Good q) (x y : Nat) (L : Nat → Nat) (F : Nat → Nat → Nat) : ∀ i, atR q x y L F i = 0
  | 0 => rfl
  | i + 1 => by unfold atR; rw [atR_bad hq x y L F i]; exact atI_bad hq _
theorem atR_evZ {q : Nat} (hq : Good q) (x y : Nat) (L : Nat → Nat) (F : Nat → Nat → Nat) : ∀ m, Cg q (atR q x y L F m) (evZ (fun i => evZ (fun k => F i k) y (L i)) x m)
  | 0 => Cg.refl _ _
  | m + 1 => (atI_evZ hq x y F m _ _).trans ((atR_evZ hq x y L F m).add (Cg.refl _ _))
theorem atR_eq (q x y m : Nat) (L : Nat → Nat) (F : Nat → Nat → Nat) : atR q x y L F m = atP q x y m L F := by
  by_cases hq : Good q
  · refine cg_eq (atR_mod hq _ _ _ _ _) (evalU_mod hq _) ((atR_evZ hq x y L F m).trans ?_)
    refine Cg.symm ((eval_evZ hq _ x m).trans (evZ_cg m fun i _ => eval_evZ hq (F i) y (L i)))
  · rw [atR_bad hq]; unfold atP; rw [evalU_bad hq]
end MM
end Go.Proofs.Ytccpdjjgpkkkbaa

/- BivOwn: Lists of lists: as a slice reads them, and as a call itself makes them by appends; rows of values of whatever type of one cell that a call makes by appends. -/
namespace Go.Proofs.Ytccpdjjgpkkkbaa
open Go Go.RowKit Go.Lib
namespace M
theorem info_rows : (Try.prog.info? 23).map (fun i => (i.zero, i.size, i.bytes)) = some (some (.slice none 0 0), 1, 24) := by kernel_rfl
/-- Numbers that a slice reads, where one without an address is the nil slice. -/
def SrcN (W : World) (ao : Option Addr) (n c : Nat) (z : Nat → Nat) : Prop := Rd W ao n z ∧ (ao = none → n = 0 ∧ c = 0)
theorem SrcN.below {W W' : World} {ao : Option Addr} {n c : Nat} {z : Nat → Nat} (h : SrcN W ao n c z) (hb : Below W.heap.size W W') : SrcN W' ao n c z := ⟨h.1.below hb, h.2⟩
/-- A list of lists that a slice reads: m lists, the list i of L i numbers F i. -/
def Mat (W : World) (ao : Option Addr) (m : Nat) (L : Nat → Nat) (F : Nat → Nat → Nat) : Prop := ∀ i, i < m → ∃ ad bo c, ao = some ad ∧ W.cell? (ad.add i) = some (.slice bo (L i) c) ∧ SrcN W bo (L i) c (F i)
theorem Mat.below {W W' : World} {ao : Option Addr} {m : Nat} {L : Nat → Nat} {F : Nat → Nat → Nat} (h : Mat W ao m L F) (hb : Below W.heap.size W W') : Mat W' ao m L F := fun i hi => by
  obtain ⟨ad, bo, c, h1, h2, h3⟩ := h i hi
  exact ⟨ad, bo, c, h1, by rw [hb.cell (World.block_lt_of_cell? W _ h2)]; exact h2, h3.below hb⟩
theorem Mat.congr {W : World} {ao : Option Addr} {m : Nat} {L L' : Nat → Nat} {F F' : Nat → Nat → Nat} (h : Mat W ao m L F) (hL : ∀ i, i < m → L i = L' i) (hF : ∀ i, i < m → ∀ j, j < L i → F i j = F' i j) : Mat W ao m L' F' := fun i hi => by
  obtain ⟨ad, bo, c, h1, h2, h3⟩ := h i hi
  rw [← hL i hi]
  refine ⟨ad, bo, c, h1, h2, fun hn => ?_, h3.2⟩
  obtain ⟨a, e, hr⟩ := h3.1 hn
  exact ⟨a, e, fun k hk => by rw [hr k hk, hF i hi k hk]⟩
theorem add_zero' (b k : Nat) : (⟨b, 0, none⟩ : Addr).add k = ⟨b, k, none⟩ := by
  unfold Addr.add
  by_cases h0 : k = 0
  · subst h0; rfl
  · rw [if_neg h0]; simp
/-- A row of numbers in a block of its own, behind lo. -/
def RowC (lo : Nat) (W : World) (v : Value) (n : Nat) (z : Nat → Nat) : Prop := (v = .slice none 0 0 ∧ n = 0) ∨ ∃ B c cs, v = .slice (some ⟨B, 0, none⟩) n c ∧ lo ≤ B ∧ W.heap[B]? = some (.cells cs 22 (0, 0)) ∧ ∀ k, k < n → cs[k]? = some (.int .u64 ((z k : Nat) : Int))
theorem RowC.same {lo : Nat} {W W' : World} {v : Value} {n : Nat} {z : Nat → Nat} (h : RowC lo W v n z) (hk : ∀ (B : Nat) (cs : Array Value), W.heap[B]? = some (.cells cs 22 (0, 0)) → W'.heap[B]? = some (.cells cs 22 (0, 0))) : RowC lo W' v n z := by
  rcases h with h | ⟨B, c, cs, h0, h1, h2, h3⟩
  · exact .inl h
  · exact .inr ⟨B, c, cs, h0, h1, hk B cs h2, h3⟩
theorem RowC.below {lo : Nat} {W W' : World} {v : Value} {n : Nat} {z : Nat → Nat} (h : RowC lo W v n z) (hb : Below W.heap.size W W') : RowC lo W' v n z := h.same fun B _ h1 => (hb.block B (row_lt h1)).trans h1
theorem RowC.src {lo : Nat} {W : World} {v : Value} {n : Nat} {z : Nat → Nat} (h : RowC lo W v n z) : ∃ bo c, v = .slice bo n c ∧ SrcN W bo n c z := by
  rcases h with ⟨rfl, rfl⟩ | ⟨B, c, cs, rfl, _, h2, h3⟩
  · exact ⟨none, 0, rfl, fun h => absurd h (by omega), fun _ => ⟨rfl, rfl⟩⟩
  · exact ⟨_, c, rfl, fun _ => ⟨_, rfl, Row.of_block h2 h3⟩, fun h => by cases h⟩
theorem RowC.of_own {W : World} {B n : Nat} {v : Value} {z : Nat → Nat} (h : W.ownsRow B 22 1 v n (zlist n z)) : RowC B W v n z := by
  obtain ⟨_, h1 | ⟨g, cap, cur, h1, h2, h3, _, _, _, h7⟩⟩ := h
  · exact .inl h1
  · refine .inr ⟨g, cap, cur, h1, h2, h3, fun j hj => ?_⟩
    have e1 : (cur.toList.take (n * 1))[j]? = (zlist n z)[j]? := by rw [h7]
    rw [zlist_get hj, List.getElem?_take_of_lt (by omega)] at e1
    simpa using e1
theorem RowC.mono {lo lo' : Nat} {W : World} {v : Value} {n : Nat} {z : Nat → Nat} (h : RowC lo W v n z) (hl : lo' ≤ lo) : RowC lo' W v n z := by
  rcases h with h | ⟨B, c, cs, h0, h1, h2, h3⟩
  · exact .inl h
  · exact .inr ⟨B, c, cs, h0, Nat.le_trans hl h1, h2, h3⟩
theorem RowC.congr {lo : Nat} {W : World} {v : Value} {n : Nat} {z y : Nat → Nat} (h : RowC lo W v n z) (e : ∀ k, k < n → z k = y k) : RowC lo W v n y := by
  rcases h with h | ⟨B, c, cs, h0, h1, h2, h3⟩
  · exact .inl h
  · exact .inr ⟨B, c, cs, h0, h1, h2, fun k hk => by rw [h3 k hk, e k hk]⟩
theorem RowB.rowC {lo : Nat} {W : World} {v : Value} {n : Nat} {z : Nat → Nat} (h : RowB lo W v n z) : RowC lo W v n z := by
  rcases h with ⟨h1, h2⟩ | ⟨B, cs, h0, h1, h2, h3, h4⟩
  · first | exact .inl ⟨h1, h2⟩ | exact .inl ⟨h2, h1⟩
  · exact .inr ⟨B, n, cs, h0, h1, h2, h4⟩
/-- A row of values, one a cell, that a call itself makes by appends; nothing old has changed. -/
structure OwnV (T : TypeId) (w0 : World) (B : Nat) (v : Value) (xs : List Value) (w : World) : Prop where
  own : w.ownsRow B T 1 v xs.length xs
  size : B ≤ w.heap.size
  low : w0.heap.size ≤ B
  below : Below w0.heap.size w0 w
section
variable {T : TypeId} {w0 w w' : World} {B : Nat} {v : Value} {xs : List Value}
theorem OwnV.start (T : TypeId) (w0 : World) : OwnV T w0 w0.heap.size (.slice none 0 0) [] w0 := ⟨⟨rfl, .inl ⟨rfl, rfl⟩⟩, Nat.le_refl _, Nat.le_refl _, Below.refl _ _⟩
theorem OwnV.step (h : OwnV T w0 B v xs w) (hb : Below w.heap.size w w') : OwnV T w0 B v xs w' :=
  ⟨h.own.kept (row := none) ⟨hb.os, hb.tape, hb.output, hb.size, fun k hk _ => hb.block k hk⟩ (by cases v.ownBlock <;> simp), Nat.le_trans h.size hb.size, h.low, h.below.trans (hb.mono h.below.size)⟩
theorem OwnV.drewN (h : OwnV T w0 B v xs w) (n : Nat) : OwnV T w0 B v xs (w.drewN n) := h.step (below_drewN' w n _)
theorem OwnV.alloc (h : OwnV T w0 B v xs w) (o : Obj) : OwnV T w0 B v xs (w.alloc o) := h.step (below_box _ _)
theorem OwnV.val (h : OwnV T w0 B v xs w) : (v = .slice none 0 0 ∧ xs = []) ∨ ∃ g c, v = .slice (some ⟨g, 0, none⟩) xs.length c ∧ B ≤ g ∧ xs.length ≤ c ∧ ∀ j u, xs[j]? = some u → w.cell? ⟨g, j, none⟩ = some u := by
  obtain ⟨_, ⟨h1, h2⟩ | ⟨g, cap, cur, h1, h2, h3, h4, h5, _, h7⟩⟩ := h.own
  · exact .inl ⟨h1, List.eq_nil_of_length_eq_zero h2⟩
  · refine .inr ⟨g, cap, h1, h2, h4, fun j u hj => ?_⟩
    have hl := (List.getElem?_eq_some_iff.1 hj).1
    have e1 : (cur.toList.take (xs.length * 1))[j]? = xs[j]? := by rw [h7]
    rw [hj, List.getElem?_take_of_lt (by omega)] at e1
    rw [cell_of_row w g j _ _ _ h3]
    simpa using e1
/-- Some values more behind the row. -/
theorem OwnV.more {S : TypeId} {i0 : TypeInfo} {z0 : Value} {sz : Nat} (hS : Try.prog.underlying S = some (.slice T)) (hi : Try.prog.info? T = some i0) (hz : i0.zero = some z0) (h1 : i0.size = 1) (h2 : i0.bytes = sz) (hzs : z0.cells.size = 1) (hsz : sz ≤ 24)
    (h : OwnV T w0 B v xs w) {a : Addr} {m c : Nat} {news : List Value} (hl : news.length = m) (hn : ∀ j u, news[j]? = some u → w.cell? (a.add j) = some u) (ho : ∀ u ∈ news, u.oneCell' = true) (hb : xs.length + m ≤ 1000000) :
    ∃ v' w', (Builtin.append_ #[S, S] S #[v, .slice (some a) m c]).run Try.prog w = .ok v' w' ∧ OwnV T w0 B v' (xs ++ news) w' ∧ w.heap.size ≤ w'.heap.size ∧
      ∀ (k : Nat) (cs : Array Value) (t2 : TypeId), t2 ≠ T → w.heap[k]? = some (.cells cs t2 (0, 0)) → w'.heap[k]? = some (.cells cs t2 (0, 0)) := by
  obtain ⟨v', w', hr, ho', hg, _⟩ := run_append_own (P := Try.prog) w B S S T i0 z0 1 sz hS hi hz h1 h2 hzs (by decide) v xs.length xs h.own a m c news (by omega) hn ho (by unfold maxLen; omega) (Nat.le_trans (Nat.mul_le_mul hb hsz) (by decide)) h.size
  refine ⟨v', w', hr, ⟨?_, Nat.le_trans h.size hg.size, h.low, ?_⟩, hg.size, fun k cs t2 hne hk => (hg.block k (row_lt hk) (fun e => ?_)).trans hk⟩
  · rw [List.length_append, hl]; exact ho'
  · exact h.below.trans ⟨hg.os, hg.tape, hg.output, hg.size, fun j hj => hg.block j (Nat.lt_of_lt_of_le hj h.below.size) (fun e => by have := (h.own.lt j e.symm).1; have := h.low; omega)⟩
  · rcases h.own.2 with ⟨rfl, _⟩ | ⟨g, cap, cur, rfl, _, hg3, _⟩
    · cases e
    · have e' : k = g := by simpa [Value.ownBlock] using e
      subst e'
      rw [hk] at hg3
      injection hg3 with hg3
      injection hg3 with _ e2 _
      exact hne e2
end
/-- Lists that a call itself makes: the first k of them. -/
def OwnR (w0 : World) (B : Nat) (v : Value) (k : Nat) (L : Nat → Nat) (F : Nat → Nat → Nat) (w : World) : Prop := ∃ xs : List Value, xs.length = k ∧ OwnV 23 w0 B v xs w ∧ ∀ j, j < k → ∃ u, xs[j]? = some u ∧ RowC B w u (L j) (F j)
section
variable {w0 w w' : World} {B k : Nat} {v : Value} {L : Nat → Nat} {F : Nat → Nat → Nat}
theorem OwnR.start (w0 : World) (L : Nat → Nat) (F : Nat → Nat → Nat) : OwnR w0 w0.heap.size (.slice none 0 0) 0 L F w0 := ⟨[], rfl, OwnV.start _ w0, fun _ h => absurd h (by omega)⟩
theorem OwnR.size (h : OwnR w0 B v k L F w) : B ≤ w.heap.size := by obtain ⟨_, _, h, _⟩ := h; exact h.size
theorem OwnR.low (h : OwnR w0 B v k L F w) : w0.heap.size ≤ B := by obtain ⟨_, _, h, _⟩ := h; exact h.low
theorem OwnR.below (h : OwnR w0 B v k L F w) : Below w0.heap.size w0 w := by obtain ⟨_, _, h, _⟩ := h; exact h.below
theorem OwnR.step (h : OwnR w0 B v k L F w) (hb : Below w.heap.size w w') : OwnR w0 B v k L F w' := by
  obtain ⟨xs, hx, ho, hr⟩ := h
  exact ⟨xs, hx, ho.step hb, fun j hj => let ⟨u, h1, h2⟩ := hr j hj; ⟨u, h1, h2.below hb⟩⟩
theorem OwnR.drewN (h : OwnR w0 B v k L F w) (n : Nat) : OwnR w0 B v k L F (w.drewN n) := h.step (below_drewN' w n _)
theorem OwnR.alloc (h : OwnR w0 B v k L F w) (o : Obj) : OwnR w0 B v k L F (w.alloc o) := h.step (below_box _ _)
theorem RowC.one {lo n : Nat} {u : Value} {z : Nat → Nat} (h : RowC lo w u n z) : u.oneCell' = true := by
  rcases h with ⟨rfl, _⟩ | ⟨_, _, _, rfl, _⟩ <;> rfl
/-- One list more, that lies in a new block by itself. -/
theorem OwnR.more (h : OwnR w0 B v k L F w) {u : Value} (c : Nat) (hr : RowC B w u (L k) (F k)) (hk : k ≤ 900000) :
    ∃ v' w', (Builtin.append_ #[24, 24] 24 #[v, .slice (some ⟨w.heap.size, 0, none⟩) 1 c]).run Try.prog (w.alloc (.cells #[u] 23)) = .ok v' w' ∧ OwnR w0 B v' (k + 1) L F w' := by
  obtain ⟨xs, hx, ho, hrs⟩ := h
  obtain ⟨i0, hi, hz0, hz1, hz2⟩ := info_parts info_rows
  have hb := below_box w (.cells #[u] 23)
  obtain ⟨v', w', hrun, ho', _, hsame⟩ := (ho.alloc (.cells #[u] 23)).more (S := 24) (a := ⟨w.heap.size, 0, none⟩) (m := 1) (c := c) (news := [u]) Try.underlying24 hi hz0 hz1 hz2 rfl (Nat.le_refl _) rfl (fun j y hj => by
    have hl := (List.getElem?_eq_some_iff.1 hj).1
    obtain rfl : j = 0 := by simpa using hl
    cases hj
    rw [add_zero', cell_of_row _ _ _ _ _ _ (heap_alloc_new w _)]; rfl) (by simpa using hr.one) (by omega)
  have hs : ∀ {y : Value} {n : Nat} {z : Nat → Nat}, RowC B w y n z → RowC B w' y n z := fun hy => (hy.below hb).same fun b cs hc => hsame b cs _ (by decide) hc
  refine ⟨v', w', hrun, xs ++ [u], by simp [hx], ho', fun j hj => ?_⟩
  by_cases e : j = k
  · subst e
    exact ⟨u, by rw [List.getElem?_append_right (by omega), hx]; simp, hs hr⟩
  · obtain ⟨y, h1, h2⟩ := hrs j (by omega)
    exact ⟨y, by rw [List.getElem?_append_left (by omega)]; exact h1, hs h2⟩
/-- What the lists read as. -/
theorem OwnR.mat (h : OwnR w0 B v k L F w) : ∃ ao c, v = .slice ao k c ∧ Mat w ao k L F ∧ (ao = none → k = 0 ∧ c = 0) := by
  obtain ⟨xs, hx, ho, hrs⟩ := h
  rcases ho.val with ⟨rfl, rfl⟩ | ⟨g, c, rfl, _, _, hc⟩
  · have hk : k = 0 := by simpa using hx.symm
    subst hk
    exact ⟨none, 0, rfl, fun _ h => absurd h (by omega), fun _ => ⟨rfl, rfl⟩⟩
  · refine ⟨_, c, by rw [hx], fun i hi => ?_, fun h => by cases h⟩
    obtain ⟨u, h1, h2⟩ := hrs i hi
    obtain ⟨bo, cu, rfl, hs⟩ := h2.src
    exact ⟨_, bo, cu, rfl, by rw [add_zero']; exact hc i _ h1, hs⟩
theorem OwnR.congr {F' : Nat → Nat → Nat} (h : OwnR w0 B v k L F w) (hF : ∀ i, i < k → ∀ j, j < L i → F i j = F' i j) : OwnR w0 B v k L F' w := by
  obtain ⟨xs, hx, ho, hrs⟩ := h
  exact ⟨xs, hx, ho, fun j hj => let ⟨u, h1, h2⟩ := hrs j hj; ⟨u, h1, h2.congr fun i hi => hF j hj i hi⟩⟩
end
end M
end Go.Proofs.Ytccpdjjgpkkkbaa

/- BivW1: The walks of how long the longest list is, of powers, of a value and a column, as the program and as the document has them. -/
namespace Go.Proofs.Ytccpdjjgpkkkbaa
open Go Go.RowKit Go.Lib
namespace M
set_option maxHeartbeats 2000000 in
theorem longest_any (ao : Option Addr) (cap m : Nat) (L : Nat → Nat) (F : Nat → Nat → Nat) (hm : m ≤ 1000) (hl : ∀ i, i < m → L i ≤ 1000) (W : World) (hr : Mat W ao m L F) :
    Calls Try.prog 24 #[.slice ao m cap] W fun e w' => e = .returned (.int .i64 ((MM.widU L m : Nat) : Int)) ∧ W = w' := by
  have HR := Lib.hid hr
  have HL := Lib.hid hl
  clear hr hl
  go_enter Try.func24, Try.ntmps24
  go_wp2_with fail
  go_loop [3, 8] (fun s3 s8 => ∃ k : Nat, k ≤ m ∧ s8 = .int .i64 (k : Int) ∧ s3 = .int .i64 ((MM.widU L k : Nat) : Int)) (fun _ s8 => m - (RowKit.intOf s8).toNat)
  case atStart => exact ⟨0, Nat.zero_le _, rfl, rfl⟩
  case round =>
    obtain ⟨k, hk, rfl, rfl⟩ := hrel
    by_cases hlt : k < m
    · obtain ⟨ad, bo, c, rfl, hc, _⟩ := HR.out k hlt
      have HS : Hid (MM.widU L (k + 1) = max (MM.widU L k) (L k)) := Lib.hid rfl
      have hx := MM.widU_le (n := 1000) k (fun i hi => HL.out i (by omega))
      have hy := HL.out k hlt
      generalize MM.widU L k = x at *
      generalize L k = y at *
      obtain ⟨z, hz⟩ : ∃ z, max x y = z := ⟨_, rfl⟩
      rw [hz] at HS
      have hzI : max (x : Int) (y : Int) = (z : Int) := by omega
      clear hz
      go_wp2_with fail
      go_round
      case rel => exact ⟨k + 1, by omega, by go_num, by rw [HS.out]⟩
      case measure => simp [RowKit.intOf]; omega
    · obtain rfl : k = m := by omega
      go_wp2_with fail
      go_ret
      exact ⟨rfl, rfl⟩
set_option maxHeartbeats 2000000 in
theorem wide_any (ao : Option Addr) (cap m : Nat) (L : Nat → Nat) (F : Nat → Nat → Nat) (hm : m ≤ 1000000) (hl : ∀ i, i < m → L i ≤ 9223372036854775807) (W : World) (hr : Mat W ao m L F) :
    Calls Try.prog 28 #[.slice ao m cap] W fun e w' => e = .returned (.int .i64 ((MM.widU L m : Nat) : Int)) ∧ W = w' := by
  have HR := Lib.hid hr
  have HL := Lib.hid hl
  clear hr hl
  go_enter Try.func28, Try.ntmps28
  go_wp2_with fail
  go_loop [3, 4] (fun s3 s8 => ∃ k : Nat, k ≤ m ∧ s8 = .int .i64 (k : Int) ∧ s3 = .int .i64 ((MM.widU L k : Nat) : Int)) (fun _ s8 => m - (RowKit.intOf s8).toNat)
  case atStart => exact ⟨0, Nat.zero_le _, rfl, rfl⟩
  case round =>
    obtain ⟨k, hk, rfl, rfl⟩ := hrel
    by_cases hlt : k < m
    · obtain ⟨ad, bo, c, rfl, hc, _⟩ := HR.out k hlt
      have HS : Hid (MM.widU L (k + 1) = max (MM.widU L k) (L k)) := Lib.hid rfl
      have hx := MM.widU_le (n := 9223372036854775807) k (fun i hi => HL.out i (by omega))
      have hy := HL.out k hlt
      generalize MM.widU L k = x at *
      generalize L k = y at *
      obtain ⟨z, hz⟩ : ∃ z, max x y = z := ⟨_, rfl⟩
      rw [hz] at HS
      have hzI : max (x : Int) (y : Int) = (z : Int) := by omega
      have hk0 : (0 : Int) ≤ (k : Int) := Int.natCast_nonneg _
      have hk1 : (k : Int) < (m : Int) := by omega
      clear hz
      go_wp2_with fail
      go_round
      case rel => exact ⟨k + 1, by omega, by go_num, by rw [HS.out]⟩
      case measure => simp [RowKit.intOf]; omega
    · obtain rfl : k = m := by omega
      go_wp2_with fail
      go_ret
      exact ⟨rfl, rfl⟩
theorem rpower_any (x n q : Nat) (hx : x < 18446744073709551616) (hn : n ≤ 1000000) : Ret 30 #[.int .u64 (x : Int), .int .i64 (n : Int), .int .u64 (q : Int)] (.int .u64 ((MM.powU x n q : Nat) : Int)) := by
  intro W
  have H1 : Ret 29 #[.int .u64 1, .int .u64 1, .int .u64 (q : Int)] (.int .u64 ((MM.powU x 0 q : Nat) : Int)) := by
    have h := rmulU 1 1 q (by omega)
    have e : MM.mulU 1 1 q = MM.powU x 0 q := by
      by_cases hq : MM.Good q
      · rw [MM.mulU_of hq, MM.powU_of hq]; rfl
      · unfold MM.mulU MM.powU; rw [if_neg hq, if_neg hq]
    rwa [e] at h
  go_enter Try.func30, Try.ntmps30
  go_wp2_with (go_at_call 29; (with_reducible refine (H1.at _).mono ?_); rintro e w' ⟨rfl, nd, rfl⟩)
  go_loopw [7, 8] (fun s7 s8 wx => ∃ k d : Nat, k ≤ n ∧ s8 = .int .i64 (k : Int) ∧ s7 = .int .u64 ((MM.powU x k q : Nat) : Int) ∧ wx = W.drewN d) (fun _ s8 _ => n - (RowKit.intOf s8).toNat)
  case atStart => exact ⟨0, _, Nat.zero_le _, rfl, rfl, rfl⟩
  case round =>
    obtain ⟨k, d, hk, rfl, rfl, rfl⟩ := hrel
    by_cases hlt : k < n
    · have hkI : (k : Int) < (n : Int) := by omega
      have HM : Ret 29 #[.int .u64 ((MM.powU x k q : Nat) : Int), .int .u64 (x : Int), .int .u64 (q : Int)] (.int .u64 ((MM.powU x (k + 1) q : Nat) : Int)) := by
        have h := rmulU (MM.powU x k q) x q hx
        have e : MM.mulU (MM.powU x k q) x q = MM.powU x (k + 1) q := by
          by_cases hq : MM.Good q
          · rw [MM.mulU_of hq, MM.powU_of hq, MM.powU_of hq, Nat.pow_succ, MM.mul_mod_left']
          · unfold MM.mulU MM.powU; rw [if_neg hq, if_neg hq]
        rwa [e] at h
      generalize hy : MM.powU x (k + 1) q = y at *
      have HYY := Lib.hid hy
      clear hy
      generalize MM.powU x k q = x0 at *
      go_wp2_with (go_at_call 29; (with_reducible refine (HM.at _).mono ?_); rintro e w' ⟨rfl, nd2, rfl⟩)
      go_roundw
      case rel => exact ⟨k + 1, _, by omega, by go_num, by rw [HYY.out], rfl⟩
      case measure => simp [RowKit.intOf]; omega
    · have hkI : ¬ (k : Int) < (n : Int) := by omega
      obtain rfl : k = n := by omega
      go_wp2_with fail
      go_ret
      exact ⟨rfl, _, rfl⟩
end M
end Go.Proofs.Ytccpdjjgpkkkbaa

/- BivW2: The walks of the program's column, value and row. -/
namespace Go.Proofs.Ytccpdjjgpkkkbaa
open Go Go.RowKit Go.Lib Go.Shelf
namespace M
attribute [local go_sem] Oper.semAt_some
theorem Mine.next {w0 w : World} {B n k : Nat} {z : Nat → Nat} (h : Mine w0 B n (fun j => if j < k then z j else 0) w) : Mine w0 B n (fun j => if j < k + 1 then z j else 0) (w.setCell ⟨B, k, none⟩ (.int .u64 ((z k : Nat) : Int))) := h.set k _ fun j _ => by
  by_cases e : j = k
  · subst e; rw [if_pos (by omega), if_pos rfl]
  · rw [if_neg e]
    by_cases h : j < k
    · rw [if_pos (by omega), if_pos h]
    · rw [if_neg (by omega), if_neg h]
theorem evalP_any (ao : Option Addr) (n cap x q : Nat) (z : Nat → Nat) (hn : n ≤ 1000) (hx : x < 18446744073709551616) (w : World) (hr : Rd w ao n z) :
    Calls Try.prog 20 #[.slice ao n cap, .int .u64 (x : Int), .int .u64 (q : Int)] w fun e w' => e = .returned (.int .u64 ((MM.evalU z x q n : Nat) : Int)) ∧ Below w.heap.size w w' := by
  have := eval_any ao n cap x q z (by omega) hx w hr
  rwa [MM.horn_eval] at this
set_option maxRecDepth 100000 in
set_option maxHeartbeats 4000000 in
theorem col_any (ao : Option Addr) (cap m y q : Nat) (L : Nat → Nat) (F : Nat → Nat → Nat) (hm : m ≤ 1000) (hl : ∀ i, i < m → L i ≤ 1000) (hy : y < 18446744073709551616) (W : World) (hr : Mat W ao m L F) :
    Calls Try.prog 12 #[.slice ao m cap, .int .u64 (y : Int), .int .u64 (q : Int)] W fun e w' => e = .returned (.slice (some ⟨W.heap.size, 0, none⟩) m m) ∧ Mine W W.heap.size m (MM.colP q y L F) w' := by
  have HR := Lib.hid hr
  have HL := Lib.hid hl
  have HM0 := Mine.made W m
  have hmk := run_made m (by omega)
  obtain ⟨W1, hW1⟩ : ∃ W1, W.alloc (.cells (madeCells (Value.int .u64 0).cells (m * 1)) 22) = W1 := ⟨_, rfl⟩
  obtain ⟨B, hB⟩ : ∃ B, W.heap.size = B := ⟨_, rfl⟩
  rw [hW1] at HM0
  rw [hB] at HM0 ⊢
  have hmk0 : (Instr.makeSlice 23 (.int .i64 (m : Int)) (.int .i64 (m : Int))).run Try.prog W = .ok (.slice (some ⟨B, 0, none⟩) m m) W1 := by rw [hmk, hW1, hB]
  have HM1 : Hid (Mine W B m (fun _ => 0) W1) := Lib.hid HM0
  clear hr hl HM0 hmk hW1 hB
  go_enter Try.func12, Try.ntmps12
  go_wp2_with fail
  clear hmk0
  go_loopw [15] (fun s15 wx => ∃ k : Nat, k ≤ m ∧ s15 = .int .i64 (k : Int) ∧ Hid (Mine W B m (fun j => if j < k then MM.colP q y L F j else 0) wx)) (fun s15 _ => m - (RowKit.intOf s15).toNat)
  case atStart => exact ⟨0, Nat.zero_le _, rfl, Lib.hid (HM1.out.congr fun k _ => by simp)⟩
  case round =>
    clear HM1
    obtain ⟨k, hk, rfl, HJ⟩ := hrel
    by_cases hlt : k < m
    · obtain ⟨ad, bo, c, rfl, hc, hs, _⟩ := (HR.out.below HJ.out.below) k hlt
      have HEV := Lib.hid (fun (u : World) (hb : Below wr.heap.size wr u) => evalP_any bo (L k) c y q (F k) (HL.out k hlt) hy u (hs.below hb))
      have HNN := Lib.hid (fun (u : World) (h : Mine W B m (fun j => if j < k then MM.colP q y L F j else 0) u) => h.next)
      change Hid (∀ u : World, Mine W B m (fun j => if j < k then MM.colP q y L F j else 0) u → Mine W B m (fun j => if j < k + 1 then MM.colP q y L F j else 0) (u.setCell ⟨B, k, none⟩ (.int .u64 ((MM.evalU (F k) y q (L k) : Nat) : Int)))) at HNN
      have hk0 : (0 : Int) ≤ (k : Int) := Int.natCast_nonneg _
      have hk1 : (k : Int) < (m : Int) := by omega
      generalize MM.evalU (F k) y q (L k) = x at *
      generalize L k = lk at *
      clear hs
      go_wp2_with (go_at_call 20; refine (HEV.out wr (Below.refl _ _)).mono ?_; rintro e w1 ⟨rfl, hb1⟩; have HJ1 := Lib.hid (HJ.out.step hb1); have hcl1 := HJ1.out.cell hlt; have hfr1 := HJ1.out.free k; clear hb1)
      go_roundw
      case rel => exact ⟨k + 1, by omega, by go_num, Lib.hid (HNN.out _ HJ1.out)⟩
      case measure => simp [RowKit.intOf]; omega
    · obtain rfl : k = m := by omega
      go_wp2_with fail
      go_ret
      exact ⟨rfl, HJ.out.congr fun j hj => by rw [if_pos hj]⟩
set_option maxRecDepth 100000 in
set_option maxHeartbeats 2000000 in
theorem at_any (ao : Option Addr) (cap m x y q : Nat) (L : Nat → Nat) (F : Nat → Nat → Nat) (hm : m ≤ 1000) (hl : ∀ i, i < m → L i ≤ 1000) (hx : x < 18446744073709551616) (hy : y < 18446744073709551616) (W : World) (hr : Mat W ao m L F) :
    Calls Try.prog 10 #[.slice ao m cap, .int .u64 (x : Int), .int .u64 (y : Int), .int .u64 (q : Int)] W fun e w' => e = .returned (.int .u64 ((MM.atP q x y m L F : Nat) : Int)) ∧ Below W.heap.size W w' := by
  have HC := Lib.hid (col_any ao cap m y q L F hm hl hy W hr)
  have HE := Lib.hid (fun (w1 : World) (h : Mine W W.heap.size m (MM.colP q y L F) w1) => evalP_any (some ⟨W.heap.size, 0, none⟩) m m x q (MM.colP q y L F) hm hx w1 h.rd)
  clear hr hl
  change Hid (∀ w1, Mine W W.heap.size m (MM.colP q y L F) w1 → Calls Try.prog 20 #[.slice (some ⟨W.heap.size, 0, none⟩) m m, .int .u64 (x : Int), .int .u64 (q : Int)] w1 fun e w' => e = .returned (.int .u64 ((MM.atP q x y m L F : Nat) : Int)) ∧ Below w1.heap.size w1 w') at HE
  generalize MM.atP q x y m L F = v at *
  go_enter Try.func10, Try.ntmps10
  go_wp2_with (first | (go_at_call 12; refine HC.out.mono ?_; rintro e w1 ⟨rfl, hm1⟩; have H1 := Lib.hid hm1; clear hm1) | (go_at_call 20; refine (HE.out _ H1.out).mono ?_; rintro e w2 ⟨rfl, hb2⟩; have H2 := Lib.hid hb2; clear hb2))
  go_ret
  exact ⟨rfl, H1.out.below.trans (H2.out.mono H1.out.below.size)⟩
set_option maxRecDepth 100000 in
set_option maxHeartbeats 8000000 in
theorem row_any (ao : Option Addr) (cap m x q : Nat) (L : Nat → Nat) (F : Nat → Nat → Nat) (hm : m ≤ 1000) (hl : ∀ i, i < m → L i ≤ 1000) (hF : ∀ i j, F i j < 18446744073709551616) (hx : x < 18446744073709551616) (W : World) (hr : Mat W ao m L F) :
    Calls Try.prog 11 #[.slice ao m cap, .int .u64 (x : Int), .int .u64 (q : Int)] W fun e w' => e = .returned (.slice (some ⟨W.heap.size, 0, none⟩) (MM.widU L m) (MM.widU L m)) ∧ Mine W W.heap.size (MM.widU L m) (fun j => MM.rowP q x L F j m) w' := by
  have HR := Lib.hid hr
  have HL := Lib.hid hl
  have HF := Lib.hid hF
  have HLO := Lib.hid (longest_any ao cap m L F hm hl W hr)
  have HLE := Lib.hid (fun i (h : i < m) => MM.le_widU (L := L) h)
  have hN := MM.widU_le m hl
  generalize MM.widU L m = N at *
  have HM0 := Mine.made W N
  have hmk := run_made N (by omega)
  obtain ⟨W1, hW1⟩ : ∃ W1, W.alloc (.cells (madeCells (Value.int .u64 0).cells (N * 1)) 22) = W1 := ⟨_, rfl⟩
  obtain ⟨B, hB⟩ : ∃ B, W.heap.size = B := ⟨_, rfl⟩
  rw [hW1] at HM0
  rw [hB] at HM0 ⊢
  have hmk0 : (Instr.makeSlice 23 (.int .i64 (N : Int)) (.int .i64 (N : Int))).run Try.prog W = .ok (.slice (some ⟨B, 0, none⟩) N N) W1 := by rw [hmk, hW1, hB]
  have HM1 : Hid (Mine W B N (fun _ => 0) W1) := Lib.hid HM0
  clear hr hl hF HM0 hmk hW1 hB
  go_enter Try.func11, Try.ntmps11
  go_wp2_with (go_at_call 24; refine HLO.out.mono ?_; rintro e w1 ⟨rfl, rfl⟩)
  clear hmk0 HLO
  go_loopw [8, 18] (fun s8 s18 wx => ∃ k : Nat, k ≤ m ∧ s18 = .int .i64 (k : Int) ∧ s8 = .int .u64 ((MM.pwr x q k : Nat) : Int) ∧ Hid (Mine W B N (fun j => MM.rowP q x L F j k) wx)) (fun _ s18 _ => m - (RowKit.intOf s18).toNat)
  case atStart => exact ⟨0, Nat.zero_le _, rfl, rfl, HM1⟩
  case round =>
    clear HM1
    obtain ⟨k, hk, rfl, rfl, HJ⟩ := hrel
    obtain ⟨wo, hwo⟩ : ∃ wo : World, wo = wr := ⟨_, rfl⟩
    subst hwo
    by_cases hlt : k < m
    · obtain ⟨ad, bo, c, rfl, hc0, hs, _⟩ := HR.out k hlt
      have hc := (HJ.out.below.cell (World.block_lt_of_cell? W _ hc0)).trans hc0
      have hlk := HL.out k hlt
      have hlw := HLE.out k hlt
      obtain ⟨pn, hpn⟩ : ∃ pn, MM.pwr x q (k + 1) = pn := ⟨_, rfl⟩
      have HPN := Lib.hid hpn
      have HPW := Lib.hid (show MM.mulU (MM.pwr x q k) x q = pn from hpn)
      have HPM := ret_mulU (MM.pwr x q k) x q (MM.pwr_lt x q k) hx
      have HPL := MM.pwr_lt x q k
      have HCE := Lib.hid (fun c => MM.pwr_mul c x q k)
      have HS := Lib.hid (fun (u : World) (hb : Below W.heap.size W u) => (hs.below hb : Rd u bo (L k) (F k)))
      have HKE := Lib.hid (MM.rowK_end q x L F k)
      have HJ0 : Hid (Mine W B N (MM.rowK q x L F k 0) wo) := Lib.hid (HJ.out.congr fun j _ => (MM.rowK_zero q x L F k j).symm)
      rw [HPW.out] at HPM
      clear hpn
      generalize MM.pwr x q k = pk at *
      generalize L k = lk at *
      clear hs HJ HPW hc0
      go_wp2_with fail
      clear hc
      go_loopw [24] (fun s24 wx => ∃ j : Nat, j ≤ lk ∧ s24 = .int .i64 (j : Int) ∧ Hid (Mine W B N (MM.rowK q x L F k j) wx)) (fun s24 _ => lk - (RowKit.intOf s24).toNat)
      case atStart => exact ⟨0, Nat.zero_le _, rfl, HJ0⟩
      case round =>
        clear HJ0
        obtain ⟨j, hj, rfl, HI⟩ := hrel
        by_cases hlj : j < lk
        · obtain ⟨bd, rfl, hcb⟩ := (HS.out _ HI.out.below).at_ hlj
          go_upto_region 9 with fail
          clear hcb
          have HNN : Hid (∀ nq, Mine W B N (MM.rowK q x L F k (j + 1)) ((wr.drewN nq).setCell ⟨B, j, none⟩ (.int .u64 ((MM.addU (MM.rowK q x L F k j j) (MM.mulU (F k j) pk q) q : Nat) : Int)))) := Lib.hid fun nq => (HI.out.drewN nq).set j _ fun i hi => by rw [MM.rowK_step, HCE.out]
          have hcl : wr.cell? ⟨B, j, none⟩ = some (.int .u64 ((MM.rowK q x L F k j j : Nat) : Int)) := HI.out.cell (by omega)
          have hfr : wr.frozen? ⟨B, j, none⟩ = false := HI.out.free j
          have HM := ret_mulU (F k j) pk q (HF.out k j) HPL
          have HA := ret_addU (MM.rowK q x L F k j j) (MM.mulU (F k j) pk q) q
          generalize MM.mulU (F k j) pk q = x1 at *
          generalize MM.addU (MM.rowK q x L F k j j) x1 q = x2 at *
          generalize MM.rowK q x L F k j j = x0 at *
          have hj0 : (0 : Int) ≤ (j : Int) := Int.natCast_nonneg _
          have hj1 : (j : Int) < (N : Int) := by omega
          refine QT.region 13 (by kernel_rfl) (by kernel_rfl) ?_
          simp only [List.take_succ_cons, List.take_zero, List.drop_succ_cons, List.drop_zero]
          repeat (quiet_step ((first | (go_at_call 27; exact (HM).quiet) | (go_at_call 26; exact (HA).quiet))))
          refine wpQuiet_nil ?_
          intro nq
          go_wp2_with fail
          clear hj0 hj1 hcl hfr HM HA
          go_roundw
          case rel => exact ⟨j + 1, by omega, by go_num, Lib.hid (HNN.out nq)⟩
          case measure => simp [RowKit.intOf]; omega
        · obtain rfl : j = lk := by omega
          go_wp2_with (go_at_call 27; (with_reducible refine (HPM.at _).mono ?_); rintro e w' ⟨rfl, nd, rfl⟩)
          go_roundw
          case rel => exact ⟨k + 1, by omega, by go_num, by rw [HPN.out], Lib.hid ((HI.out.drewN _).congr fun i _ => HKE.out i)⟩
          case measure => simp [RowKit.intOf]; omega
    · obtain rfl : k = m := by omega
      go_wp2_with fail
      go_ret
      exact ⟨rfl, HJ.out⟩
end M
end Go.Proofs.Ytccpdjjgpkkkbaa

/- BivR1: The walks of the document's own value, row, column, of what turns a polynomial about, and of what compares (consistoryref06). -/
namespace Go.Proofs.Ytccpdjjgpkkkbaa
open Go Go.RowKit Go.Lib
namespace M
set_option maxRecDepth 100000 in
set_option maxHeartbeats 8000000 in
theorem rat_any (ao : Option Addr) (cap m x y q : Nat) (L : Nat → Nat) (F : Nat → Nat → Nat) (hm : m ≤ 1000) (hl : ∀ i, i < m → L i ≤ 1000) (hx : x < 18446744073709551616) (hy : y < 18446744073709551616) (W : World) (hr : Mat W ao m L F) :
    Calls Try.prog 16 #[.slice ao m cap, .int .u64 (x : Int), .int .u64 (y : Int), .int .u64 (q : Int)] W fun e w' => e = .returned (.int .u64 ((MM.atP q x y m L F : Nat) : Int)) ∧ ∃ d, w' = W.drewN d := by
  rw [← MM.atR_eq]
  have HR := Lib.hid hr
  have HL := Lib.hid hl
  clear hr hl
  go_enter Try.func16, Try.ntmps16
  go_wp2_with fail
  go_loopw [9, 10] (fun s9 s10 wx => ∃ k d : Nat, k ≤ m ∧ s10 = .int .i64 (k : Int) ∧ s9 = .int .u64 ((MM.atR q x y L F k : Nat) : Int) ∧ wx = W.drewN d) (fun _ s10 _ => m - (RowKit.intOf s10).toNat)
  case atStart => exact ⟨0, 0, Nat.zero_le _, rfl, rfl, rfl⟩
  case round =>
    obtain ⟨k, d, hk, rfl, rfl, hwr⟩ := hrel
    obtain ⟨wo, hwo⟩ : ∃ wo : World, wo = wr := ⟨_, rfl⟩
    subst hwo
    have HWO := Lib.hid hwr
    clear hwr
    by_cases hlt : k < m
    · obtain ⟨ad, bo, c, rfl, hc0, hs, _⟩ := HR.out k hlt
      have hkI : (k : Int) < (m : Int) := by omega
      have hk0 : (0 : Int) ≤ (k : Int) := Int.natCast_nonneg _
      have HC := Lib.hid (fun d => (show (W.drewN d).cell? (ad.add k) = some (.slice bo (L k) c) from hc0))
      have HS := Lib.hid (hs : Rd W bo (L k) (F k))
      have hlk := HL.out k hlt
      obtain ⟨an, han⟩ : ∃ an, MM.atR q x y L F (k + 1) = an := ⟨_, rfl⟩
      have HAN := Lib.hid han
      have HA : Hid (MM.atI q x y F k (MM.atR q x y L F k) (L k) = an) := Lib.hid han
      clear han
      have HP1 := rpower_any x k q hx (by omega)
      generalize MM.atR q x y L F k = a0 at *
      generalize L k = lk at *
      clear hc0 hs
      go_wp2_with fail
      go_loopw [9, 11] (fun s9 s11 wx => ∃ j d : Nat, j ≤ lk ∧ s11 = .int .i64 (j : Int) ∧ s9 = .int .u64 ((MM.atI q x y F k a0 j : Nat) : Int) ∧ wx = W.drewN d) (fun _ s11 _ => lk - (RowKit.intOf s11).toNat)
      case atStart => exact ⟨0, d, Nat.zero_le _, rfl, rfl, HWO.out⟩
      case round =>
        clear HWO
        obtain ⟨j, e, hj, rfl, rfl, hwr⟩ := hrel
        have hcw : wr.cell? (ad.add k) = some (.slice bo lk c) := by rw [hwr]; exact HC.out e
        by_cases hlj : j < lk
        · obtain ⟨bd, rfl, hcb⟩ := HS.out.at_ hlj
          have hcx : wr.cell? (bd.add j) = some (.int .u64 ((F k j : Nat) : Int)) := by rw [hwr]; exact hcb
          have hj0 : (0 : Int) ≤ (j : Int) := Int.natCast_nonneg _
          have hjI : (j : Int) < (lk : Int) := by omega
          have HP2 := rpower_any y j q hy (by omega)
          have HM1 := rmulU (MM.powU x k q) (MM.powU y j q) q (MM.powU_lt _ _ _)
          have HM2 := rmulU (F k j) (MM.mulU (MM.powU x k q) (MM.powU y j q) q) q (MM.mulU_lt _ _ _)
          have HAD := raddU (MM.atI q x y F k a0 j) (MM.mulU (F k j) (MM.mulU (MM.powU x k q) (MM.powU y j q) q) q) q
          have HST : Hid (MM.addU (MM.atI q x y F k a0 j) (MM.mulU (F k j) (MM.mulU (MM.powU x k q) (MM.powU y j q) q) q) q = MM.atI q x y F k a0 (j + 1)) := Lib.hid rfl
          rw [HST.out] at HAD
          replace HST : Hid (MM.atI q x y F k a0 (j + 1) = MM.atI q x y F k a0 (j + 1)) := Lib.hid rfl
          obtain ⟨a2, ha2⟩ : ∃ a2, MM.atI q x y F k a0 (j + 1) = a2 := ⟨_, rfl⟩
          replace HST := Lib.hid ha2
          rw [ha2] at HAD
          clear ha2
          generalize MM.atI q x y F k a0 j = a1 at *
          generalize MM.mulU (F k j) (MM.mulU (MM.powU x k q) (MM.powU y j q) q) q = t2 at *
          generalize MM.mulU (MM.powU x k q) (MM.powU y j q) q = t1 at *
          generalize MM.powU x k q = p1 at *
          generalize MM.powU y j q = p2 at *
          have HWR := Lib.hid hwr
          clear hwr hcb
          go_upto_region 8 with fail
          go_quiet ((first | (go_at_call 30; first | (with_reducible exact HP1.quiet) | (with_reducible exact HP2.quiet)) | (go_at_call 29; first | (with_reducible exact HM1.quiet) | (with_reducible exact HM2.quiet))))
          go_wp2_with (go_at_call 31; (with_reducible refine (HAD.at _).mono ?_); rintro e w' ⟨rfl, nd, rfl⟩)
          go_roundw
          case rel => exact ⟨j + 1, _, by omega, by go_num, by rw [HST.out], by rw [HWR.out]; exact World.drewN_drewN _ _ _⟩
          case measure => simp [RowKit.intOf]; omega
        · have hjI : ¬ (j : Int) < (lk : Int) := by omega
          obtain rfl : j = lk := by omega
          have HWR := Lib.hid hwr
          clear hwr
          go_wp2_with fail
          go_roundw
          case rel => exact ⟨k + 1, _, by omega, by go_num, by rw [HA.out, HAN.out], HWR.out⟩
          case measure => simp [RowKit.intOf]; omega
    · have hkI : ¬ (k : Int) < (m : Int) := by omega
      obtain rfl : k = m := by omega
      go_wp2_with fail
      go_ret
      exact ⟨rfl, d, HWO.out⟩
set_option maxRecDepth 100000 in
set_option maxHeartbeats 2000000 in
theorem rnums_yes (ao bo : Option Addr) (n ca cb : Nat) (z : Nat → Nat) (hn : n ≤ 9223372036854775807) (W : World) (ha : Rd W ao n z) (hb : Rd W bo n z) :
    Calls Try.prog 13 #[.slice ao n ca, .slice bo n cb] W fun e w' => e = .returned (.bool true) ∧ ∃ d, w' = W.drewN d := by
  have HA := Lib.hid ha
  have HB := Lib.hid hb
  clear ha hb
  go_enter Try.func13, Try.ntmps13
  go_wp2_with fail
  go_loopw [5] (fun s5 wx => ∃ k m : Nat, k ≤ n ∧ s5 = .int .i64 (k : Int) ∧ wx = W.drewN m) (fun s5 _ => n - (RowKit.intOf s5).toNat)
  case atStart => exact ⟨0, 0, Nat.zero_le _, rfl, rfl⟩
  case round =>
    obtain ⟨k, m, hk, rfl, rfl⟩ := hrel
    by_cases hlt : k < n
    · obtain ⟨ad, rfl, hc⟩ := HA.out.at_ hlt
      obtain ⟨bd, rfl, hd⟩ := HB.out.at_ hlt
      go_upto_region 6 with fail
      generalize hwr : W.drewN m = wr
      have hcell : wr.cell? (ad.add k) = some (.int .u64 ((z k : Nat) : Int)) := by rw [← hwr]; exact hc
      have hdell : wr.cell? (bd.add k) = some (.int .u64 ((z k : Nat) : Int)) := by rw [← hwr]; exact hd
      have HWR := Lib.hid hwr
      clear hwr hc hd
      have hk0 : (0 : Int) ≤ (k : Int) := Int.natCast_nonneg _
      have hk1 : (k : Int) < (n : Int) := by omega
      go_quiet (fail)
      go_wp2_with fail
      go_roundw
      case rel => exact ⟨k + 1, _, by omega, by go_num, by rw [← HWR.out]; exact World.drewN_drewN _ _ _⟩
      case measure => simp [RowKit.intOf]; omega
    · obtain rfl : k = n := by omega
      go_wp2_with fail
      go_ret
      exact ⟨rfl, _, rfl⟩
set_option maxRecDepth 100000 in
set_option maxHeartbeats 2000000 in
theorem rpolys_yes (ao bo : Option Addr) (m ca cb : Nat) (L : Nat → Nat) (F : Nat → Nat → Nat) (hm : m ≤ 1000000) (hl : ∀ i, i < m → L i ≤ 1000) (W : World) (ha : Mat W ao m L F) (hb : Mat W bo m L F) :
    Calls Try.prog 9 #[.slice ao m ca, .slice bo m cb] W fun e w' => e = .returned (.bool true) ∧ ∃ d, w' = W.drewN d := by
  have HA := Lib.hid ha
  have HB := Lib.hid hb
  have HL := Lib.hid hl
  clear ha hb hl
  go_enter Try.func9, Try.ntmps9
  go_wp2_with fail
  go_loopw [5] (fun s5 wx => ∃ k d : Nat, k ≤ m ∧ s5 = .int .i64 (k : Int) ∧ wx = W.drewN d) (fun s5 _ => m - (RowKit.intOf s5).toNat)
  case atStart => exact ⟨0, 0, Nat.zero_le _, rfl, rfl⟩
  case round =>
    obtain ⟨k, d, hk, rfl, rfl⟩ := hrel
    by_cases hlt : k < m
    · obtain ⟨ad, a1, c1, rfl, hc, hs, _⟩ := HA.out k hlt
      obtain ⟨bd, b1, c2, rfl, hd, ht, _⟩ := HB.out k hlt
      have hlk := HL.out k hlt
      go_upto_region 6 with fail
      generalize hwr : W.drewN d = wr
      have hcell : wr.cell? (ad.add k) = some (.slice a1 (L k) c1) := by rw [← hwr]; exact hc
      have hdell : wr.cell? (bd.add k) = some (.slice b1 (L k) c2) := by rw [← hwr]; exact hd
      have HN := Lib.hid (fun e => rnums_yes a1 b1 (L k) c1 c2 (F k) (by omega) (wr.drewN e) (by rw [← hwr]; exact hs) (by rw [← hwr]; exact ht))
      have HWR := Lib.hid hwr
      generalize L k = lk at *
      clear hwr hc hd hs ht
      have hk0 : (0 : Int) ≤ (k : Int) := Int.natCast_nonneg _
      have hk1 : (k : Int) < (m : Int) := by omega
      go_quiet ((go_at_call 13; exact Calls.quiet_of (HN.out _)))
      go_wp2_with fail
      go_roundw
      case rel => exact ⟨k + 1, _, by omega, by go_num, by rw [← HWR.out]; exact World.drewN_drewN _ _ _⟩
      case measure => simp [RowKit.intOf]; omega
    · obtain rfl : k = m := by omega
      go_wp2_with fail
      go_ret
      exact ⟨rfl, _, rfl⟩
end M
end Go.Proofs.Ytccpdjjgpkkkbaa

/- BivR2: The walks of the document's own row, of what turns a polynomial about, and of its column (consistoryref06). -/
namespace Go.Proofs.Ytccpdjjgpkkkbaa
open Go Go.RowKit Go.Lib
namespace M
section
variable {w0 w w' : World} {B k : Nat} {v : Value} {z : Nat → Nat}
/-- One number more behind a row of the call's own. -/
theorem Own.push (h : Own w0 B v k z w) (c : Nat) (hk : k ≤ 900000) :
    ∃ v' w', (Builtin.append_ #[23, 23] 23 #[v, .slice (some ⟨w.heap.size, 0, none⟩) 1 c]).run Try.prog (w.alloc (.cells #[.int .u64 ((z k : Nat) : Int)] 22)) = .ok v' w' ∧ Own w0 B v' (k + 1) z w' := by
  obtain ⟨i0, hi, hz0, hz1, hz2⟩ := info_parts info_u64
  have ha := h.alloc (.cells #[.int .u64 ((z k : Nat) : Int)] 22)
  obtain ⟨v', w', hr, ho, hg, _⟩ := run_append_own (P := Try.prog) _ B 23 23 22 i0 (.int .u64 0) 1 8 Try.underlying23 hi hz0 hz1 hz2 rfl (by decide) v k (zlist k z) ha.own ⟨w.heap.size, 0, none⟩ 1 c [.int .u64 ((z k : Nat) : Int)] rfl (fun j u hj => by
    have hl := (List.getElem?_eq_some_iff.1 hj).1
    obtain rfl : j = 0 := by simpa using hl
    cases hj
    rw [add_zero', cell_of_row _ _ _ _ _ _ (heap_alloc_new w _)]; rfl) (by simp [Value.oneCell']) (by unfold maxLen; omega) (by omega) ha.size
  exact ⟨v', w', hr, ha.grow ho (zlist_succ k z) hg⟩
theorem run_made_cap (n : Nat) (hn : n ≤ 1000000000) (w : World) :
    (Instr.makeSlice 23 (.int .i64 0) (.int .i64 (n : Int))).run Try.prog w = .ok (.slice (some ⟨w.heap.size, 0, none⟩) 0 n) (w.alloc (.cells (madeCells (Value.int .u64 0).cells (n * 1)) 22)) := by
  obtain ⟨i0, hi, hz0, hz1, hz2⟩ := info_parts info_u64
  have hr := run_make (P := Try.prog) w 23 22 i0 (.int .u64 0) Try.underlying23 hi hz0 .i64 .i64 (0 : Nat) n (by omega) (by omega) (by rw [hz2]; omega) (by omega)
  simp only [Int.toNat_natCast, hz1] at hr
  exact hr
theorem Own.made0 (w : World) (n : Nat) (hn : n ≤ 1000000000) (z : Nat → Nat) : Own w w.heap.size (.slice (some ⟨w.heap.size, 0, none⟩) 0 n) 0 z (w.alloc (.cells (madeCells (Value.int .u64 0).cells (n * 1)) 22)) :=
  ⟨World.ownsRow_made w _ n (Nat.le_refl _) (by unfold maxLen; omega) (by rw [size_madeCells]), by simp, Nat.le_refl _, below_box _ _⟩
/-- A row is copied behind an empty one of the call's own. -/
theorem Own.copy (h : Own w0 B v 0 z w) {ao : Option Addr} {n c : Nat} (hn : n ≤ 1000) (hs : SrcN w ao n c z) :
    ∃ v' w', (Builtin.append_ #[23, 23] 23 #[v, .slice ao n c]).run Try.prog w = .ok v' w' ∧ Own w0 B v' n z w' := by
  obtain ⟨i0, hi, hz0, hz1, hz2⟩ := info_parts info_u64
  cases ao with
  | none =>
    obtain ⟨rfl, rfl⟩ := hs.2 rfl
    exact ⟨v, w, run_append_owned_none (P := Try.prog) w B 23 23 22 i0 1 Try.underlying23 hi v 0 (zlist 0 z) h.own, h⟩
  | some a =>
    obtain ⟨v', w', hr, ho, hg, _⟩ := run_append_own (P := Try.prog) w B 23 23 22 i0 (.int .u64 0) 1 8 Try.underlying23 hi hz0 hz1 hz2 rfl (by decide) v 0 (zlist 0 z) h.own a n c (zlist n z) (zlist_len n z) (fun j u hj => by
      have hl := (List.getElem?_eq_some_iff.1 hj).1
      rw [zlist_len] at hl
      obtain ⟨ad, e, hr⟩ := hs.1 (by omega)
      cases e
      exact zlist_cells hr j u hj) (zlist_one n z) (by unfold maxLen; omega) (by omega) h.size
    rw [Nat.zero_add] at ho
    exact ⟨v', w', hr, h.grow ho (by simp [zlist]) hg⟩
end
set_option maxRecDepth 100000 in
set_option maxHeartbeats 8000000 in
theorem rrow_any (ao : Option Addr) (cap m x q : Nat) (L : Nat → Nat) (F : Nat → Nat → Nat) (hm : m ≤ 1000) (hl : ∀ i, i < m → L i ≤ 1000) (hx : x < 18446744073709551616) (W : World) (hr : Mat W ao m L F) :
    Calls Try.prog 17 #[.slice ao m cap, .int .u64 (x : Int), .int .u64 (q : Int)] W fun e w' => e = .returned (.slice (some ⟨W.heap.size, 0, none⟩) (MM.widU L m) (MM.widU L m)) ∧ Mine W W.heap.size (MM.widU L m) (fun j => MM.rowP q x L F j m) w' := by
  have HR := Lib.hid hr
  have HL := Lib.hid hl
  have HLO := Lib.hid (wide_any ao cap m L F (by omega) (fun i h => Nat.le_trans (hl i h) (by omega)) W hr)
  have HLE := Lib.hid (fun i (h : i < m) => MM.le_widU (L := L) h)
  have hN := MM.widU_le m hl
  generalize MM.widU L m = N at *
  have HM0 := Mine.made W N
  have hmk := run_made N (by omega)
  obtain ⟨W1, hW1⟩ : ∃ W1, W.alloc (.cells (madeCells (Value.int .u64 0).cells (N * 1)) 22) = W1 := ⟨_, rfl⟩
  obtain ⟨B, hB⟩ : ∃ B, W.heap.size = B := ⟨_, rfl⟩
  rw [hW1] at HM0
  rw [hB] at HM0 ⊢
  have hmk0 : (Instr.makeSlice 23 (.int .i64 (N : Int)) (.int .i64 (N : Int))).run Try.prog W = .ok (.slice (some ⟨B, 0, none⟩) N N) W1 := by rw [hmk, hW1, hB]
  have HM1 : Hid (Mine W B N (fun _ => 0) W1) := Lib.hid HM0
  clear hr hl HM0 hmk hW1 hB
  go_enter Try.func17, Try.ntmps17
  go_wp2_with (go_at_call 28; refine HLO.out.mono ?_; rintro e w1 ⟨rfl, rfl⟩)
  clear hmk0 HLO
  go_loopw [8] (fun s8 wx => ∃ k : Nat, k ≤ m ∧ s8 = .int .i64 (k : Int) ∧ Hid (Mine W B N (fun j => MM.rowP q x L F j k) wx)) (fun s8 _ => m - (RowKit.intOf s8).toNat)
  case atStart => exact ⟨0, Nat.zero_le _, rfl, HM1⟩
  case round =>
    clear HM1
    obtain ⟨k, hk, rfl, HJ⟩ := hrel
    obtain ⟨wo, hwo⟩ : ∃ wo : World, wo = wr := ⟨_, rfl⟩
    subst hwo
    by_cases hlt : k < m
    · obtain ⟨ad, bo, c, rfl, hc0, hs, _⟩ := HR.out k hlt
      have hkI : (k : Int) < (m : Int) := by omega
      have hk0 : (0 : Int) ≤ (k : Int) := Int.natCast_nonneg _
      have HC := Lib.hid (fun (u : World) (hb : Below W.heap.size W u) => (hb.cell (World.block_lt_of_cell? W _ hc0)).trans hc0)
      have hlk := HL.out k hlt
      have hlw := HLE.out k hlt
      have HP := rpower_any x k q hx (by omega)
      have HS := Lib.hid (fun (u : World) (hb : Below W.heap.size W u) => (hs.below hb : Rd u bo (L k) (F k)))
      have HKE := Lib.hid (MM.rowK_end q x L F k)
      have HJ0 : Hid (Mine W B N (MM.rowK q x L F k 0) wo) := Lib.hid (HJ.out.congr fun j _ => (MM.rowK_zero q x L F k j).symm)
      have HPL := MM.powU_lt x k q
      have HKS := Lib.hid (fun j i => MM.rowK_step q x L F k j i)
      generalize MM.powU x k q = pk at *
      generalize L k = lk at *
      clear hs HJ hc0
      go_wp2_with fail
      go_loopw [9] (fun s9 wx => ∃ j : Nat, j ≤ lk ∧ s9 = .int .i64 (j : Int) ∧ Hid (Mine W B N (MM.rowK q x L F k j) wx)) (fun s9 _ => lk - (RowKit.intOf s9).toNat)
      case atStart => exact ⟨0, Nat.zero_le _, rfl, HJ0⟩
      case round =>
        clear HJ0
        obtain ⟨j, hj, rfl, HI⟩ := hrel
        have hc := HC.out _ HI.out.below
        by_cases hlj : j < lk
        · obtain ⟨bd, rfl, hcb⟩ := (HS.out _ HI.out.below).at_ hlj
          have hjI : (j : Int) < (lk : Int) := by omega
          have hj0 : (0 : Int) ≤ (j : Int) := Int.natCast_nonneg _
          go_upto_region 8 with fail
          have HNN : Hid (∀ nq, Mine W B N (MM.rowK q x L F k (j + 1)) ((wr.drewN nq).setCell ⟨B, j, none⟩ (.int .u64 ((MM.addU (MM.rowK q x L F k j j) (MM.mulU (F k j) pk q) q : Nat) : Int)))) := Lib.hid fun nq => (HI.out.drewN nq).set j _ fun i hi => HKS.out j i
          have hcl : wr.cell? ⟨B, j, none⟩ = some (.int .u64 ((MM.rowK q x L F k j j : Nat) : Int)) := HI.out.cell (by omega)
          have hfr : wr.frozen? ⟨B, j, none⟩ = false := HI.out.free j
          have HM := rmulU (F k j) pk q HPL
          have HA := raddU (MM.rowK q x L F k j j) (MM.mulU (F k j) pk q) q
          generalize MM.mulU (F k j) pk q = x1 at *
          generalize MM.addU (MM.rowK q x L F k j j) x1 q = x2 at *
          generalize MM.rowK q x L F k j j = x0 at *
          have hj1 : (j : Int) < (N : Int) := by omega
          refine QT.region 22 (by kernel_rfl) (by kernel_rfl) ?_
          simp only [List.take_succ_cons, List.take_zero, List.drop_succ_cons, List.drop_zero]
          repeat (quiet_step ((first | (go_at_call 30; exact (HP).quiet) | (go_at_call 29; exact (HM).quiet) | (go_at_call 31; exact (HA).quiet))))
          refine wpQuiet_nil ?_
          intro nq
          go_wp2_with fail
          clear hj0 hj1 hcl hfr HM HA
          go_roundw
          case rel => exact ⟨j + 1, by omega, by go_num, Lib.hid (HNN.out nq)⟩
          case measure => simp [RowKit.intOf]; omega
        · have hjI : ¬ (j : Int) < (lk : Int) := by omega
          obtain rfl : j = lk := by omega
          go_wp2_with fail
          go_roundw
          case rel => exact ⟨k + 1, by omega, by go_num, Lib.hid (HI.out.congr fun i _ => HKE.out i)⟩
          case measure => simp [RowKit.intOf]; omega
    · have hkI : ¬ (k : Int) < (m : Int) := by omega
      obtain rfl : k = m := by omega
      go_wp2_with fail
      go_ret
      exact ⟨rfl, HJ.out⟩
set_option maxRecDepth 100000 in
set_option maxHeartbeats 8000000 in
theorem rturned_any (ao : Option Addr) (cap m : Nat) (L : Nat → Nat) (F : Nat → Nat → Nat) (hm : m ≤ 1000) (hl : ∀ i, i < m → L i ≤ 1000) (W : World) (hr : Mat W ao m L F) :
    Calls Try.prog 21 #[.slice ao m cap] W fun e w' => ∃ v, e = .returned v ∧ OwnR W W.heap.size v (MM.widU L m) (fun _ => m) (MM.trn L F) w' := by
  have HR := Lib.hid hr
  have HL := Lib.hid hl
  have HLO := Lib.hid (fun (u : World) (hb : Below W.heap.size W u) => wide_any ao cap m L F (by omega) (fun i h => Nat.le_trans (hl i h) (by omega)) u (hr.below hb))
  have HLE := Lib.hid (fun i (h : i < m) => MM.le_widU (L := L) h)
  have hN := MM.widU_le m hl
  generalize MM.widU L m = N at *
  clear hr hl
  go_enter Try.func21, Try.ntmps21
  go_wp2_with fail
  go_loopw [3, 4] (fun s3 s4 wx => ∃ j : Nat, j ≤ N ∧ s4 = .int .i64 (j : Int) ∧ Hid (OwnR W W.heap.size s3 j (fun _ => m) (MM.trn L F) wx)) (fun _ s4 _ => N - (RowKit.intOf s4).toNat)
  case atStart => exact ⟨0, Nat.zero_le _, rfl, Lib.hid (OwnR.start W _ _)⟩
  case round =>
    obtain ⟨j, hj, rfl, HJ⟩ := hrel
    obtain ⟨wo, hwo⟩ : ∃ wo : World, wo = wr := ⟨_, rfl⟩
    subst hwo
    have HW := HLO.out _ HJ.out.below
    by_cases hlt : j < N
    · have hjI : (j : Int) < (N : Int) := by omega
      have hj0 : (0 : Int) ≤ (j : Int) := Int.natCast_nonneg _
      go_wp2_with (go_at_call 28; refine HW.mono ?_; rintro e w1 ⟨rfl, rfl⟩)
      clear HW
      go_loopw [5, 6] (fun s5 s6 wx => ∃ i : Nat, i ≤ m ∧ s6 = .int .i64 (i : Int) ∧ Hid (Own wo wo.heap.size s5 i (MM.trn L F j) wx)) (fun _ s6 _ => m - (RowKit.intOf s6).toNat)
      case atStart => exact ⟨0, Nat.zero_le _, rfl, Lib.hid (Own.start wo _)⟩
      case round =>
        obtain ⟨i, hi, rfl, HI⟩ := hrel
        by_cases hli : i < m
        · have hBl := HJ.out.below.trans (HI.out.below.mono HJ.out.below.size)
          obtain ⟨ad, bo, c, rfl, hc, hs, _⟩ := (HR.out.below hBl) i hli
          have hiI : (i : Int) < (m : Int) := by omega
          have hi0 : (0 : Int) ≤ (i : Int) := Int.natCast_nonneg _
          have hlk := HL.out i hli
          obtain ⟨v2, w2, hr2, ho2⟩ := HI.out.push 1 (by omega)
          have HO := Lib.hid ho2
          have HT : Hid (MM.trn L F j i = if j < L i then F i j else 0) := Lib.hid rfl
          clear ho2 hBl
          generalize MM.trn L F j i = x at *
          by_cases hb : j < L i
          · obtain ⟨bd, rfl, hcb⟩ := hs.at_ hb
            have hbI : (j : Int) < (L i : Int) := by omega
            rw [if_pos hb] at HT
            obtain rfl := HT.out
            generalize L i = li at *
            clear hs HT
            go_wp2_with (at_builtin; refine Lib.wpList_append_run _ rfl _ _ _ _ rfl _ _ rfl rfl _ _ hr2 ?_)
            go_roundw
            case rel => exact ⟨i + 1, by omega, by go_num, HO⟩
            case measure => simp [RowKit.intOf]; omega
          · have hbI : ¬ (j : Int) < (L i : Int) := by omega
            rw [if_neg hb] at HT
            obtain rfl := HT.out
            generalize L i = li at *
            clear hs HT
            change (Builtin.append_ #[23, 23] 23 #[_, .slice (some ⟨wr.heap.size, 0, none⟩) 1 1]).run Try.prog (wr.alloc (.cells #[.int .u64 0] 22)) = _ at hr2
            go_wp2_with (at_builtin; refine Lib.wpList_append_run _ rfl _ _ _ _ rfl _ _ rfl rfl _ _ hr2 ?_)
            go_roundw
            case rel => exact ⟨i + 1, by omega, by go_num, HO⟩
            case measure => simp [RowKit.intOf]; omega
        · have hiI : ¬ (i : Int) < (m : Int) := by omega
          obtain rfl : i = m := by omega
          have hro := (RowC.of_own HI.out.own).mono HJ.out.size
          obtain ⟨bo5, c5, rfl, _⟩ := hro.src
          obtain ⟨v3, w3, hr3, ho3⟩ := (HJ.out.step HI.out.below).more 1 hro (by omega)
          have HO := Lib.hid ho3
          clear ho3 hro
          go_wp2_with (at_builtin; refine Lib.wpList_append_run _ rfl _ _ _ _ rfl _ _ rfl rfl _ _ hr3 ?_)
          go_roundw
          case rel => exact ⟨j + 1, by omega, by go_num, HO⟩
          case measure => simp [RowKit.intOf]; omega
    · have hjI : ¬ (j : Int) < (N : Int) := by omega
      obtain rfl : j = N := by omega
      go_wp2_with (go_at_call 28; refine HW.mono ?_; rintro e w1 ⟨rfl, rfl⟩)
      go_ret
      exact ⟨_, rfl, HJ.out⟩
set_option maxRecDepth 100000 in
set_option maxHeartbeats 4000000 in
theorem rcol_any (ao : Option Addr) (cap m y q : Nat) (L : Nat → Nat) (F : Nat → Nat → Nat) (hm : m ≤ 1000) (hl : ∀ i, i < m → L i ≤ 1000) (hy : y < 18446744073709551616) (W : World) (hr : Mat W ao m L F) :
    Calls Try.prog 18 #[.slice ao m cap, .int .u64 (y : Int), .int .u64 (q : Int)] W fun e w' => ∃ v, e = .returned v ∧ Own W W.heap.size v m (MM.colP q y L F) w' := by
  have HT := Lib.hid (rturned_any ao cap m L F hm hl W hr)
  have hN := MM.widU_le m hl
  have HB : Hid (∀ (u : World) (ao2 : Option Addr) (c2 : Nat), Below W.heap.size W u → Mat u ao2 (MM.widU L m) (fun _ => m) (MM.trn L F) → Calls Try.prog 17 #[.slice ao2 (MM.widU L m) c2, .int .u64 (y : Int), .int .u64 (q : Int)] u fun e w' => ∃ v k, e = .returned v ∧ k ≤ m ∧ (k = m ∨ ∀ i, i < m → MM.colP q y L F i = 0) ∧ Own W W.heap.size v k (MM.colP q y L F) w') := Lib.hid fun u ao2 c2 hb hu => by
    refine (rrow_any ao2 c2 (MM.widU L m) y q (fun _ => m) (MM.trn L F) hN (fun _ _ => hm) hy u hu).mono ?_
    rintro e w' ⟨rfl, hm'⟩
    have hown : ∀ k, MM.widU (fun _ => m) (MM.widU L m) = k → k ≤ m → Own W W.heap.size (.slice (some ⟨u.heap.size, 0, none⟩) k k) k (MM.colP q y L F) w' := fun k hk hle => by
      rw [hk] at hm'
      have hm2 := hm'.congr (y := MM.colP q y L F) fun i hi => MM.trn_row q y m L F (by omega)
      have ho := hm2.own (by unfold maxLen; omega)
      refine ⟨?_, Nat.le_trans hb.size hm2.below.size, Nat.le_refl _, hb.trans (hm2.below.mono hb.size)⟩
      obtain ⟨h1, h2⟩ := ho
      exact ⟨h1, h2.imp id fun ⟨g, cap, cur, a, b, c⟩ => ⟨g, cap, cur, a, Nat.le_trans hb.size b, c⟩⟩
    by_cases h0 : MM.widU L m = 0
    · refine ⟨_, 0, rfl, Nat.zero_le _, .inr fun i hi => ?_, ?_⟩
      · rw [← MM.trn_row q y m L F hi, h0]; rfl
      · have hw : MM.widU (fun _ => m) (MM.widU L m) = 0 := by rw [h0]; rfl
        rw [hw]
        exact hown 0 hw (Nat.zero_le _)
    · have hw : MM.widU (fun _ => m) (MM.widU L m) = m := MM.widU_same m _ (by omega)
      rw [hw]
      exact ⟨_, m, rfl, Nat.le_refl _, .inl rfl, hown m hw (Nat.le_refl _)⟩
  generalize MM.colP q y L F = z at *
  generalize MM.widU L m = N at *
  clear hr hl hN
  go_enter Try.func18, Try.ntmps18
  go_wp2_with (first | (go_at_call 21; refine HT.out.mono ?_; rintro e w1 ⟨v1, rfl, h1⟩; obtain ⟨ao2, c2, rfl, h2, _⟩ := h1.mat; have HC := HB.out w1 ao2 c2 h1.below h2; clear h1 h2) | (go_at_call 17; refine HC.mono ?_; rintro e w2 ⟨v2, k0, rfl, hk0, h2, h3⟩; have H2 := Lib.hid h2; have H3 := Lib.hid h3; clear h2 h3 HC))
  go_loopw [7] (fun s7 wx => ∃ k : Nat, k ≤ m ∧ Hid (k = m ∨ ∀ i, i < m → z i = 0) ∧ Hid (Own W W.heap.size s7 k z wx)) (fun s7 _ => match s7 with | .slice _ n _ => m - n | _ => 0)
  case atStart => exact ⟨k0, hk0, H2, H3⟩
  case round =>
    clear H2 H3
    obtain ⟨k, hk, HK, HJ⟩ := hrel
    obtain ⟨bo5, c5, rfl, _⟩ := HJ.out.rd
    by_cases hlt : k < m
    · have hkI : (k : Int) < (m : Int) := by omega
      obtain ⟨v3, w3, hr3, ho3⟩ := HJ.out.push 1 (by omega)
      have hz : z k = 0 := by
        rcases HK.out with h | h
        · omega
        · exact h k hlt
      rw [hz] at hr3
      change (Builtin.append_ #[23, 23] 23 #[_, .slice (some ⟨wr.heap.size, 0, none⟩) 1 1]).run Try.prog (wr.alloc (.cells #[.int .u64 0] 22)) = _ at hr3
      have HO := Lib.hid ho3
      have HZ : Hid (∀ i, i < m → z i = 0) := Lib.hid (by
        rcases HK.out with h | h
        · omega
        · exact h)
      have HL : Hid (∃ bo c, v3 = .slice bo (k + 1) c) := Lib.hid (by obtain ⟨bo, c, e, _⟩ := ho3.rd; exact ⟨bo, c, e⟩)
      clear ho3 hz
      go_wp2_with (at_builtin; refine Lib.wpList_append_run _ rfl _ _ _ _ rfl _ _ rfl rfl _ _ hr3 ?_)
      go_roundw
      case rel => exact ⟨k + 1, by omega, Lib.hid (.inr HZ.out), HO⟩
      case measure => obtain ⟨bo, c, e⟩ := HL.out; subst e; show m - (k + 1) < m - k; omega
    · have hkI : ¬ (k : Int) < (m : Int) := by omega
      obtain rfl : k = m := by omega
      go_wp2_with fail
      go_ret
      exact ⟨_, rfl, HJ.out⟩
end M
end Go.Proofs.Ytccpdjjgpkkkbaa

/- Law06a: What the statements of layer 6 do themselves: whether a list of lists is large, and copies of lists of lists. -/
namespace Go.Proofs.Ytccpdjjgpkkkbaa
open Go
namespace RK
/-- Number i alone may come, and makes a value and a world. -/
theorem Any.exec {P : Program} {md : Region.Mode} {ops : Array Oper} {Q : Exit → Act → World → Prop} {S : World → Prop} {st : Nat} {s : Array Bool} {a : Act} {w w1 : World} {f : Nat} (i t : Nat) {o : Oper} (v : Value) (hr : Region.ready md ops s = [i]) (hi : ops[i]? = some o) (hd : o.dst = some t) (hw : Region.wanted o (yielded ops a.tmps) = true)
    (he : (execOp a.eval o).run P w = .ok (.value v) w1) (hS : S w1) (h : Any P md ops Q S st f (s.setIfInBounds i true) { a with tmps := a.tmps.setIfInBounds t v } w1) : Any P md ops Q S st (f + 1) s a w :=
  ⟨fun e => (by rw [hr] at e; cases e), fun j hj => by
    rw [hr] at hj
    obtain rfl : j = i := by simpa using hj
    unfold wpOp
    simp only [hi, hw, if_true]
    refine .inl ?_
    unfold Oper.wp
    rw [he, Oper.upon_value, hd]
    exact ⟨fun _ => hS, h⟩⟩
theorem exec_append {P : Program} {o : Oper} {a : Act} {w w' : World} {v' : Value} (s x : Operand) (t tn : TypeId) (ho : o.op = .call { callee := .builtin .append, args := #[s, x], argTypes := #[t, tn] }) (vs vx : Value) (hs : a.eval s = vs) (hx : a.eval x = vx)
    (hr : (Builtin.append_ #[t, tn] o.type #[vs, vx]).run P w = .ok v' w') : (execOp a.eval o).run P w = .ok (.value v') w' := by
  unfold execOp
  simp only [ho, resolve, invoke, builtin, Sem.run_bind, Sem.run_pure, Result.andThen_ok, List.map_toArray, List.map_cons, List.map_nil, hs, hx, hr]
end RK
open Go.RowKit Go.Lib
namespace M
set_option maxRecDepth 100000 in
set_option maxHeartbeats 8000000 in
theorem own_any (ao : Option Addr) (cap m : Nat) (L : Nat → Nat) (F : Nat → Nat → Nat) (hm : m ≤ 1000) (hl : ∀ i, i < m → L i ≤ 1000) (W : World) (hr : Mat W ao m L F) :
    Calls Try.prog 15 #[.slice ao m cap] W fun e w' => ∃ v, e = .returned v ∧ OwnR W W.heap.size v m L F w' := by
  have HR := Lib.hid hr
  have HL := Lib.hid hl
  clear hr hl
  go_enter Try.func15, Try.ntmps15
  go_wp2_with fail
  go_loopw [3, 4] (fun s3 s4 wx => ∃ k : Nat, k ≤ m ∧ s4 = .int .i64 (k : Int) ∧ Hid (OwnR W W.heap.size s3 k L F wx)) (fun _ s4 _ => m - (RowKit.intOf s4).toNat)
  case atStart => exact ⟨0, Nat.zero_le _, rfl, Lib.hid (OwnR.start W _ _)⟩
  case round =>
    obtain ⟨k, hk, rfl, HJ⟩ := hrel
    by_cases hlt : k < m
    · obtain ⟨ad, bo, c, rfl, hc0, hs⟩ := HR.out k hlt
      have HC := Lib.hid (fun (u : World) (hb : Below W.heap.size W u) => (hb.cell (World.block_lt_of_cell? W _ hc0)).trans hc0)
      have HSS := Lib.hid (fun (u : World) (hb : Below W.heap.size W u) => hs.below hb)
      have hlk := HL.out k hlt
      have hkI : (k : Int) < (m : Int) := by omega
      have hk0 : (0 : Int) ≤ (k : Int) := Int.natCast_nonneg _
      obtain ⟨ao3, c3, rfl, _⟩ := HJ.out.mat
      obtain ⟨lk, hlkE⟩ : ∃ lk, L k = lk := ⟨_, rfl⟩
      rw [hlkE] at HC HSS hlk
      have HLK := Lib.hid hlkE
      have hw1 : IntKind.i64.wrap ((lk : Int) + 3) = ((lk + 3 : Nat) : Int) := by rw [IntWalk.i64_in _ (by omega)]; rfl
      clear hs hc0 hlkE
      go_upto_region 5 with fail
      refine RK.region (Below W.heap.size W) 100 (by kernel_rfl) ?_
      have HS0 : Below W.heap.size W wr.drew := HJ.out.below.trans (below_drewN' wr 1 _)
      refine RK.Any.take 0 11 (.slice ao3 k c3) rfl rfl (by kernel_rfl) (by kernel_rfl) (by kernel_rfl) (by kernel_rfl) (fun _ _ _ h => h) (by rfl) (fun W' hb => ?_) HS0 ?_
      · go_simp
      simp only [List.setIfInBounds_toArray, List.set_cons_zero, List.set_cons_succ]
      refine RK.Any.take 1 12 (.slice (some ad) m cap) rfl rfl (by kernel_rfl) (by kernel_rfl) (by kernel_rfl) (by kernel_rfl) (fun _ _ _ h => h) (by rfl) (fun W' hb => ?_) HS0 ?_
      · go_simp
      simp only [List.setIfInBounds_toArray, List.set_cons_zero, List.set_cons_succ]
      refine RK.Any.take 2 13 (.int .i64 (k : Int)) rfl rfl (by kernel_rfl) (by kernel_rfl) (by kernel_rfl) (by kernel_rfl) (fun _ _ _ h => h) (by rfl) (fun W' hb => ?_) HS0 ?_
      · go_simp
      simp only [List.setIfInBounds_toArray, List.set_cons_zero, List.set_cons_succ]
      refine RK.Any.take 3 14 (.pointer (some (ad.add k))) rfl rfl (by kernel_rfl) (by kernel_rfl) (by kernel_rfl) (by kernel_rfl) (fun _ _ _ h => h) (by rfl) (fun W' hb => ?_) HS0 ?_
      · go_simp
      simp only [List.setIfInBounds_toArray, List.set_cons_zero, List.set_cons_succ]
      refine RK.Any.take 4 15 (.slice bo lk c) rfl rfl (by kernel_rfl) (by kernel_rfl) (by kernel_rfl) (by kernel_rfl) (fun _ _ _ h => h) (by rfl) (fun W' hb => ?_) HS0 ?_
      · have c := HC.out W' hb; go_simp
      simp only [List.setIfInBounds_toArray, List.set_cons_zero, List.set_cons_succ]
      refine RK.Any.take 5 16 (.int .i64 (lk : Int)) rfl rfl (by kernel_rfl) (by kernel_rfl) (by kernel_rfl) (by kernel_rfl) (fun _ _ _ h => h) (by rfl) (fun W' hb => ?_) HS0 ?_
      · go_simp
      simp only [List.setIfInBounds_toArray, List.set_cons_zero, List.set_cons_succ]
      refine RK.Any.take 6 17 (.int .i64 ((lk + 3 : Nat) : Int)) rfl rfl (by kernel_rfl) (by kernel_rfl) (by kernel_rfl) (by kernel_rfl) (fun _ _ _ h => h) (by rfl) (fun W' hb => ?_) HS0 ?_
      · go_simp
      simp only [List.setIfInBounds_toArray, List.set_cons_zero, List.set_cons_succ]
      refine RK.Any.take 8 19 (.slice (some ad) m cap) rfl rfl (by kernel_rfl) (by kernel_rfl) (by kernel_rfl) (by kernel_rfl) (fun _ _ _ h => h) (by rfl) (fun W' hb => ?_) HS0 ?_
      · go_simp
      simp only [List.setIfInBounds_toArray, List.set_cons_zero, List.set_cons_succ]
      refine RK.Any.take 9 20 (.int .i64 (k : Int)) rfl rfl (by kernel_rfl) (by kernel_rfl) (by kernel_rfl) (by kernel_rfl) (fun _ _ _ h => h) (by rfl) (fun W' hb => ?_) HS0 ?_
      · go_simp
      simp only [List.setIfInBounds_toArray, List.set_cons_zero, List.set_cons_succ]
      refine RK.Any.take 10 21 (.pointer (some (ad.add k))) rfl rfl (by kernel_rfl) (by kernel_rfl) (by kernel_rfl) (by kernel_rfl) (fun _ _ _ h => h) (by rfl) (fun W' hb => ?_) HS0 ?_
      · go_simp
      simp only [List.setIfInBounds_toArray, List.set_cons_zero, List.set_cons_succ]
      refine RK.Any.take 11 22 (.slice bo lk c) rfl rfl (by kernel_rfl) (by kernel_rfl) (by kernel_rfl) (by kernel_rfl) (fun _ _ _ h => h) (by rfl) (fun W' hb => ?_) HS0 ?_
      · have c := HC.out W' hb; go_simp
      simp only [List.setIfInBounds_toArray, List.set_cons_zero, List.set_cons_succ]
      have hJ0 := HJ.out.drewN 1
      change OwnR W W.heap.size (.slice ao3 k c3) k L F wr.drew at hJ0
      generalize wr.drew = w0 at *
      have hmk : (Instr.makeSlice 23 (.int .i64 0) (.int .i64 ((lk : Int) + 3))).run Try.prog w0 = _ := run_made_cap (lk + 3) (by omega) w0
      have ho1 := Own.made0 w0 (lk + 3) (by omega) (F k)
      obtain ⟨w1, hw1'⟩ : ∃ w1, w0.alloc (.cells (madeCells (Value.int .u64 0).cells ((lk + 3) * 1)) 22) = w1 := ⟨_, rfl⟩
      rw [hw1'] at hmk ho1
      have HS1 : Below W.heap.size W w1 := hJ0.below.trans (ho1.below.mono hJ0.below.size)
      refine RK.Any.exec 7 18 (.slice (some ⟨w0.heap.size, 0, none⟩) 0 (lk + 3)) (w1 := w1) (by kernel_rfl) rfl rfl (by rfl) (by go_simp) HS1 ?_
      simp only [List.setIfInBounds_toArray, List.set_cons_zero, List.set_cons_succ]
      obtain ⟨v2, w2, hr2, ho2⟩ := ho1.copy hlk (HSS.out _ HS1)
      have HS2 : Below W.heap.size W w2 := hJ0.below.trans (ho2.below.mono hJ0.below.size)
      have hro := (RowC.of_own ho2.own).mono hJ0.size
      obtain ⟨bo2, c2, rfl, _⟩ := hro.src
      have hro2 : RowC W.heap.size w2 (.slice bo2 lk c2) (L k) (F k) := by rw [HLK.out]; exact hro
      refine RK.Any.exec 12 23 (.slice bo2 lk c2) (w1 := w2) (by kernel_rfl) rfl rfl (by rfl) (RK.exec_append _ _ _ _ rfl _ _ rfl rfl hr2) HS2 ?_
      simp only [List.setIfInBounds_toArray, List.set_cons_zero, List.set_cons_succ]
      obtain ⟨v4, w4, hr4, ho4⟩ := (hJ0.step ho2.below).more 1 hro2 (by omega)
      have hb3 := below_box w2 (.cells #[.slice bo2 lk c2] 23)
      obtain ⟨w3, hw3⟩ : ∃ w3, w2.alloc (.cells #[.slice bo2 lk c2] 23) = w3 := ⟨_, rfl⟩
      rw [hw3] at hr4 hb3
      refine RK.Any.exec 13 24 (.slice (some ⟨w2.heap.size, 0, none⟩) 1 1) (w1 := w3) (by kernel_rfl) rfl rfl (by rfl) (by go_simp) (HS2.trans (hb3.mono HS2.size)) ?_
      simp only [List.setIfInBounds_toArray, List.set_cons_zero, List.set_cons_succ]
      refine RK.Any.exec 14 25 v4 (w1 := w4) (by kernel_rfl) rfl rfl (by rfl) (RK.exec_append _ _ _ _ rfl _ _ rfl rfl hr4) ho4.below ?_
      simp only [List.setIfInBounds_toArray, List.set_cons_zero, List.set_cons_succ]
      refine RK.Any.take 15 3 v4 rfl rfl (by kernel_rfl) (by kernel_rfl) (by kernel_rfl) (by kernel_rfl) (fun _ _ _ h => h) (by rfl) (fun W' hb => ?_) ho4.below ?_
      · go_simp
      simp only [List.setIfInBounds_toArray, List.set_cons_zero, List.set_cons_succ]
      refine RK.Any.done (by kernel_rfl) ?_
      have HO := Lib.hid ho4
      clear hmk ho1 hr2 ho2 hro hro2 hr4 ho4 hb3 hJ0 HS0 HS1 HS2 hw3 hw1' hw1
      go_wp2_with fail
      go_roundw
      case rel => exact ⟨k + 1, by omega, by go_num, HO⟩
      case measure => simp [RowKit.intOf]; omega
    · have hkI : ¬ (k : Int) < (m : Int) := by omega
      obtain rfl : k = m := by omega
      go_wp2_with fail
      go_ret
      exact ⟨_, rfl, HJ.out⟩
theorem Mine.other {w0 w : World} {B B' n k : Nat} {z : Nat → Nat} (h : Mine w0 B n z w) (hne : B ≠ B') (hlo : w0.heap.size ≤ B') (v : Value) : Mine w0 B n z (w.setCell ⟨B', k, none⟩ v) :=
  ⟨by obtain ⟨cs, h1, h2⟩ := h.block; exact ⟨cs, (Below.heap_setCell w ⟨B', k, none⟩ v B hne).trans h1, h2⟩, h.low, h.below.setCell (p := ⟨B', k, none⟩) hlo _⟩
theorem Mine.from {w0 w1 w : World} {B n : Nat} {z : Nat → Nat} (h : Mine w1 B n z w) (hb : Below w0.heap.size w0 w1) : Mine w0 B n z w := ⟨h.block, Nat.le_trans hb.size h.low, hb.trans (h.below.mono hb.size)⟩
/-- Whether one list of lists is large. -/
theorem large_no (ao : Option Addr) (cap m b : Nat) (L : Nat → Nat) (F : Nat → Nat → Nat) (hm : m ≤ 20) (hl : MM.widU L m ≤ 20) (W : World) (hb : W.cell? ⟨b, 0, none⟩ = some (.slice ao m cap)) (hr : Mat W ao m L F) :
    Calls Try.prog 14 #[.slice (some ⟨b, 0, none⟩) 1 1] W fun e w' => e = .returned (.bool false) ∧ W = w' := by
  have HW := wide_any ao cap m L F (by omega) (fun i h => Nat.le_trans (MM.le_widU h) (by omega)) W hr
  generalize MM.widU L m = N at *
  have h1 : ¬ (20 : Int) < (m : Int) := by omega
  have h2 : ¬ (20 : Int) < (N : Int) := by omega
  clear hr
  go_enter Try.func14, Try.ntmps14
  go_wp2_with fail
  refine wp_loop_rounds 2 ?_
  rw [rounds_succ]
  go_wp2_with (go_at_call 28; refine HW.mono ?_; rintro e w1 ⟨rfl, rfl⟩)
  rw [rounds_succ]
  go_wp2_with fail
  go_ret
  exact ⟨rfl, rfl⟩
theorem large_many (ao : Option Addr) (cap m b : Nat) (hm : 20 < m) (W : World) (hb : W.cell? ⟨b, 0, none⟩ = some (.slice ao m cap)) :
    Calls Try.prog 14 #[.slice (some ⟨b, 0, none⟩) 1 1] W fun e w' => e = .returned (.bool true) ∧ W = w' := by
  have h1 : (20 : Int) < (m : Int) := by omega
  go_enter Try.func14, Try.ntmps14
  go_wp2_with fail
  refine wp_loop_rounds 2 ?_
  rw [rounds_succ]
  go_wp2_with fail
  go_ret
  exact ⟨rfl, rfl⟩
theorem large_wide (ao : Option Addr) (cap m b : Nat) (L : Nat → Nat) (F : Nat → Nat → Nat) (hm : m ≤ 20) (hL : ∀ i, L i ≤ 9223372036854775807) (hl : 20 < MM.widU L m) (W : World) (hb : W.cell? ⟨b, 0, none⟩ = some (.slice ao m cap)) (hr : Mat W ao m L F) :
    Calls Try.prog 14 #[.slice (some ⟨b, 0, none⟩) 1 1] W fun e w' => e = .returned (.bool true) ∧ W = w' := by
  have HW := wide_any ao cap m L F (by omega) (fun i _ => hL i) W hr
  generalize MM.widU L m = N at *
  have h1 : ¬ (20 : Int) < (m : Int) := by omega
  have h2 : (20 : Int) < (N : Int) := by omega
  clear hr hL
  go_enter Try.func14, Try.ntmps14
  go_wp2_with fail
  refine wp_loop_rounds 2 ?_
  rw [rounds_succ]
  go_wp2_with (go_at_call 28; refine HW.mono ?_; rintro e w1 ⟨rfl, rfl⟩)
  all_goals (go_ret; exact ⟨rfl, rfl⟩)
end M
end Go.Proofs.Ytccpdjjgpkkkbaa

/- OpenR: How lists of lists of numbers that come in are opened. -/
namespace Go.Proofs.Ytccpdjjgpkkkbaa
open Go.ChangeShapes Go.WideShapes Go.ChangeAt Go.RowKit Go.Deep
namespace M
/-- A list of lists that came in. -/
def MatIn (w : World) (v : Value) : Prop := ∃ (ao : Option Addr) (m c : Nat) (L : Nat → Nat) (F : Nat → Nat → Nat), v = .slice ao m c ∧ m ≤ 9223372036854775807 ∧ (∀ i, L i ≤ 9223372036854775807) ∧ (∀ i j, F i j < 18446744073709551616) ∧ Mat w ao m L F ∧ (ao = none → m = 0 ∧ c = 0)
set_option maxRecDepth 100000 in
theorem open_rows {H : Type} {enc : TypeId × Value → H} {w : World} {base : Nat} {held : Bool} {r : Reach} {b0 : Nat} {v : Value} {d : DataW H} {pl : List MemPlace}
    (hv : Value.okWide Try.prog w r b0 24 v) (h : DataW.Trod enc Try.prog w base (fun _ => true) held 24 v d pl) : MatIn w v := by
  obtain ⟨ad, len0, cap0, rfl⟩ := okWide_slice Try.underlying24 hv
  obtain ⟨fuel, hf⟩ := h
  rcases open_int_rows Try.underlying24 Try.underlying23 Try.underlying22 (by kernel_rfl) (by kernel_rfl) hf with ⟨hcs, _⟩ | ⟨a, len, cap, A, L, C, Z, hcs, _, hl, hm, _, hx⟩
  · simp [Value.cells] at hcs
    obtain ⟨rfl, rfl, rfl⟩ := hcs
    exact ⟨none, 0, 0, fun _ => 0, fun _ _ => 0, rfl, by omega, fun _ => Nat.zero_le _, fun _ _ => Nat.zero_lt_succ _, fun _ h => absurd h (by omega), fun _ => ⟨rfl, rfl⟩⟩
  · simp [Value.cells] at hcs
    obtain ⟨rfl, rfl, rfl⟩ := hcs
    unfold maxLen at hm hx
    have hb : ∀ i, i < cap0 → ∀ k, k < C i → 0 ≤ (Z i).getD k 0 ∧ (Z i).getD k 0 ≤ 18446744073709551615 := fun i hi k hk => by
      obtain ⟨_, _, _, hz, hw, _⟩ := hx i hi
      have hmem : (Z i).getD k 0 ∈ Z i := by rw [List.getD_eq_getElem?_getD, List.getElem?_eq_getElem (by omega)]; exact List.getElem_mem _
      exact M.u64_bounds (hw _ hmem)
    refine ⟨some a, len0, cap0, fun i => if i < len0 then L i else 0, fun i k => if i < cap0 ∧ k < C i then ((Z i).getD k 0).toNat else 0, rfl, by omega, fun i => ?_, fun i k => ?_, fun i hi => ?_, fun h => by cases h⟩
    · by_cases h : i < len0
      · obtain ⟨_, h1, h2, _⟩ := hx i (by omega)
        simp only [if_pos h]; omega
      · simp only [if_neg h]; omega
    · by_cases h : i < cap0 ∧ k < C i
      · have := hb i h.1 k h.2; simp only [if_pos h]; omega
      · simp only [if_neg h]; omega
    · obtain ⟨h0, h1, h2, h3, h4, h5, h6⟩ := hx i (by omega)
      simp only [if_pos hi]
      refine ⟨a, A i, C i, rfl, h0, fun hn => ?_, fun e => ?_⟩
      · cases e : A i with
        | none => have := h5 e; omega
        | some a' =>
          obtain ⟨_, hc⟩ := h6 a' e
          refine ⟨a', rfl, fun k hk => ?_⟩
          have hk' : k < C i := by omega
          have := hb i (by omega) k hk'
          rw [hc k hk']
          simp only [if_pos (show i < cap0 ∧ k < C i from ⟨by omega, hk'⟩)]
          congr 2
          omega
      · have := h5 e; exact ⟨by omega, this⟩
end M
end Go.Proofs.Ytccpdjjgpkkkbaa
