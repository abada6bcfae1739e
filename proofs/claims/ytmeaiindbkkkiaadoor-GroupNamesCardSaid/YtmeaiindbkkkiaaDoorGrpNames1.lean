/- What the closed law of layer 2 speaks of: parameters with one field changed each, great ones, none. -/
import Derived.Test.YtmeaiindbkkkiaaDoorGrpLaw
namespace Go.Proofs.YtmeaiindbkkkiaaDoor
open Go Go.RowKit Go.Lib
namespace M
/-- Powers, and what is asked of parameters, reckoned by squaring. -/
def powUF (x e P : Nat) : Nat := if MM.Good P then MM.powF x e P else 0
theorem powUF_eq (x e P : Nat) (he : e < 18446744073709551616) : MM.powU x e P = powUF x e P := by
  unfold MM.powU powUF
  by_cases h : MM.Good P
  · rw [if_pos h, if_pos h, MM.powF_eq _ _ _ h.1 he]
  · rw [if_neg h, if_neg h]
def isF (p : Pm) (x : Nat) : Bool := decide (0 < x) && decide (x < p.P) && (powUF x p.Q p.P == 1)
theorem isF_eq (p : Pm) (x : Nat) (hq : p.Q < 18446744073709551616) : isB p x = isF p x := by unfold isB isF; rw [powUF_eq _ _ _ hq]
def genF (p : Pm) (x : Nat) : Bool := isF p x && (x != 1)
theorem genF_eq (p : Pm) (x : Nat) (hq : p.Q < 18446744073709551616) : genB p x = genF p x := by unfold genB genF; rw [isF_eq _ _ hq]
theorem may_no {p : Pm} (k : Nat) (hk : k < 15) (h : condB p k = false) : mayB p = false := mayB_false hk h
theorem prime_no {n : Nat} (h : MM.primeF n = false) : MM.primeOf n = false := (MM.primeF_eq n).trans h
theorem prime_yes {n : Nat} (h : MM.primeF n = true) : MM.primeOf n = true := (MM.primeF_eq n).trans h

/-- The parameters that are not valid, by their places. -/
def badP : Nat → Pm
  | 0 => ⟨23, 11, 5, 9, 4, 4, 1, 1, 1, 1, 1, 1⟩
  | 1 => ⟨23, 11, 4, 9, 4, 3, 1, 1, 1, 1, 1, 1⟩
  | 2 => ⟨23, 11, 4, 9, 4, 4, 1, 1, 1, 1, 3, 1⟩
  | 3 => ⟨23, 11, 4, 1, 4, 4, 1, 1, 1, 1, 1, 1⟩
  | 4 => ⟨23, 11, 0, 9, 4, 4, 1, 1, 1, 1, 1, 1⟩
  | 5 => ⟨23, 22, 4, 9, 4, 4, 1, 1, 1, 1, 1, 1⟩
  | 6 => ⟨22, 11, 4, 9, 4, 4, 1, 1, 1, 1, 1, 1⟩
  | 7 => ⟨23, 11, 4, 9, 4, 4, 0, 1, 1, 1, 1, 1⟩
  | 8 => ⟨23, 11, 4, 9, 4, 4, 2, 1, 1, 1, 1, 1⟩
  | 9 => ⟨23, 11, 4, 9, 3, 4, 1, 1, 1, 1, 1, 1⟩
  | 10 => ⟨23, 11, 4, 9, 9, 4, 1, 1, 1, 1, 1, 1⟩
  | 11 => ⟨23, 11, 4, 9, 4, 4, 1, 3, 1, 1, 1, 1⟩
  | 12 => ⟨23, 11, 4, 9, 4, 4, 1, 1, 0, 1, 1, 1⟩
  | 13 => ⟨23, 11, 4, 9, 4, 4, 1, 1, 1, 2, 1, 1⟩
  | 14 => ⟨23, 11, 4, 9, 4, 4, 1, 1, 1, 1, 1, 0⟩
  | 15 => ⟨23, 11, 4, 27, 4, 4, 1, 1, 1, 1, 1, 1⟩
  | 16 => ⟨23, 11, 4, 9, 4, 4, 1, 0, 1, 1, 1, 1⟩
  | 17 => ⟨23, 11, 4, 9, 4, 4, 1, 1, 1, 0, 1, 1⟩
  | _ => sm

theorem bad_may : ∀ k, k < 18 → mayB (badP k) = false
  | 0, _ => may_no 3 (by decide) (by decide +kernel)
  | 1, _ => may_no 6 (by decide) (by decide +kernel)
  | 2, _ => may_no 14 (by decide) (by decide +kernel)
  | 3, _ => may_no 4 (by decide) (by decide +kernel)
  | 4, _ => may_no 3 (by decide) (by decide +kernel)
  | 5, _ => may_no 1 (by decide) (prime_no (by decide +kernel))
  | 6, _ => may_no 0 (by decide) (prime_no (by decide +kernel))
  | 7, _ => may_no 5 (by decide) (by decide +kernel)
  | 8, _ => may_no 6 (by decide) (by decide +kernel)
  | 9, _ => may_no 8 (by decide) (by decide +kernel)
  | 10, _ => may_no 8 (by decide) (by decide +kernel)
  | 11, _ => may_no 9 (by decide) (by decide +kernel)
  | 12, _ => may_no 10 (by decide) (by decide +kernel)
  | 13, _ => may_no 11 (by decide) (by decide +kernel)
  | 14, _ => may_no 13 (by decide) (by decide +kernel)
  | 15, _ => may_no 4 (by decide) (by decide +kernel)
  | 16, _ => may_no 9 (by decide) (by decide +kernel)
  | 17, _ => may_no 11 (by decide) (by decide +kernel)
  | k + 18, h => absurd h (by omega)

theorem bad_lt : ∀ k, k < 18 → (badP k).P < 18446744073709551616 ∧ (badP k).Q < 18446744073709551616 ∧ (badP k).G < 18446744073709551616 ∧ (badP k).H < 18446744073709551616 := by decide
set_option maxRecDepth 100000 in
/-- The row of parameters as it lies: first eighteen times the examples' ones, then with one field changed each. -/
def bad0 : Array Value := #[.int .u64 23, .int .u64 11, .int .u64 4, .int .u64 9, .int .i64 4, .int .i64 4, .int .i64 1, .int .i64 1, .int .i64 1, .int .i64 1, .int .i64 1, .int .i64 1, .int .u64 23, .int .u64 11, .int .u64 4, .int .u64 9, .int .i64 4, .int .i64 4, .int .i64 1, .int .i64 1, .int .i64 1, .int .i64 1, .int .i64 1, .int .i64 1, .int .u64 23, .int .u64 11, .int .u64 4, .int .u64 9, .int .i64 4, .int .i64 4, .int .i64 1, .int .i64 1, .int .i64 1, .int .i64 1, .int .i64 1, .int .i64 1, .int .u64 23, .int .u64 11, .int .u64 4, .int .u64 9, .int .i64 4, .int .i64 4, .int .i64 1, .int .i64 1, .int .i64 1, .int .i64 1, .int .i64 1, .int .i64 1, .int .u64 23, .int .u64 11, .int .u64 4, .int .u64 9, .int .i64 4, .int .i64 4, .int .i64 1, .int .i64 1, .int .i64 1, .int .i64 1, .int .i64 1, .int .i64 1, .int .u64 23, .int .u64 11, .int .u64 4, .int .u64 9, .int .i64 4, .int .i64 4, .int .i64 1, .int .i64 1, .int .i64 1, .int .i64 1, .int .i64 1, .int .i64 1, .int .u64 23, .int .u64 11, .int .u64 4, .int .u64 9, .int .i64 4, .int .i64 4, .int .i64 1, .int .i64 1, .int .i64 1, .int .i64 1, .int .i64 1, .int .i64 1, .int .u64 23, .int .u64 11, .int .u64 4, .int .u64 9, .int .i64 4, .int .i64 4, .int .i64 1, .int .i64 1, .int .i64 1, .int .i64 1, .int .i64 1, .int .i64 1, .int .u64 23, .int .u64 11, .int .u64 4, .int .u64 9, .int .i64 4, .int .i64 4, .int .i64 1, .int .i64 1, .int .i64 1, .int .i64 1, .int .i64 1, .int .i64 1, .int .u64 23, .int .u64 11, .int .u64 4, .int .u64 9, .int .i64 4, .int .i64 4, .int .i64 1, .int .i64 1, .int .i64 1, .int .i64 1, .int .i64 1, .int .i64 1, .int .u64 23, .int .u64 11, .int .u64 4, .int .u64 9, .int .i64 4, .int .i64 4, .int .i64 1, .int .i64 1, .int .i64 1, .int .i64 1, .int .i64 1, .int .i64 1, .int .u64 23, .int .u64 11, .int .u64 4, .int .u64 9, .int .i64 4, .int .i64 4, .int .i64 1, .int .i64 1, .int .i64 1, .int .i64 1, .int .i64 1, .int .i64 1, .int .u64 23, .int .u64 11, .int .u64 4, .int .u64 9, .int .i64 4, .int .i64 4, .int .i64 1, .int .i64 1, .int .i64 1, .int .i64 1, .int .i64 1, .int .i64 1, .int .u64 23, .int .u64 11, .int .u64 4, .int .u64 9, .int .i64 4, .int .i64 4, .int .i64 1, .int .i64 1, .int .i64 1, .int .i64 1, .int .i64 1, .int .i64 1, .int .u64 23, .int .u64 11, .int .u64 4, .int .u64 9, .int .i64 4, .int .i64 4, .int .i64 1, .int .i64 1, .int .i64 1, .int .i64 1, .int .i64 1, .int .i64 1, .int .u64 23, .int .u64 11, .int .u64 4, .int .u64 9, .int .i64 4, .int .i64 4, .int .i64 1, .int .i64 1, .int .i64 1, .int .i64 1, .int .i64 1, .int .i64 1, .int .u64 23, .int .u64 11, .int .u64 4, .int .u64 9, .int .i64 4, .int .i64 4, .int .i64 1, .int .i64 1, .int .i64 1, .int .i64 1, .int .i64 1, .int .i64 1, .int .u64 23, .int .u64 11, .int .u64 4, .int .u64 9, .int .i64 4, .int .i64 4, .int .i64 1, .int .i64 1, .int .i64 1, .int .i64 1, .int .i64 1, .int .i64 1]
set_option maxRecDepth 100000 in
/-- .. behind the changes. -/
def badC : Array Value := #[.int .u64 23, .int .u64 11, .int .u64 5, .int .u64 9, .int .i64 4, .int .i64 4, .int .i64 1, .int .i64 1, .int .i64 1, .int .i64 1, .int .i64 1, .int .i64 1, .int .u64 23, .int .u64 11, .int .u64 4, .int .u64 9, .int .i64 4, .int .i64 3, .int .i64 1, .int .i64 1, .int .i64 1, .int .i64 1, .int .i64 1, .int .i64 1, .int .u64 23, .int .u64 11, .int .u64 4, .int .u64 9, .int .i64 4, .int .i64 4, .int .i64 1, .int .i64 1, .int .i64 1, .int .i64 1, .int .i64 3, .int .i64 1, .int .u64 23, .int .u64 11, .int .u64 4, .int .u64 1, .int .i64 4, .int .i64 4, .int .i64 1, .int .i64 1, .int .i64 1, .int .i64 1, .int .i64 1, .int .i64 1, .int .u64 23, .int .u64 11, .int .u64 0, .int .u64 9, .int .i64 4, .int .i64 4, .int .i64 1, .int .i64 1, .int .i64 1, .int .i64 1, .int .i64 1, .int .i64 1, .int .u64 23, .int .u64 22, .int .u64 4, .int .u64 9, .int .i64 4, .int .i64 4, .int .i64 1, .int .i64 1, .int .i64 1, .int .i64 1, .int .i64 1, .int .i64 1, .int .u64 22, .int .u64 11, .int .u64 4, .int .u64 9, .int .i64 4, .int .i64 4, .int .i64 1, .int .i64 1, .int .i64 1, .int .i64 1, .int .i64 1, .int .i64 1, .int .u64 23, .int .u64 11, .int .u64 4, .int .u64 9, .int .i64 4, .int .i64 4, .int .i64 0, .int .i64 1, .int .i64 1, .int .i64 1, .int .i64 1, .int .i64 1, .int .u64 23, .int .u64 11, .int .u64 4, .int .u64 9, .int .i64 4, .int .i64 4, .int .i64 2, .int .i64 1, .int .i64 1, .int .i64 1, .int .i64 1, .int .i64 1, .int .u64 23, .int .u64 11, .int .u64 4, .int .u64 9, .int .i64 3, .int .i64 4, .int .i64 1, .int .i64 1, .int .i64 1, .int .i64 1, .int .i64 1, .int .i64 1, .int .u64 23, .int .u64 11, .int .u64 4, .int .u64 9, .int .i64 9, .int .i64 4, .int .i64 1, .int .i64 1, .int .i64 1, .int .i64 1, .int .i64 1, .int .i64 1, .int .u64 23, .int .u64 11, .int .u64 4, .int .u64 9, .int .i64 4, .int .i64 4, .int .i64 1, .int .i64 3, .int .i64 1, .int .i64 1, .int .i64 1, .int .i64 1, .int .u64 23, .int .u64 11, .int .u64 4, .int .u64 9, .int .i64 4, .int .i64 4, .int .i64 1, .int .i64 1, .int .i64 0, .int .i64 1, .int .i64 1, .int .i64 1, .int .u64 23, .int .u64 11, .int .u64 4, .int .u64 9, .int .i64 4, .int .i64 4, .int .i64 1, .int .i64 1, .int .i64 1, .int .i64 2, .int .i64 1, .int .i64 1, .int .u64 23, .int .u64 11, .int .u64 4, .int .u64 9, .int .i64 4, .int .i64 4, .int .i64 1, .int .i64 1, .int .i64 1, .int .i64 1, .int .i64 1, .int .i64 0, .int .u64 23, .int .u64 11, .int .u64 4, .int .u64 27, .int .i64 4, .int .i64 4, .int .i64 1, .int .i64 1, .int .i64 1, .int .i64 1, .int .i64 1, .int .i64 1, .int .u64 23, .int .u64 11, .int .u64 4, .int .u64 9, .int .i64 4, .int .i64 4, .int .i64 1, .int .i64 0, .int .i64 1, .int .i64 1, .int .i64 1, .int .i64 1, .int .u64 23, .int .u64 11, .int .u64 4, .int .u64 9, .int .i64 4, .int .i64 4, .int .i64 1, .int .i64 1, .int .i64 1, .int .i64 0, .int .i64 1, .int .i64 1]

set_option maxRecDepth 100000 in
theorem badC_get : ∀ k, k < 18 → badC[k * 12]? = some (.int .u64 (((badP k).P : Nat) : Int)) ∧ badC[k * 12 + 1]? = some (.int .u64 (((badP k).Q : Nat) : Int)) ∧ badC[k * 12 + 2]? = some (.int .u64 (((badP k).G : Nat) : Int)) ∧ badC[k * 12 + 3]? = some (.int .u64 (((badP k).H : Nat) : Int)) ∧ badC[k * 12 + 4]? = some (.int .i64 (badP k).Nodes) ∧ badC[k * 12 + 5]? = some (.int .i64 (badP k).N) ∧ badC[k * 12 + 6]? = some (.int .i64 (badP k).T) ∧ badC[k * 12 + 7]? = some (.int .i64 (badP k).K) ∧ badC[k * 12 + 8]? = some (.int .i64 (badP k).D) ∧ badC[k * 12 + 9]? = some (.int .i64 (badP k).R) ∧ badC[k * 12 + 10]? = some (.int .i64 (badP k).M) ∧ badC[k * 12 + 11]? = some (.int .i64 (badP k).X)
  | 0, _ => ⟨rfl, rfl, rfl, rfl, rfl, rfl, rfl, rfl, rfl, rfl, rfl, rfl⟩
  | 1, _ => ⟨rfl, rfl, rfl, rfl, rfl, rfl, rfl, rfl, rfl, rfl, rfl, rfl⟩
  | 2, _ => ⟨rfl, rfl, rfl, rfl, rfl, rfl, rfl, rfl, rfl, rfl, rfl, rfl⟩
  | 3, _ => ⟨rfl, rfl, rfl, rfl, rfl, rfl, rfl, rfl, rfl, rfl, rfl, rfl⟩
  | 4, _ => ⟨rfl, rfl, rfl, rfl, rfl, rfl, rfl, rfl, rfl, rfl, rfl, rfl⟩
  | 5, _ => ⟨rfl, rfl, rfl, rfl, rfl, rfl, rfl, rfl, rfl, rfl, rfl, rfl⟩
  | 6, _ => ⟨rfl, rfl, rfl, rfl, rfl, rfl, rfl, rfl, rfl, rfl, rfl, rfl⟩
  | 7, _ => ⟨rfl, rfl, rfl, rfl, rfl, rfl, rfl, rfl, rfl, rfl, rfl, rfl⟩
  | 8, _ => ⟨rfl, rfl, rfl, rfl, rfl, rfl, rfl, rfl, rfl, rfl, rfl, rfl⟩
  | 9, _ => ⟨rfl, rfl, rfl, rfl, rfl, rfl, rfl, rfl, rfl, rfl, rfl, rfl⟩
  | 10, _ => ⟨rfl, rfl, rfl, rfl, rfl, rfl, rfl, rfl, rfl, rfl, rfl, rfl⟩
  | 11, _ => ⟨rfl, rfl, rfl, rfl, rfl, rfl, rfl, rfl, rfl, rfl, rfl, rfl⟩
  | 12, _ => ⟨rfl, rfl, rfl, rfl, rfl, rfl, rfl, rfl, rfl, rfl, rfl, rfl⟩
  | 13, _ => ⟨rfl, rfl, rfl, rfl, rfl, rfl, rfl, rfl, rfl, rfl, rfl, rfl⟩
  | 14, _ => ⟨rfl, rfl, rfl, rfl, rfl, rfl, rfl, rfl, rfl, rfl, rfl, rfl⟩
  | 15, _ => ⟨rfl, rfl, rfl, rfl, rfl, rfl, rfl, rfl, rfl, rfl, rfl, rfl⟩
  | 16, _ => ⟨rfl, rfl, rfl, rfl, rfl, rfl, rfl, rfl, rfl, rfl, rfl, rfl⟩
  | 17, _ => ⟨rfl, rfl, rfl, rfl, rfl, rfl, rfl, rfl, rfl, rfl, rfl, rfl⟩
  | k + 18, h => absurd h (by omega)

/-- The great parameters: without generators, with one, with both. -/
abbrev great0 : Pm := ⟨2305843009213693951, 1321, 0, 0, 7, 7, 2, 2, 2, 1, 10, 10⟩
abbrev great1 : Pm := ⟨2305843009213693951, 1321, 234060095121088422, 0, 7, 7, 2, 2, 2, 1, 10, 10⟩
abbrev great2 : Pm := ⟨2305843009213693951, 1321, 234060095121088422, 814652170479903933, 7, 7, 2, 2, 2, 1, 10, 10⟩
abbrev none0 : Pm := ⟨0, 0, 0, 0, 0, 0, 0, 0, 0, 0, 0, 0⟩
abbrev p23 : Pm := ⟨23, 0, 0, 0, 0, 0, 0, 0, 0, 0, 0, 0⟩
theorem great_G : RetB 13 #[.agg great0.cells, .int .u64 3, .int .u64 1745528394559950] (.int .u64 234060095121088422) := power_to great0 3 1745528394559950 234060095121088422 (by omega) (by omega) (by rw [powUF_eq _ _ _ (by omega)]; decide +kernel)
theorem great_H : RetB 13 #[.agg great1.cells, .int .u64 5, .int .u64 1745528394559950] (.int .u64 814652170479903933) := power_to great1 5 1745528394559950 814652170479903933 (by omega) (by omega) (by rw [powUF_eq _ _ _ (by omega)]; decide +kernel)
theorem great_is : RetB 14 #[.agg great2.cells, .int .u64 234060095121088422] (.bool true) := by
  have h := is_any great2 234060095121088422 (by omega) (by show (1321 : Nat) < _; omega)
  rw [isF_eq _ _ (by show (1321 : Nat) < _; omega), show isF great2 234060095121088422 = true by decide +kernel] at h
  exact h
theorem condB_0 (p : Pm) : condB p 0 = MM.primeOf p.P := rfl
theorem condB_1 (p : Pm) : condB p 1 = MM.primeOf p.Q := rfl
theorem condB_3 (p : Pm) : condB p 3 = genB p p.G := rfl
theorem condB_4 (p : Pm) : condB p 4 = genB p p.H := rfl
theorem gen_G : genF great2 234060095121088422 = true := by decide +kernel
theorem gen_H : genF great2 814652170479903933 = true := by decide +kernel
theorem great_cond : ∀ k, k < 15 → condB great2 k = true
  | 0, _ => (condB_0 _).trans (prime_yes (by decide +kernel))
  | 1, _ => (condB_1 _).trans (prime_yes (by decide +kernel))
  | 2, _ => by decide +kernel
  | 3, _ => (condB_3 _).trans ((genF_eq great2 234060095121088422 (by show (1321 : Nat) < _; omega)).trans gen_G)
  | 4, _ => (condB_4 _).trans ((genF_eq great2 814652170479903933 (by show (1321 : Nat) < _; omega)).trans gen_H)
  | 5, _ => by decide +kernel
  | 6, _ => by decide +kernel
  | 7, _ => by decide +kernel
  | 8, _ => by decide +kernel
  | 9, _ => by decide +kernel
  | 10, _ => by decide +kernel
  | 11, _ => by decide +kernel
  | 12, _ => by decide +kernel
  | 13, _ => by decide +kernel
  | 14, _ => by decide +kernel
  | k + 15, h => absurd h (by omega)
theorem great_may : RetBL 12 #[.agg great2.cells] (.bool true) := may_yes (mayB_true great_cond) (by show (2305843009213693951 : Nat) < _; omega) (by show (1321 : Nat) < _; omega) (by show (234060095121088422 : Nat) < _; omega) (by show (814652170479903933 : Nat) < _; omega)
/-- The powers of 4 modulo 23. -/
def pw4 : List Nat := [1, 4, 16, 18, 3, 12, 2, 8, 9, 13, 6, 1]
theorem pw4_pow : ∀ k, k < 12 → MM.powU 4 k 23 = pw4.getD k 0 := by decide +kernel
theorem pw4_is : ∀ k, k < 12 → isB sm (pw4.getD k 0) = true := by decide +kernel
theorem pw4_lt : ∀ k, k < 12 → pw4.getD k 0 < 18446744073709551616 := by decide
theorem row_one {W : World} {b : Nat} {t : TypeId} (x : Nat) (h : W.heap[b]? = some (.cells #[.int .u64 (x : Int)] t (0, 0))) : Row W ⟨b, 0, none⟩ 1 (fun _ => x) := Row.of_block h fun k hk => by
  obtain rfl : k = 0 := by omega
  rfl
theorem none_times (W : World) (b : Nat) (h : W.heap[b]? = some (.cells #[.int .u64 3] 23 (0, 0))) : Calls Tryd.prog 15 #[.agg none0.cells, .slice (some ⟨b, 0, none⟩) 1 1] W fun e w' => e = .returned (.int .u64 0) ∧ Below W.heap.size W w' := by
  have h1 := times_any none0 ⟨b, 0, none⟩ 1 1 (fun _ => 3) (fun _ _ => by omega) (by omega) W (row_one 3 h)
  rw [show MM.timesN none0.P (fun _ => 3) 1 = 0 by decide +kernel] at h1
  exact h1
theorem none_at (W : World) (b : Nat) (h : W.heap[b]? = some (.cells #[.int .u64 3] 23 (0, 0))) : Calls Tryd.prog 17 #[.agg none0.cells, .slice (some ⟨b, 0, none⟩) 1 1, .int .u64 1] W fun e w' => e = .returned (.int .u64 0) ∧ Below W.heap.size W w' := by
  have h1 := at_any none0 ⟨b, 0, none⟩ 1 1 1 (fun _ => 3) (fun _ _ => by omega) (by omega) (by omega) W (row_one 3 h)
  rw [show MM.atN none0.P none0.Q 1 (fun _ => 3) 1 = 0 by decide +kernel] at h1
  exact h1
theorem none_pow : RetB 13 #[.agg none0.cells, .int .u64 3, .int .u64 0] (.int .u64 0) := power_to none0 3 0 0 (by omega) (by omega) (by decide +kernel)
theorem none_commit : RetB 16 #[.agg none0.cells, .agg #[.int .u64 0, .int .u64 0]] (.int .u64 0) := commit_to none0 0 0 0 (by omega) (by omega) (by decide) (by decide) (by decide +kernel)
theorem none_is : RetB 14 #[.agg none0.cells, .int .u64 0] (.bool false) := by
  have h := is_any none0 0 (by omega) (by decide)
  rw [show isB none0 0 = false by decide +kernel] at h
  exact h
theorem sm_nil : RetB 15 #[.agg sm.cells, .slice none 0 0] (.int .u64 1) := by
  have h := times_nil sm
  rw [show MM.addU 0 1 sm.P = 1 by decide +kernel] at h
  exact h
theorem sm_pow0 : RetB 13 #[.agg sm.cells, .int .u64 0, .int .u64 0] (.int .u64 1) := power_to sm 0 0 1 (by omega) (by omega) (by decide +kernel)
theorem p23_at (W : World) (b : Nat) (h : W.heap[b]? = some (.cells #[.int .u64 4, .int .u64 9] 23 (0, 0))) :
    Calls Tryd.prog 17 #[.agg #[.int .u64 23, .int .u64 0, .int .u64 0, .int .u64 0, .int .i64 0, .int .i64 0, .int .i64 0, .int .i64 0, .int .i64 0, .int .i64 0, .int .i64 0, .int .i64 0], .slice (some ⟨b, 0, none⟩) 2 2, .int .u64 2] W fun e w' => e = .returned (.int .u64 1) ∧ Below W.heap.size W w' := by
  have h1 := at_any p23 ⟨b, 0, none⟩ 2 2 2 (MM.two 4 9) (fun k _ => two_lt (by decide) (by decide)) (by omega) (by omega) W (row_two 4 9 h)
  rw [show MM.atN p23.P p23.Q 2 (MM.two 4 9) 2 = 1 by decide +kernel] at h1
  exact h1
end M
end Go.Proofs.YtmeaiindbkkkiaaDoor
