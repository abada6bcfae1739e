/- Plain facts on rows of numbers modulo any number: what the chapter's functions on ranks answer, step by step. Nothing here speaks of the program. -/
import Derived.Test.YtflkmjihgfjofaaDoorGrpMath
import Derived.Test.YtflkmjihgfjofaaDoorModMath6
namespace Go.Proofs.YtflkmjihgfjofaaDoor
namespace MM
def ofL (l : List Nat) (k : Nat) : Nat := l.getD k 0
theorem ofL_lt {l : List Nat} (h : ∀ x ∈ l, x < 18446744073709551616) (k : Nat) : ofL l k < 18446744073709551616 := by
  unfold ofL
  by_cases hk : k < l.length
  · rw [List.getD_eq_getElem?_getD, List.getElem?_eq_getElem hk]; exact h _ (List.getElem_mem hk)
  · rw [List.getD_eq_getElem?_getD, List.getElem?_eq_none (by omega)]; show (0 : Nat) < _; omega
theorem ofL_out {l : List Nat} {k : Nat} (h : l.length ≤ k) : ofL l k = 0 := by
  unfold ofL; rw [List.getD_eq_getElem?_getD, List.getElem?_eq_none h]; rfl
/-- The difference, and the inverse with what is told beside it, modulo any number. -/
def subU (a b m : Nat) : Nat := if Good m then subm a b m else 0
theorem subU_lt (a b m : Nat) : subU a b m < 18446744073709551616 := by
  unfold subU
  by_cases h : Good m
  · rw [if_pos h]; exact lt_of_mod h
  · rw [if_neg h]; omega
noncomputable def invU (a m : Nat) : Nat := if Good m ∧ Nat.gcd a m = 1 then invm a m else 0
def invC (a m : Nat) : Int := if Good m then (if Nat.gcd a m = 1 then 0 else 5) else 1
theorem invU_of {a m x : Nat} (h : Good m) (hx : IsInv a m x) : invU a m = x := by unfold invU; rw [if_pos ⟨h, hx.gcd⟩, invm_eq hx]
theorem invU_lt (a m : Nat) : invU a m < 18446744073709551616 := by
  unfold invU
  by_cases h : Good m ∧ Nat.gcd a m = 1
  · rw [if_pos h]
    obtain ⟨x, hx⟩ := exists_inv h.1.1 h.2
    rw [invm_eq hx]
    have := hx.1; have := h.1.2; omega
  · rw [if_neg h]; omega
/-- The inverse as it is reckoned. -/
def eu (m : Nat) : Nat → Nat → Nat → Nat → Nat → Nat
  | 0, _, _, inv, _ => inv
  | k + 1, rest, next, inv, aft => if next = 0 then inv else eu m k next (rest % next) aft (subm inv (rest / next * aft % m) m)
theorem eu_inv {a m : Nat} (hg : Nat.gcd a m = 1) : ∀ k rest next inv aft, next < k → InvAt a m rest next inv aft → IsInv a m (eu m k rest next inv aft)
  | 0, _, _, _, _, h, _ => absurd h (by omega)
  | k + 1, rest, next, inv, aft, hk, h => by
    unfold eu
    by_cases e : next = 0
    · subst e
      rw [if_pos rfl]
      obtain ⟨h1, h2⟩ := h.done
      exact h2 (by rw [h1, hg])
    · rw [if_neg e]
      exact eu_inv hg k _ _ _ _ (by have := Nat.mod_lt rest (Nat.pos_of_ne_zero e); omega) (h.step (Nat.pos_of_ne_zero e))
def invE (a m : Nat) : Nat := if Good m ∧ Nat.gcd a m = 1 then eu m (m + 1) m (a % m) 0 1 else 0
theorem invU_eq (a m : Nat) : invU a m = invE a m := by
  by_cases h : Good m ∧ Nat.gcd a m = 1
  · have h1 := eu_inv h.2 (m + 1) m (a % m) 0 1 (by have := Nat.mod_lt a h.1.1; omega) (InvAt.start a m h.1.1)
    rw [invU_of h.1 h1]; unfold invE; rw [if_pos h]
  · unfold invU invE; rw [if_neg h, if_neg h]

abbrev Bs := Nat → Option (Nat → Nat)
/-- A multiple of an independent row is added to a row, from an index on. -/
def rowAdd (q t f : Nat) (r ind : Nat → Nat) (n : Nat) : Nat → Nat := fun i => if f ≤ i ∧ i < n then addU (r i) (mulU t (ind i) q) q else r i
theorem rowAdd_lt {q t f : Nat} {r ind : Nat → Nat} {n : Nat} (h : ∀ i, r i < 18446744073709551616) (i : Nat) : rowAdd q t f r ind n i < 18446744073709551616 := by
  unfold rowAdd
  split
  · exact addU_lt _ _ _
  · exact h i
/-- What is left of a row, and its first index; k indices are still to come. -/
def red (q w : Nat) (b : Bs) : Nat → (Nat → Nat) → Nat × (Nat → Nat)
  | 0, r => (w, r)
  | k + 1, r => if r (w - (k + 1)) = 0 then red q w b k r else match b (w - (k + 1)) with
    | none => (w - (k + 1), r)
    | some ind => red q w b k (rowAdd q (subU 0 (r (w - (k + 1))) q) (w - (k + 1)) r ind w)
theorem red_zero {q w f : Nat} {b : Bs} {r : Nat → Nat} (hf : f < w) (h : r f = 0) : red q w b (w - f) r = red q w b (w - (f + 1)) r := by
  obtain ⟨k, hk⟩ : ∃ k, w - f = k + 1 := ⟨w - f - 1, by omega⟩
  have e : w - (k + 1) = f := by omega
  rw [hk, show w - (f + 1) = k by omega, red, e, if_pos h]
theorem red_none {q w f : Nat} {b : Bs} {r : Nat → Nat} (hf : f < w) (h : r f ≠ 0) (hb : b f = none) : red q w b (w - f) r = (f, r) := by
  obtain ⟨k, hk⟩ : ∃ k, w - f = k + 1 := ⟨w - f - 1, by omega⟩
  have e : w - (k + 1) = f := by omega
  rw [hk, red, e, if_neg h, hb]
theorem red_some {q w f : Nat} {b : Bs} {r ind : Nat → Nat} (hf : f < w) (h : r f ≠ 0) (hb : b f = some ind) : red q w b (w - f) r = red q w b (w - (f + 1)) (rowAdd q (subU 0 (r f) q) f r ind w) := by
  obtain ⟨k, hk⟩ : ∃ k, w - f = k + 1 := ⟨w - f - 1, by omega⟩
  have e : w - (k + 1) = f := by omega
  rw [hk, show w - (f + 1) = k by omega, red, e, if_neg h, hb]
theorem red_end {q w : Nat} {b : Bs} {r : Nat → Nat} : red q w b (w - w) r = (w, r) := by rw [Nat.sub_self, red]
theorem red_facts {q w : Nat} {b : Bs} : ∀ k r, k ≤ w → (∀ i, r i < 18446744073709551616) → (red q w b k r).1 ≤ w ∧ ((red q w b k r).1 < w → b (red q w b k r).1 = none) ∧ ∀ i, (red q w b k r).2 i < 18446744073709551616
  | 0, r, _, hr => ⟨Nat.le_refl _, fun h => absurd h (by show ¬ w < w; omega), hr⟩
  | k + 1, r, hk, hr => by
    unfold red
    by_cases h0 : r (w - (k + 1)) = 0
    · rw [if_pos h0]; exact red_facts k r (by omega) hr
    · rw [if_neg h0]
      cases hb : b (w - (k + 1)) with
      | none => exact ⟨by show w - (k + 1) ≤ w; omega, fun _ => hb, hr⟩
      | some ind => exact red_facts k _ (by omega) (rowAdd_lt hr)
/-- The independent rows when a row was put among them; how many they are stands beside them. -/
noncomputable def addB (q w : Nat) (s : Nat × Bs) (r : Nat → Nat) : Nat × Bs :=
  if (red q w s.2 w r).1 = w then s else (s.1 + 1, fun j => if j = (red q w s.2 w r).1 then some (fun i => mulU ((red q w s.2 w r).2 i) (invU ((red q w s.2 w r).2 (red q w s.2 w r).1) q) q) else s.2 j)
/-- A row as wide as all, each number below q. -/
def wideU (q : Nat) (r : Nat → Nat) : Nat → Nat := fun i => addU (r i) 0 q
def noB : Nat × Bs := (0, fun _ => none)
noncomputable def allB (q w : Nat) (rows : List (List Nat)) : Nat × Bs := rows.foldl (fun s r => addB q w s (wideU q (ofL r))) noB
theorem allB_snoc (q w : Nat) (rows : List (List Nat)) (r : List Nat) : allB q w (rows ++ [r]) = addB q w (allB q w rows) (wideU q (ofL r)) := by unfold allB; rw [List.foldl_append]; rfl
def widU (rows : List (List Nat)) : Nat := rows.foldl (fun n r => max n r.length) 0
theorem widU_snoc (rows : List (List Nat)) (r : List Nat) : widU (rows ++ [r]) = max (widU rows) r.length := by unfold widU; rw [List.foldl_append]; rfl
theorem widU_ge {rows : List (List Nat)} {r : List Nat} (h : r ∈ rows) : r.length ≤ widU rows := by
  have H : ∀ (rows : List (List Nat)) (n : Nat), n ≤ rows.foldl (fun n r => max n r.length) n ∧ ∀ r ∈ rows, r.length ≤ rows.foldl (fun n r => max n r.length) n := by
    intro rows
    induction rows with
    | nil => intro n; exact ⟨Nat.le_refl _, by simp⟩
    | cons x l ih =>
      intro n
      obtain ⟨h1, h2⟩ := ih (max n x.length)
      refine ⟨by rw [List.foldl_cons]; omega, fun r hr => ?_⟩
      rw [List.foldl_cons]
      rcases List.mem_cons.1 hr with rfl | hr
      · omega
      · exact h2 r hr
  exact (H rows 0).2 r h
theorem widU_le {rows : List (List Nat)} {n : Nat} (h : ∀ r ∈ rows, r.length ≤ n) : widU rows ≤ n := by
  have H : ∀ (rows : List (List Nat)) (m : Nat), m ≤ n → (∀ r ∈ rows, r.length ≤ n) → rows.foldl (fun n r => max n r.length) m ≤ n := by
    intro rows
    induction rows with
    | nil => intro m hm _; exact hm
    | cons x l ih =>
      intro m hm hl
      rw [List.foldl_cons]
      exact ih _ (by have := hl x (by simp); omega) fun r hr => hl r (by simp [hr])
  exact H rows 0 (by omega) h
noncomputable def rankU (rows : List (List Nat)) (q : Nat) : Nat := (allB q (widU rows) rows).1
noncomputable def hangsU (rows : List (List Nat)) (row : List Nat) (q : Nat) : Bool :=
  (red q (max (widU rows) row.length) (allB q (max (widU rows) row.length) rows).2 (max (widU rows) row.length) (wideU q (ofL row))).1 == max (widU rows) row.length
/-- The unknown that an equation tells, by those behind it: c of them are still to come. -/
def subsU (q n : Nat) (eq s : Nat → Nat) : Nat → Nat → Nat
  | 0, v => v
  | c + 1, v => subsU q n eq s c (subU v (mulU (eq (n - (c + 1))) (s (n - (c + 1))) q) q)
theorem subsU_step {q n k : Nat} {eq s : Nat → Nat} {v : Nat} (h : k < n) : subsU q n eq s (n - k) v = subsU q n eq s (n - (k + 1)) (subU v (mulU (eq k) (s k) q) q) := by
  obtain ⟨c, hc⟩ : ∃ c, n - k = c + 1 := ⟨n - k - 1, by omega⟩
  have e : n - (c + 1) = k := by omega
  rw [hc, show n - (k + 1) = c by omega, subsU, e]
theorem subsU_end {q n : Nat} {eq s : Nat → Nat} {v : Nat} : subsU q n eq s (n - n) v = v := by rw [Nat.sub_self, subsU]
/-- The unknowns from the last one on. -/
def unkU (q n : Nat) (b : Bs) : Nat → (Nat → Nat) → (Nat → Nat)
  | 0, s => s
  | j + 1, s => unkU q n b j (match b j with
    | none => s
    | some eq => fun i => if i = j then subsU q n eq s (n - (j + 1)) (eq n) else s i)
/-- The equations' rows: each with its number on the right. -/
def eqnU (q n : Nat) (r : List Nat) (x : Nat) : Nat → Nat := fun i => if i = n then addU x 0 q else addU (ofL r i) 0 q
/-- An equation behind the numbers on the right has 0 there. -/
noncomputable def eqsB (q n : Nat) (right : List Nat) (rows : List (List Nat)) : Nat × Bs := ((List.range rows.length).foldl (fun s i => addB q (n + 1) s (if i < right.length then eqnU q n (rows.getD i []) (ofL right i) else wideU q (ofL (rows.getD i [])))) noB)
end MM
end Go.Proofs.YtflkmjihgfjofaaDoor
