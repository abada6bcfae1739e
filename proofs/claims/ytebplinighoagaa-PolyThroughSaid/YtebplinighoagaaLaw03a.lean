/- The examples of the chapter on polynomials, call by call. -/
import Derived.Test.YtebplinighoagaaPolyW10
import Derived.Test.YtebplinighoagaaPolyEq
namespace Go.Proofs.Ytebplinighoagaa
open Go Go.RowKit Go.Lib
namespace MM
def ofL (l : List Nat) (k : Nat) : Nat := l.getD k 0
theorem ofL_lt {l : List Nat} (h : ∀ x ∈ l, x < 18446744073709551616) (k : Nat) : ofL l k < 18446744073709551616 := by
  unfold ofL
  by_cases hk : k < l.length
  · rw [List.getD_eq_getElem?_getD, List.getElem?_eq_getElem hk]; exact h _ (List.getElem_mem hk)
  · rw [List.getD_eq_getElem?_getD, List.getElem?_eq_none (by omega)]; show (0 : Nat) < _; omega
theorem wgt_of {p q n i : Nat} {z : Nat → Nat} (v : Nat) {r : Nat} (hq : Good q) (hv : IsInv (undU q z n i) q v) (hr : mulU (prodL p q z i (List.range n)) v q = r) : wgtU p q z n i = r := by
  unfold wgtU; rw [invU_of hq hv]; exact hr
/-- A step with the inverse written down. -/
def stepC (q : Nat) (z y : Nat → Nat) (v : Nat) (s : Nat × (Nat → Nat) × (Nat → Nat)) (x : Nat) : Nat × (Nat → Nat) × (Nat → Nat) :=
  (s.1 + 1, sumU s.1 (s.1 + 1) q s.2.1 (scaleU (mulU (subU (y x) (hornL s.2.1 (z x) q (M.down s.1 0)) q) v q) q s.2.2), timesU (s.1 + 1) 2 q s.2.2 (two (subU 0 (z x) q) 1))
theorem step_of {q x : Nat} {z y : Nat → Nat} {s : Nat × (Nat → Nat) × (Nat → Nat)} (v : Nat) (hq : Good q) (hv : IsInv (invP q z s x) q v) : stepP q z y s x = stepC q z y v s x := by
  unfold stepP stepC facP; rw [invU_of hq hv]
def s0 : Nat × (Nat → Nat) × (Nat → Nat) := (0, fun _ => 0, fun _ => 1)
end MM
namespace M
theorem good11 : MM.Good 11 := ⟨by decide, by decide⟩
theorem cell_row {W : World} {B n : Nat} {cs : Array Value} {z : Nat → Nat} (h : W.heap[B]? = some (.cells cs 23 (0, 0))) (hz : ∀ k, k < n → cs[k]? = some (.int .u64 ((z k : Nat) : Int))) : Row W ⟨B, 0, none⟩ n z := Row.of_block h hz
theorem new_row (W : World) (l : List Nat) (cs : Array Value) (hz : ∀ k, k < l.length → cs[k]? = some (.int .u64 ((MM.ofL l k : Nat) : Int))) : Row (W.alloc (.cells cs 23)) ⟨W.heap.size, 0, none⟩ l.length (MM.ofL l) := Row.of_block (heap_alloc_new _ _) hz
theorem row_rd {W : World} {a : Addr} {n : Nat} {z : Nat → Nat} (h : Row W a n z) : Rd W (some a) n z := fun _ => ⟨a, rfl, h⟩
abbrev z123 : Nat → Nat := MM.ofL [1, 2, 3]
abbrev y607 : Nat → Nat := MM.ofL [6, 0, 7]
theorem lt_small {l : List Nat} (h : l.all (· < 18446744073709551616) = true) (k : Nat) : MM.ofL l k < 18446744073709551616 := MM.ofL_lt (fun x hx => by have := List.all_eq_true.1 h x hx; simpa using this) k
theorem ex_weights (W : World) (B : Nat) (hr : Row W ⟨B, 0, none⟩ 3 z123) :
    Calls Try.prog 7 #[.slice (some ⟨B, 0, none⟩) 3 3, .int .u64 0, .int .u64 11] W fun e w' => ∃ B', e = .returned (.tuple #[.slice (some ⟨B', 0, none⟩) 3 3, .int .i64 0]) ∧ Row w' ⟨B', 0, none⟩ 3 (MM.ofL [3, 8, 1]) ∧ Below W.heap.size W w' := by
  refine (weights_good (some ⟨B, 0, none⟩) 3 3 0 11 z123 (lt_small (by decide)) good11 (by decide) (sorts_short 3 (by decide)) (by decide +kernel) W (row_rd hr)).mono ?_
  rintro e w' (⟨B', he, hm, _⟩ | ⟨_, _, j, hj, hne⟩)
  · refine ⟨B', he, fun t ht => ?_, hm.below⟩
    have h := hm.row t ht
    rw [show MM.wgtU 0 11 z123 3 t = MM.ofL [3, 8, 1] t by
      match t, ht with
      | 0, _ => exact MM.wgt_of 6 good11 ⟨by decide, by decide +kernel⟩ (by decide +kernel)
      | 1, _ => exact MM.wgt_of 10 good11 ⟨by decide, by decide +kernel⟩ (by decide +kernel)
      | 2, _ => exact MM.wgt_of 6 good11 ⟨by decide, by decide +kernel⟩ (by decide +kernel)] at h
    exact h
  · exfalso
    match j, hj with
    | 0, _ => exact hne (by decide +kernel)
    | 1, _ => exact hne (by decide +kernel)
    | 2, _ => exact hne (by decide +kernel)
def t1 := MM.stepC 11 z123 y607 1 MM.s0 0
def t2 := MM.stepC 11 z123 y607 1 t1 1
def t3 := MM.stepC 11 z123 y607 6 t2 2
theorem st1 : MM.stP 11 z123 y607 (List.range 1) = t1 := by
  rw [show List.range 1 = [] ++ [0] from rfl, MM.stP_snoc]
  exact MM.step_of 1 good11 ⟨by decide, by decide +kernel⟩
theorem st2 : MM.stP 11 z123 y607 (List.range 2) = t2 := by
  rw [show List.range 2 = List.range 1 ++ [1] from rfl, MM.stP_snoc, st1]
  exact MM.step_of 1 good11 ⟨by decide, by decide +kernel⟩
theorem st3 : MM.stP 11 z123 y607 (List.range 3) = t3 := by
  rw [show List.range 3 = List.range 2 ++ [2] from rfl, MM.stP_snoc, st2]
  exact MM.step_of 6 good11 ⟨by decide, by decide +kernel⟩
theorem RowB.row {lo : Nat} {W : World} {v : Value} {n : Nat} {z : Nat → Nat} (h : RowB lo W v n z) (hn : 0 < n) : ∃ B, v = .slice (some ⟨B, 0, none⟩) n n ∧ lo ≤ B ∧ Row W ⟨B, 0, none⟩ n z := by
  rcases h with ⟨h0, _⟩ | ⟨B, cs, e, h1, h2, _, h3⟩
  · omega
  · exact ⟨B, e, h1, Row.of_block h2 h3⟩
theorem ex_through (W : World) (B C : Nat) (hr : Row W ⟨B, 0, none⟩ 3 z123) (hs : Row W ⟨C, 0, none⟩ 3 y607) :
    Calls Try.prog 8 #[.slice (some ⟨B, 0, none⟩) 3 3, .slice (some ⟨C, 0, none⟩) 3 3, .int .u64 11] W fun e w' => ∃ B', e = .returned (.tuple #[.slice (some ⟨B', 0, none⟩) 3 3, .int .i64 0]) ∧ Row w' ⟨B', 0, none⟩ 3 (MM.ofL [3, 2, 1]) ∧ Below W.heap.size W w' := by
  refine (through_good (some ⟨B, 0, none⟩) (some ⟨C, 0, none⟩) 3 3 3 11 z123 y607 (lt_small (by decide)) (lt_small (by decide)) good11 (by decide) (sorts_short 3 (by decide)) (by decide +kernel) W (row_rd hr) (row_rd hs)).mono ?_
  rintro e w' (⟨v, he, hm, hb, _⟩ | ⟨_, _, j, hj, hne⟩)
  · rw [st3] at hm
    obtain ⟨B', rfl, _, hrow⟩ := hm.row (by decide)
    refine ⟨B', he, fun t ht => ?_, hb⟩
    have h := hrow t ht
    rw [show t3.2.1 t = MM.ofL [3, 2, 1] t by
      match t, ht with
      | 0, _ => decide +kernel
      | 1, _ => decide +kernel
      | 2, _ => decide +kernel] at h
    exact h
  · exfalso
    match j, hj with
    | 0, _ => exact hne (by decide +kernel)
    | 1, _ => exact hne (by rw [st1]; decide +kernel)
    | 2, _ => exact hne (by rw [st2]; decide +kernel)
theorem ex_eval (W : World) (B : Nat) (hr : Row W ⟨B, 0, none⟩ 3 (MM.ofL [3, 2, 1])) :
    Calls Try.prog 9 #[.slice (some ⟨B, 0, none⟩) 3 3, .int .u64 4, .int .u64 11] W fun e w' => e = .returned (.int .u64 5) ∧ Below W.heap.size W w' := by
  refine (eval_any (some ⟨B, 0, none⟩) 3 3 4 11 (MM.ofL [3, 2, 1]) (by decide) (by decide) W (row_rd hr)).mono fun e w' ⟨he, hb⟩ => ⟨?_, hb⟩
  rw [he, show MM.hornL (MM.ofL [3, 2, 1]) 4 11 (down 3 0) = 5 by decide +kernel]; rfl
theorem ex_degree (W : World) (B : Nat) (hr : Row W ⟨B, 0, none⟩ 4 (MM.ofL [3, 2, 1, 0])) :
    Calls Try.prog 10 #[.slice (some ⟨B, 0, none⟩) 4 4, .int .u64 11] W fun e w' => e = .returned (.int .i64 2) ∧ Below W.heap.size W w' := by
  refine (degree_any (some ⟨B, 0, none⟩) 4 4 11 (MM.ofL [3, 2, 1, 0]) (by decide) W (row_rd hr)).mono fun e w' ⟨he, hb⟩ => ⟨?_, hb⟩
  rw [he, show MM.degC (MM.ofL [3, 2, 1, 0]) 11 4 = 2 by decide +kernel]
theorem ex_times (W : World) (B C : Nat) (hr : Row W ⟨B, 0, none⟩ 2 (MM.ofL [1, 1])) (hs : Row W ⟨C, 0, none⟩ 2 (MM.ofL [1, 10])) :
    Calls Try.prog 13 #[.slice (some ⟨B, 0, none⟩) 2 2, .slice (some ⟨C, 0, none⟩) 2 2, .int .u64 11] W fun e w' => ∃ B', e = .returned (.slice (some ⟨B', 0, none⟩) 3 3) ∧ Row w' ⟨B', 0, none⟩ 3 (MM.ofL [1, 0, 10]) ∧ Below W.heap.size W w' := by
  refine (times_good (some ⟨B, 0, none⟩) (some ⟨C, 0, none⟩) 2 2 2 2 11 (MM.ofL [1, 1]) (MM.ofL [1, 10]) (by decide) (by decide) (by decide) (by decide) (lt_small (by decide)) (lt_small (by decide)) good11 W (row_rd hr) (row_rd hs)).mono fun e w' ⟨he, hm⟩ => ⟨_, he, fun t ht => ?_, hm.below⟩
  have h := hm.row t ht
  rw [show MM.timesU 2 2 11 (MM.ofL [1, 1]) (MM.ofL [1, 10]) t = MM.ofL [1, 0, 10] t by
    match t, ht with
    | 0, _ => decide +kernel
    | 1, _ => decide +kernel
    | 2, _ => decide +kernel] at h
  exact h
theorem ex_numbers (W : World) (B C n : Nat) (z : Nat → Nat) (hn : n ≤ 9223372036854775807) (hr : Row W ⟨B, 0, none⟩ n z) (hs : Row W ⟨C, 0, none⟩ n z) :
    Calls Try.prog 15 #[.slice (some ⟨B, 0, none⟩) n n, .slice (some ⟨C, 0, none⟩) n n] W fun e w' => e = .returned (.bool true) ∧ Below W.heap.size W w' :=
  (rnumbers_yes (some ⟨B, 0, none⟩) (some ⟨C, 0, none⟩) n n n z hn W (row_rd hr) (row_rd hs)).mono fun _ _ ⟨he, m, hm⟩ => ⟨he, by rw [hm]; exact below_drewN' _ _ _⟩
end M
end Go.Proofs.Ytebplinighoagaa
