/- Plain facts: the program's polynomial through pairs, and what it refuses, are the document's. -/
import Derived.Test.YtaogdhpiiclejaaDoorPolyEq2
namespace Go.Proofs.YtaogdhpiiclejaaDoor
namespace MM
theorem conv_low {la q c m : Nat} {a b : Nat → Nat} : ∀ i, i < m → convU la 2 q a b m i = 0
  | 0, _ => rfl
  | i + 1, h => by unfold convU; rw [if_neg (by omega)]; exact conv_low (c := c) i (by omega)
theorem times_first {n q c : Nat} (hq : Good q) (a : Nat → Nat) (h : 0 < n) : Cg q (timesU n 2 q a (two c 1) 0) (a 0 * c) := by
  unfold timesU convU
  rw [if_pos ⟨h, by omega⟩]
  exact (cg_add hq _ _).trans (((Cg.refl q _).add (cg_mul hq _ _)).trans (.of_eq (by simp [convU, two])))
theorem times_next {n q c m : Nat} (hq : Good q) (a : Nat → Nat) (h : m < n) : Cg q (timesU n 2 q a (two c 1) (m + 1)) ((if m + 1 < n then (a (m + 1) : Int) * c else 0) + a m) := by
  have h0 : Cg q (convU n 2 q a (two c 1) (m + 1) (m + 1)) (a m) := by
    unfold convU
    rw [if_pos ⟨h, by omega⟩, conv_low (c := c) m (by omega), show m + 1 - m = 1 by omega]
    exact (cg_add hq _ _).trans (((Cg.refl q _).add (cg_mul hq _ _)).trans (.of_eq (by simp [two])))
  unfold timesU convU
  by_cases hm : m + 1 < n
  · rw [if_pos ⟨hm, by omega⟩, if_pos hm, show m + 1 - (m + 1) = 0 by omega]
    exact (cg_add hq _ _).trans ((h0.add (cg_mul hq _ _)).trans (.of_eq (by simp [two]; omega)))
  · rw [if_neg (by omega), if_neg hm]
    exact h0.trans (.of_eq (by simp))
theorem eval_succ {q : Nat} (hq : Good q) (a : Nat → Nat) (x n : Nat) : Cg q (evalU a x q (n + 1)) (evalU a x q n + a n * (x : Int) ^ n) := by
  rw [evalU]
  exact (cg_add hq _ _).trans ((Cg.refl q _).add ((cg_mul hq _ _).trans ((Cg.refl q _).mul (cg_pow hq x n))))
theorem eval_part {n q c : Nat} (hq : Good q) (a : Nat → Nat) (x : Nat) : ∀ m, m < n → Cg q (evalU (timesU n 2 q a (two c 1)) x q (m + 1)) (evalU a x q (m + 1) * c + evalU a x q m * x)
  | 0, h => by
    refine (eval_succ hq _ x 0).trans ((((Cg.refl q _).add ((times_first hq a h).mul (Cg.refl q _)))).trans (Cg.trans ?_ (((eval_succ hq a x 0).mul (Cg.refl q _)).add (Cg.refl q _)).symm))
    exact .of_eq (by simp [evalU])
  | m + 1, h => by
    have ih := eval_part (n := n) (c := c) hq a x m (by omega)
    have h1 := times_next (n := n) (m := m) (c := c) hq a (by omega)
    rw [if_pos h] at h1
    refine (eval_succ hq _ x (m + 1)).trans ((ih.add (h1.mul (Cg.refl q _))).trans (Cg.trans ?_ (((eval_succ hq a x (m + 1)).mul (Cg.refl q _)).add ((eval_succ hq a x m).mul (Cg.refl q _))).symm))
    refine .of_eq ?_
    rw [Int.pow_succ]
    grind
/-- The value of a product by a factor of degree one. -/
theorem eval_times {n q c : Nat} (hq : Good q) (a : Nat → Nat) (x : Nat) : Cg q (evalU (timesU (n + 1) 2 q a (two c 1)) x q (n + 1 + 1)) (evalU a x q (n + 1) * ((c : Int) + x)) := by
  have h1 := eval_part (n := n + 1) (c := c) hq a x n (by omega)
  have h2 := times_next (n := n + 1) (c := c) hq a (show n < n + 1 by omega)
  rw [if_neg (by omega)] at h2
  have h4 := (Cg.refl q ((evalU a x q (n + 1) : Int) * c)).add ((eval_succ hq a x n).symm.mul (Cg.refl q (x : Int)))
  refine (eval_succ hq _ x (n + 1)).trans ((h1.add (h2.mul (Cg.refl q _))).trans ((Cg.of_eq ?_).trans (h4.trans (.of_eq (by rw [Int.mul_add])))))
  rw [Int.pow_succ]
  grind
theorem un_none {q : Nat} (hq : Good q) (z : Nat → Nat) (x : Nat) : ∀ k, Un q (evalU (noneU q z k) x q (k + 1)) ↔ ∀ j, j < k → Un q ((x : Int) - z j)
  | 0 => by
    refine ⟨fun _ j hj => absurd hj (by omega), fun _ => ?_⟩
    refine (Un.cg ((eval_succ hq _ x 0).trans ?_)).2 (Un.one q)
    refine ((Cg.refl q _).add ((cg_add hq 1 0).mul (Cg.refl q _))).trans (.of_eq ?_)
    simp [evalU]
  | k + 1 => by
    have h := eval_times (n := k) (c := subU 0 (z k) q) hq (noneU q z k) x
    have h2 : Cg q (((subU 0 (z k) q : Nat) : Int) + x) ((x : Int) - z k) := ((cg_sub hq 0 (z k)).add (Cg.refl q _)).trans (.of_eq (by simp; omega))
    rw [show noneU q z (k + 1) = timesU (k + 1) 2 q (noneU q z k) (two (subU 0 (z k) q) 1) from rfl, Un.cg (h.trans ((Cg.refl q _).mul h2)), Un.mul, un_none hq z x k]
    constructor
    · rintro ⟨H, h1⟩ j hj
      by_cases e : j = k
      · subst e; exact h1
      · exact H j (by omega)
    · exact fun H => ⟨fun j hj => H j (by omega), H k (by omega)⟩
theorem one_none {q : Nat} (hq : Good q) (h1 : q ≠ 1) (z : Nat → Nat) : noneU q z 0 = fun _ => 1 := by
  have := hq.1
  funext k
  show addU 1 0 q = 1
  rw [addU_of hq, Nat.mod_eq_of_lt (by omega)]
/-- The program's steps are the document's. -/
theorem st_eq {q : Nat} (hq : Good q) (h1 : q ≠ 1) (z y : Nat → Nat) : ∀ n, stP q z y (List.range n) = (n, thruU q z y n, noneU q z n)
  | 0 => by rw [one_none hq h1]; rfl
  | n + 1 => by
    rw [List.range_succ, stP_snoc, st_eq hq h1 z y n]
    unfold stepP facP invP
    rw [horn_eval, horn_eval]
    rfl
theorem un_all1 (a : Int) : Un 1 a := ⟨0, -1, by simp⟩
theorem thr_all {q : Nat} (hq : Good q) {z y : Nat → Nat} (n : Nat) : (∀ k, k < n → invC (invP q z (stP q z y (List.range k)) k) q = 0) ↔ noAll q z n = false := by
  rw [noAll_iff hq]
  by_cases h1 : q = 1
  · subst h1
    exact ⟨fun _ _ _ _ _ => un_all1 _, fun _ k _ => (invC_un hq _).2 (un_all1 _)⟩
  · have e : ∀ k, invP q z (stP q z y (List.range k)) k = evalU (noneU q z k) (z k) q (k + 1) := fun k => by
      rw [st_eq hq h1]; unfold invP; rw [horn_eval]
    constructor
    · intro H i k hi hk
      have h := H i hi
      rw [e, invC_un hq, un_none hq] at h
      exact h k hk
    · intro H k hk
      rw [e, invC_un hq, un_none hq]
      exact fun j hj => H k j hk hj
theorem thr_eq {q : Nat} (hq : Good q) (z y : Nat → Nat) (n k : Nat) : (stP q z y (List.range n)).2.1 k = thruU q z y n k := by
  by_cases h1 : q = 1
  · subst h1
    cases n with
    | zero => rfl
    | succ n =>
      rw [List.range_succ, stP_snoc]
      show sumU _ _ 1 _ _ k = sumU _ _ 1 _ _ k
      unfold sumU
      rw [addU_of hq, addU_of hq, Nat.mod_one, Nat.mod_one]
  · rw [st_eq hq h1]
/-- What is told of places, where the two ask it of unlike numbers. -/
theorem wrongU_yes {q n : Nat} {z : Nat → Nat} (hq : Good q) (hn : n ≤ 1024) (hT : tw6 q z n = 0) (h : noAll q z n = false) : wrongU q n z = 0 := by
  have ht : twAll q z n ≠ true := fun e => by unfold tw6 at hT; rw [if_pos e] at hT; omega
  unfold wrongU wrongB
  rw [if_neg (fun h => h hq), if_neg (by omega), if_neg ht, h]
  rfl
theorem wrongU_five {q n : Nat} {z : Nat → Nat} (hq : Good q) (hn : n ≤ 1024) (hT : tw6 q z n = 0) (h : noAll q z n ≠ false) : wrongU q n z = 5 := by
  have ht : twAll q z n ≠ true := fun e => by unfold tw6 at hT; rw [if_pos e] at hT; omega
  unfold wrongU wrongB
  rw [if_neg (fun h => h hq), if_neg (by omega), if_neg ht, if_pos (by simpa using h)]
theorem wrongU_six {q n : Nat} {z : Nat → Nat} (hq : Good q) (hn : n ≤ 1024) (hT : tw6 q z n ≠ 0) : wrongU q n z = 6 ∧ tw6 q z n = 6 := by
  have ht : twAll q z n = true := Classical.byContradiction fun e => hT (by unfold tw6; rw [if_neg e])
  unfold wrongU wrongB tw6
  rw [if_neg (fun h => h hq), if_neg (by omega), if_pos ht, if_pos ht]
  exact ⟨rfl, rfl⟩
end MM
end Go.Proofs.YtaogdhpiiclejaaDoor
