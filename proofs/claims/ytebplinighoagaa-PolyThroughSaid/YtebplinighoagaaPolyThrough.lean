/- The weights of any places, and the polynomial through any points, modulo any number, are the document's, or it is refused: the statement, for every input. -/
import Derived.Test.YtebplinighoagaaPolyW9
import Derived.Test.YtebplinighoagaaPolyEq
import Derived.Test.YtebplinighoagaaPolyR6
import Derived.Test.YtebplinighoagaaSort9
import Derived.Test.YtebplinighoagaaPolyW5
import Derived.Test.YtebplinighoagaaLaw03c
import Derived.Test.YtebplinighoagaaRows
import Derived.Test.YtebplinighoagaaOpenN
import Derived.Lib.AppendZeros
namespace Go.Proofs.Ytebplinighoagaa
namespace MM
/-- Alike modulo q. -/
def Cg (q : Nat) (a b : Int) : Prop := ∃ k : Int, a = b + q * k
theorem Cg.refl (q : Nat) (a : Int) : Cg q a a := ⟨0, by simp⟩
theorem Cg.of_eq {q : Nat} {a b : Int} (h : a = b) : Cg q a b := h ▸ Cg.refl q a
theorem Cg.symm {q : Nat} {a b : Int} (h : Cg q a b) : Cg q b a := by obtain ⟨k, e⟩ := h; exact ⟨-k, by grind⟩
theorem Cg.trans {q : Nat} {a b c : Int} (h : Cg q a b) (h' : Cg q b c) : Cg q a c := by obtain ⟨k, e⟩ := h; obtain ⟨l, f⟩ := h'; exact ⟨k + l, by grind⟩
theorem Cg.add {q : Nat} {a b c d : Int} (h : Cg q a b) (h' : Cg q c d) : Cg q (a + c) (b + d) := by obtain ⟨k, e⟩ := h; obtain ⟨l, f⟩ := h'; exact ⟨k + l, by grind⟩
theorem Cg.sub {q : Nat} {a b c d : Int} (h : Cg q a b) (h' : Cg q c d) : Cg q (a - c) (b - d) := by obtain ⟨k, e⟩ := h; obtain ⟨l, f⟩ := h'; exact ⟨k - l, by grind⟩
theorem Cg.mul {q : Nat} {a b c d : Int} (h : Cg q a b) (h' : Cg q c d) : Cg q (a * c) (b * d) := by obtain ⟨k, e⟩ := h; obtain ⟨l, f⟩ := h'; exact ⟨k * d + b * l + q * k * l, by subst e f; grind⟩
theorem Cg.nat {q x y : Nat} (h : Cg q x y) : x % q = y % q := mod_of_int h
theorem cg_nat {q x y : Nat} (h : x % q = y % q) : Cg q x y := int_of_mod h
theorem cg_mod (q x : Nat) : Cg q ((x % q : Nat) : Int) x := cg_nat (Nat.mod_mod _ _)
theorem cg_add {q : Nat} (hq : Good q) (a b : Nat) : Cg q (addU a b q) (a + b) := by rw [addU_of hq]; exact (cg_mod q _).trans (.of_eq (by simp))
theorem cg_mul {q : Nat} (hq : Good q) (a b : Nat) : Cg q (mulU a b q) (a * b) := by rw [mulU_of hq]; exact (cg_mod q _).trans (.of_eq (by simp))
theorem cg_sub {q : Nat} (hq : Good q) (a b : Nat) : Cg q (subU a b q) (a - b) := by unfold subU; rw [if_pos hq]; exact subm_int a b q hq.1
theorem cg_pow {q : Nat} (hq : Good q) (a n : Nat) : Cg q (powU a n q) ((a : Int) ^ n) := by rw [powU_of hq]; exact (cg_mod q _).trans (.of_eq (by simp))
/-- Has an inverse. -/
def Un (q : Nat) (a : Int) : Prop := ∃ u : Int, Cg q (a * u) 1
theorem Un.cg {q : Nat} {a b : Int} (h : Cg q a b) : Un q a ↔ Un q b :=
  ⟨fun ⟨u, hu⟩ => ⟨u, (h.symm.mul (Cg.refl q u)).trans hu⟩, fun ⟨u, hu⟩ => ⟨u, (h.mul (Cg.refl q u)).trans hu⟩⟩
theorem Un.mul {q : Nat} {a b : Int} : Un q (a * b) ↔ Un q a ∧ Un q b := by
  constructor
  · rintro ⟨u, hu⟩
    exact ⟨⟨b * u, (Cg.of_eq (by grind)).trans hu⟩, ⟨a * u, (Cg.of_eq (by grind)).trans hu⟩⟩
  · rintro ⟨⟨u, hu⟩, ⟨v, hv⟩⟩
    exact ⟨u * v, (Cg.of_eq (show a * b * (u * v) = a * u * (b * v) by grind)).trans ((hu.mul hv).trans (.of_eq (by simp)))⟩
theorem Un.neg {q : Nat} {a : Int} (h : Un q a) : Un q (-a) := by obtain ⟨u, hu⟩ := h; exact ⟨-u, (Cg.of_eq (by grind)).trans hu⟩
theorem Un.swap {q : Nat} {a b : Int} : Un q (a - b) ↔ Un q (b - a) := ⟨fun h => by have := h.neg; rwa [show -(a - b) = b - a by omega] at this, fun h => by have := h.neg; rwa [show -(b - a) = a - b by omega] at this⟩
theorem Un.one (q : Nat) : Un q 1 := ⟨1, .of_eq (by simp)⟩
theorem un_gcd {q : Nat} (hq : 0 < q) (a : Nat) : Nat.gcd a q = 1 ↔ Un q a := by
  constructor
  · intro h
    obtain ⟨x, hx⟩ := exists_inv hq h
    exact ⟨x, (Cg.of_eq (by simp)).trans ((cg_nat hx.2).trans (Cg.refl q _))⟩
  · rintro ⟨u, hu⟩
    have h0 := Int.emod_nonneg u (show (q : Int) ≠ 0 by omega)
    have h1 := Int.emod_lt_of_pos u (show (0 : Int) < q by omega)
    refine IsInv.gcd (x := (u % q).toNat) ⟨by omega, Cg.nat ?_⟩
    have e : (((u % q).toNat : Nat) : Int) = u % q := by omega
    have hc : Cg q (u % q) u := ⟨-(u / q), by have := Int.emod_add_mul_ediv u q; grind⟩
    rw [Int.natCast_mul, e]
    exact ((Cg.refl q _).mul hc).trans hu
theorem invC_un {q : Nat} (hq : Good q) (a : Nat) : invC a q = 0 ↔ Un q a := by
  rw [← un_gcd hq.1]
  unfold invC
  rw [if_pos hq]
  by_cases h : Nat.gcd a q = 1
  · rw [if_pos h]; exact ⟨fun _ => h, fun _ => rfl⟩
  · rw [if_neg h]; exact ⟨fun h' => absurd h' (by omega), fun h' => absurd h' h⟩
theorem invU_cg {q : Nat} (hq : Good q) {a : Nat} (h : Un q a) : Cg q (a * invU a q) 1 := by
  obtain ⟨x, hx⟩ := exists_inv hq.1 ((un_gcd hq.1 a).2 h)
  rw [invU_of hq hx]
  exact (Cg.of_eq (by simp)).trans ((cg_nat hx.2).trans (Cg.refl q _))
/-- A factor of the program's. -/
theorem cg_fac {q : Nat} (hq : Good q) (x c : Nat) : Cg q (addU x (subU 0 c q) q) (x - c) :=
  (cg_add hq _ _).trans (((Cg.refl q _).add (cg_sub hq 0 c)).trans (.of_eq (by simp; omega)))
theorem prodL_succ {q : Nat} (hq : Good q) (x : Nat) (z : Nat → Nat) (i n : Nat) (h : n ≠ i) : Cg q (prodL x q z i (List.range (n + 1))) (prodL x q z i (List.range n) * ((x : Int) - z n)) := by
  rw [List.range_succ, prodL_other h]
  exact (cg_mul hq _ _).trans ((Cg.refl q _).mul (cg_fac hq _ _))
theorem prodL_skip (q x : Nat) (z : Nat → Nat) (i : Nat) : prodL x q z i (List.range (i + 1)) = prodL x q z i (List.range i) := by rw [List.range_succ, prodL_same]
theorem prodL_zero (q x : Nat) (z : Nat → Nat) (i : Nat) : prodL x q z i (List.range 0) = 1 := rfl
theorem un_prod {q : Nat} (hq : Good q) (z : Nat → Nat) (i : Nat) : ∀ n, Un q (prodL (z i) q z i (List.range n)) ↔ ∀ j, j < n → j ≠ i → Un q ((z i : Int) - z j)
  | 0 => ⟨fun _ j hj => absurd hj (by omega), fun _ => by rw [prodL_zero]; exact Un.one q⟩
  | n + 1 => by
    by_cases h : n = i
    · subst h
      rw [prodL_skip, un_prod hq z n n]
      exact ⟨fun H j hj hne => H j (by omega) hne, fun H j hj hne => H j (by omega) hne⟩
    · rw [Un.cg (prodL_succ hq _ z i n h), Un.mul, un_prod hq z i n]
      constructor
      · rintro ⟨H, h1⟩ j hj hne
        by_cases e : j = n
        · subst e; exact h1
        · exact H j (by omega) hne
      · exact fun H => ⟨fun j hj hne => H j (by omega) hne, H n (by omega) h⟩
theorem noRow_iff {q : Nat} (hq : Good q) {z : Nat → Nat} {i : Nat} : ∀ n, noRow q z i n = false ↔ ∀ k, k < n → Un q ((z i : Int) - z k)
  | 0 => ⟨fun _ j hj => absurd hj (by omega), fun _ => rfl⟩
  | n + 1 => by
    unfold noRow
    rw [Bool.or_eq_false_iff, noRow_iff hq n]
    have e : (invC (subU (z i) (z n) q) q != 0) = false ↔ Un q ((z i : Int) - z n) := by rw [← Un.cg (cg_sub hq _ _), ← invC_un hq]; simp
    rw [e]
    constructor
    · rintro ⟨H, h⟩ k hk
      by_cases ek : k = n
      · subst ek; exact h
      · exact H k (by omega)
    · exact fun H => ⟨fun k hk => H k (by omega), H n (by omega)⟩
theorem noAll_iff {q : Nat} (hq : Good q) {z : Nat → Nat} : ∀ n, noAll q z n = false ↔ ∀ i k, i < n → k < i → Un q ((z i : Int) - z k)
  | 0 => ⟨fun _ j _ hj => absurd hj (by omega), fun _ => rfl⟩
  | n + 1 => by
    unfold noAll
    rw [Bool.or_eq_false_iff, noAll_iff hq n, noRow_iff hq n]
    constructor
    · rintro ⟨H, h⟩ i k hi hk
      by_cases e : i = n
      · subst e; exact h k hk
      · exact H i k (by omega) hk
    · exact fun H => ⟨fun i k hi hk => H i k (by omega) hk, fun k hk => H n k (by omega) hk⟩
/-- The program's weights have their inverses just where the document finds all differences to have them. -/
theorem und_all {q : Nat} (hq : Good q) {z : Nat → Nat} (n : Nat) : (∀ j, j < n → invC (undU q z n j) q = 0) ↔ noAll q z n = false := by
  rw [noAll_iff hq]
  constructor
  · intro H i k hi hk
    exact (un_prod hq z i n).1 ((invC_un hq _).1 (H i hi)) k (by omega) (by omega)
  · intro H j hj
    refine (invC_un hq _).2 ((un_prod hq z j n).2 fun k hk hne => ?_)
    rcases Nat.lt_or_gt_of_ne hne with h | h
    · exact H j k hj h
    · exact Un.swap.1 (H k j hk h)
theorem weightU_mod {q : Nat} (hq : Good q) (z : Nat → Nat) (p i : Nat) : ∀ n, weightU q z p i n % q = weightU q z p i n
  | 0 => by unfold weightU; rw [addU_of hq, Nat.mod_mod]
  | n + 1 => by
    unfold weightU
    by_cases h : n = i
    · rw [if_pos h]; exact weightU_mod hq z p i n
    · rw [if_neg h, mulU_of hq, Nat.mod_mod]
theorem weight_part {q : Nat} (hq : Good q) (z : Nat → Nat) (p i : Nat) : ∀ n, (∀ j, j < n → j ≠ i → Un q ((z i : Int) - z j)) → Cg q (weightU q z p i n * prodL (z i) q z i (List.range n)) (prodL p q z i (List.range n))
  | 0, _ => by
    rw [prodL_zero, prodL_zero]
    unfold weightU
    exact ((cg_add hq 1 0).mul (Cg.refl q _)).trans (.of_eq (by simp))
  | n + 1, H => by
    have ih := weight_part hq z p i n fun j hj hne => H j (by omega) hne
    unfold weightU
    by_cases h : n = i
    · rw [if_pos h]; subst h; rw [prodL_skip, prodL_skip]; exact ih
    · rw [if_neg h]
      have hu := H n (by omega) h
      have hs := cg_sub hq (z i) (z n)
      have hi := invU_cg hq ((Un.cg hs).2 hu)
      generalize invU (subU (z i) (z n) q) q = v at *
      have h1 : Cg q (((z i : Int) - z n) * v) 1 := (hs.symm.mul (Cg.refl q _)).trans hi
      have h2 := (cg_mul hq (weightU q z p i n) (mulU (subU p (z n) q) v q)).trans ((Cg.refl q _).mul ((cg_mul hq (subU p (z n) q) v).trans ((cg_sub hq p (z n)).mul (Cg.refl q _))))
      refine (h2.mul (prodL_succ hq _ z i n h)).trans (Cg.trans ?_ (prodL_succ hq _ z i n h).symm)
      generalize (prodL (z i) q z i (List.range n) : Int) = u at *
      generalize (prodL p q z i (List.range n) : Int) = w at *
      generalize (weightU q z p i n : Int) = x at *
      refine (Cg.of_eq (show x * (((p : Int) - z n) * v) * (u * ((z i : Int) - z n)) = (x * u) * ((p : Int) - z n) * (((z i : Int) - z n) * v) by grind)).trans ?_
      exact ((ih.mul (Cg.refl q _)).mul h1).trans (.of_eq (by simp))
/-- The program's weights are the document's. -/
theorem wgt_eq {q n : Nat} (hq : Good q) {z : Nat → Nat} (p i : Nat) (hi : i < n) (hn : noAll q z n = false) : wgtU p q z n i = weightU q z p i n := by
  have hU := (invC_un hq _).1 ((und_all hq n).2 hn i hi)
  have hw := weight_part hq z p i n ((un_prod hq z i n).1 hU)
  have hv := invU_cg hq hU
  have e : wgtU p q z n i % q = weightU q z p i n % q := by
    refine Cg.nat ?_
    unfold wgtU
    refine (cg_mul hq _ _).trans ?_
    unfold undU at hv ⊢
    refine (hw.symm.mul (Cg.refl q _)).trans ((Cg.of_eq (Int.mul_assoc _ _ _)).trans (((Cg.refl q _).mul hv).trans (.of_eq (by simp))))
  rw [weightU_mod hq] at e
  rw [← e]
  unfold wgtU
  rw [mulU_of hq, Nat.mod_mod]
end MM
end Go.Proofs.Ytebplinighoagaa
namespace Go.Proofs.Ytebplinighoagaa
namespace MM
theorem conv_low {la q c m : Nat} {a b : Nat → Nat} : ∀ i, i < m → convU la 2 q a b m i = 0
  | 0, _ => rfl
  | i + 1, h => by unfold convU; rw [if_neg (by omega)]; exact conv_low (c := c) i (by omega)
theorem times_first {n q c : Nat} (hq : Good q) (a : Nat → Nat) (h : 0 < n) : Cg q (timesU n 2 q a (two c 1) 0) (a 0 * c) := by
  unfold timesU convU
  rw [if_pos ⟨h, by omega⟩]
  exact (cg_add hq _ _).trans (((Cg.refl q _).add (cg_mul hq _ _)).trans (.of_eq (by simp [convU, two])))
theorem times_next {n q c m : Nat} (hq : Good q) (a : Nat → Nat) (h : m < n) : Cg q (timesU n 2 q a (two c 1) (m + 1)) ((if m + 1 < n then (a (m + 1) : Int) * c else 0) + a m) := by
  have h0 : Cg q (convU n 2 q a (two c 1) (m + 1) (m + 1)) (a m) := by
    unfold convU
    rw [if_pos ⟨h, by omega⟩, conv_low (c := c) m (by omega), show m + 1 - m = 1 by omega]
    exact (cg_add hq _ _).trans (((Cg.refl q _).add (cg_mul hq _ _)).trans (.of_eq (by simp [two])))
  unfold timesU convU
  by_cases hm : m + 1 < n
  · rw [if_pos ⟨hm, by omega⟩, if_pos hm, show m + 1 - (m + 1) = 0 by omega]
    exact (cg_add hq _ _).trans ((h0.add (cg_mul hq _ _)).trans (.of_eq (by simp [two]; omega)))
  · rw [if_neg (by omega), if_neg hm]
    exact h0.trans (.of_eq (by simp))
theorem eval_succ {q : Nat} (hq : Good q) (a : Nat → Nat) (x n : Nat) : Cg q (evalU a x q (n + 1)) (evalU a x q n + a n * (x : Int) ^ n) := by
  rw [evalU]
  exact (cg_add hq _ _).trans ((Cg.refl q _).add ((cg_mul hq _ _).trans ((Cg.refl q _).mul (cg_pow hq x n))))
theorem eval_part {n q c : Nat} (hq : Good q) (a : Nat → Nat) (x : Nat) : ∀ m, m < n → Cg q (evalU (timesU n 2 q a (two c 1)) x q (m + 1)) (evalU a x q (m + 1) * c + evalU a x q m * x)
  | 0, h => by
    refine (eval_succ hq _ x 0).trans ((((Cg.refl q _).add ((times_first hq a h).mul (Cg.refl q _)))).trans (Cg.trans ?_ (((eval_succ hq a x 0).mul (Cg.refl q _)).add (Cg.refl q _)).symm))
    exact .of_eq (by simp [evalU])
  | m + 1, h => by
    have ih := eval_part (n := n) (c := c) hq a x m (by omega)
    have h1 := times_next (n := n) (m := m) (c := c) hq a (by omega)
    rw [if_pos h] at h1
    refine (eval_succ hq _ x (m + 1)).trans ((ih.add (h1.mul (Cg.refl q _))).trans (Cg.trans ?_ (((eval_succ hq a x (m + 1)).mul (Cg.refl q _)).add ((eval_succ hq a x m).mul (Cg.refl q _))).symm))
    refine .of_eq ?_
    rw [Int.pow_succ]
    grind
/-- The value of a product by a factor of degree one. -/
theorem eval_times {n q c : Nat} (hq : Good q) (a : Nat → Nat) (x : Nat) : Cg q (evalU (timesU (n + 1) 2 q a (two c 1)) x q (n + 1 + 1)) (evalU a x q (n + 1) * ((c : Int) + x)) := by
  have h1 := eval_part (n := n + 1) (c := c) hq a x n (by omega)
  have h2 := times_next (n := n + 1) (c := c) hq a (show n < n + 1 by omega)
  rw [if_neg (by omega)] at h2
  have h4 := (Cg.refl q ((evalU a x q (n + 1) : Int) * c)).add ((eval_succ hq a x n).symm.mul (Cg.refl q (x : Int)))
  refine (eval_succ hq _ x (n + 1)).trans ((h1.add (h2.mul (Cg.refl q _))).trans ((Cg.of_eq ?_).trans (h4.trans (.of_eq (by rw [Int.mul_add])))))
  rw [Int.pow_succ]
  grind
theorem un_none {q : Nat} (hq : Good q) (z : Nat → Nat) (x : Nat) : ∀ k, Un q (evalU (noneU q z k) x q (k + 1)) ↔ ∀ j, j < k → Un q ((x : Int) - z j)
  | 0 => by
    refine ⟨fun _ j hj => absurd hj (by omega), fun _ => ?_⟩
    refine (Un.cg ((eval_succ hq _ x 0).trans ?_)).2 (Un.one q)
    refine ((Cg.refl q _).add ((cg_add hq 1 0).mul (Cg.refl q _))).trans (.of_eq ?_)
    simp [evalU]
  | k + 1 => by
    have h := eval_times (n := k) (c := subU 0 (z k) q) hq (noneU q z k) x
    have h2 : Cg q (((subU 0 (z k) q : Nat) : Int) + x) ((x : Int) - z k) := ((cg_sub hq 0 (z k)).add (Cg.refl q _)).trans (.of_eq (by simp; omega))
    rw [show noneU q z (k + 1) = timesU (k + 1) 2 q (noneU q z k) (two (subU 0 (z k) q) 1) from rfl, Un.cg (h.trans ((Cg.refl q _).mul h2)), Un.mul, un_none hq z x k]
    constructor
    · rintro ⟨H, h1⟩ j hj
      by_cases e : j = k
      · subst e; exact h1
      · exact H j (by omega)
    · exact fun H => ⟨fun j hj => H j (by omega), H k (by omega)⟩
theorem one_none {q : Nat} (hq : Good q) (h1 : q ≠ 1) (z : Nat → Nat) : noneU q z 0 = fun _ => 1 := by
  have := hq.1
  funext k
  show addU 1 0 q = 1
  rw [addU_of hq, Nat.mod_eq_of_lt (by omega)]
/-- The program's steps are the document's. -/
theorem st_eq {q : Nat} (hq : Good q) (h1 : q ≠ 1) (z y : Nat → Nat) : ∀ n, stP q z y (List.range n) = (n, thruU q z y n, noneU q z n)
  | 0 => by rw [one_none hq h1]; rfl
  | n + 1 => by
    rw [List.range_succ, stP_snoc, st_eq hq h1 z y n]
    unfold stepP facP invP
    rw [horn_eval, horn_eval]
    rfl
theorem un_all1 (a : Int) : Un 1 a := ⟨0, -1, by simp⟩
theorem thr_all {q : Nat} (hq : Good q) {z y : Nat → Nat} (n : Nat) : (∀ k, k < n → invC (invP q z (stP q z y (List.range k)) k) q = 0) ↔ noAll q z n = false := by
  rw [noAll_iff hq]
  by_cases h1 : q = 1
  · subst h1
    exact ⟨fun _ _ _ _ _ => un_all1 _, fun _ k _ => (invC_un hq _).2 (un_all1 _)⟩
  · have e : ∀ k, invP q z (stP q z y (List.range k)) k = evalU (noneU q z k) (z k) q (k + 1) := fun k => by
      rw [st_eq hq h1]; unfold invP; rw [horn_eval]
    constructor
    · intro H i k hi hk
      have h := H i hi
      rw [e, invC_un hq, un_none hq] at h
      exact h k hk
    · intro H k hk
      rw [e, invC_un hq, un_none hq]
      exact fun j hj => H k j hk hj
theorem thr_eq {q : Nat} (hq : Good q) (z y : Nat → Nat) (n k : Nat) : (stP q z y (List.range n)).2.1 k = thruU q z y n k := by
  by_cases h1 : q = 1
  · subst h1
    cases n with
    | zero => rfl
    | succ n =>
      rw [List.range_succ, stP_snoc]
      show sumU _ _ 1 _ _ k = sumU _ _ 1 _ _ k
      unfold sumU
      rw [addU_of hq, addU_of hq, Nat.mod_one, Nat.mod_one]
  · rw [st_eq hq h1]
/-- What is told of places, where the two ask it of unlike numbers. -/
theorem wrongU_yes {q n : Nat} {z : Nat → Nat} (hq : Good q) (hn : n ≤ 1024) (hT : tw6 q z n = 0) (h : noAll q z n = false) : wrongU q n z = 0 := by
  have ht : twAll q z n ≠ true := fun e => by unfold tw6 at hT; rw [if_pos e] at hT; omega
  unfold wrongU wrongB
  rw [if_neg (fun h => h hq), if_neg (by omega), if_neg ht, h]
  rfl
theorem wrongU_five {q n : Nat} {z : Nat → Nat} (hq : Good q) (hn : n ≤ 1024) (hT : tw6 q z n = 0) (h : noAll q z n ≠ false) : wrongU q n z = 5 := by
  have ht : twAll q z n ≠ true := fun e => by unfold tw6 at hT; rw [if_pos e] at hT; omega
  unfold wrongU wrongB
  rw [if_neg (fun h => h hq), if_neg (by omega), if_neg ht, if_pos (by simpa using h)]
theorem wrongU_six {q n : Nat} {z : Nat → Nat} (hq : Good q) (hn : n ≤ 1024) (hT : tw6 q z n ≠ 0) : wrongU q n z = 6 ∧ tw6 q z n = 6 := by
  have ht : twAll q z n = true := Classical.byContradiction fun e => hT (by unfold tw6; rw [if_neg e])
  unfold wrongU wrongB tw6
  rw [if_neg (fun h => h hq), if_neg (by omega), if_pos ht, if_pos ht]
  exact ⟨rfl, rfl⟩
end MM
end Go.Proofs.Ytebplinighoagaa
namespace Go.Proofs.Ytebplinighoagaa
open Go Go.RowKit Go.Lib
namespace M
set_option maxHeartbeats 1000000 in
theorem rthrough_len (xo yo : Option Addr) (n m cx cy q : Nat) (y : Nat → Nat) (hne : n ≠ m) (W : World) :
    Calls Try.prog 24 #[.slice xo n cx, .slice yo m cy, .int .u64 (q : Int)] W (Gives2 W 0 y 1) := by
  have HS := Lib.hid (Own.start W y)
  have b0 : ((n : Int) == (m : Int)) = false := by simp; omega
  have b1 : ((n : Int) != (m : Int)) = true := by rw [bne, b0]; rfl
  by_cases hq : MM.Good q
  · have HY := rmay_yes q hq
    clear hq
    go_enter Try.func24, Try.ntmps24
    go_wp2_with (go_at_call 34; (with_reducible refine (HY.at _).mono ?_); rintro e w' ⟨rfl, nd, rfl⟩)
    go_ret2
    exact (HS.out.drewN _).gives2 1
  · have HY := rmay_no q hq
    clear hq
    go_enter Try.func24, Try.ntmps24
    go_wp2_with (go_at_call 34; (with_reducible refine (HY.at _).mono ?_); rintro e w' ⟨rfl, nd, rfl⟩)
    go_ret2
    exact (HS.out.drewN _).gives2 1
set_option maxHeartbeats 1000000 in
theorem rthrough_bad (xo yo : Option Addr) (n m cx cy q : Nat) (y : Nat → Nat) (hq : ¬ MM.Good q) (W : World) :
    Calls Try.prog 24 #[.slice xo n cx, .slice yo m cy, .int .u64 (q : Int)] W (Gives2 W 0 y 1) := by
  have HS := Lib.hid (Own.start W y)
  have HY := rmay_no q hq
  clear hq
  go_enter Try.func24, Try.ntmps24
  go_wp2_with (go_at_call 34; (with_reducible refine (HY.at _).mono ?_); rintro e w' ⟨rfl, nd, rfl⟩)
  go_ret2
  exact (HS.out.drewN _).gives2 1
set_option maxHeartbeats 1000000 in
theorem rthrough_no (xo yo : Option Addr) (n cx cy q : Nat) (z y : Nat → Nat) (hq : MM.Good q) (W : World) (hr : Rd W xo n z) (hw : MM.wrongU q n z ≠ 0) :
    Calls Try.prog 24 #[.slice xo n cx, .slice yo n cy, .int .u64 (q : Int)] W (Gives2 W 0 y (MM.wrongU q n z)) := by
  have HWr := Lib.hid (fun (W' : World) (hb : Below W.heap.size W W') => rwrong_any xo n cx q z W' (hr.below hb))
  have HS := Lib.hid (Own.start W y)
  have HY := rmay_yes q hq
  obtain ⟨c, hc⟩ : ∃ c, MM.wrongU q n z = c := ⟨_, rfl⟩
  rw [hc] at HWr hw ⊢
  have b0 : (c == 0) = false := by simpa using hw
  have b1 : (c != 0) = true := by rw [bne, b0]; rfl
  have b2 : ((n : Int) == (n : Int)) = true := by simp
  clear hr hw hc hq
  go_enter Try.func24, Try.ntmps24
  go_wp2_with (first | (go_at_call 34; (with_reducible refine (HY.at _).mono ?_); rintro e w' ⟨rfl, nd, rfl⟩) | (go_at_call 39; (refine (HWr.out _ (by first | exact below_drewN' _ _ _ | exact Below.refl _ _)).mono ?_); rintro e w' ⟨rfl, nd, rfl⟩))
  go_ret2
  exact (HS.out.drewN _).gives2 c
end M
end Go.Proofs.Ytebplinighoagaa
namespace Go.Proofs.Ytebplinighoagaa
open Go Go.RowKit Go.Lib
namespace M
set_option maxHeartbeats 1000000 in
theorem sort_long (W0 : World) (B n cap : Nat) (z : Nat → Nat) (h12 : 12 < n) (h15 : n < 15) (w : World) (hM : Mine W0 B n z w) :
    Calls Try.prog 42 #[.slice (some ⟨B, 0, none⟩) n cap] w fun e w' => e = .returned (.tuple #[]) ∧ Srt W0 B n 0 n z (MM.Asc 0 n) w' := by
  have hb : Lib.bitLen n = 4 := by rcases (by omega : n = 13 ∨ n = 14) with rfl | rfl <;> decide
  have HL := Lib.hid (Try.bits_Len (n : Int) w (by omega) (by omega))
  have HPP := Lib.hid (pdq_long W0 B n cap z h15 w hM)
  clear hM
  go_enter Try.func42, Try.ntmps42
  go_wp2_with (first | (go_at_call 52; (with_reducible refine HL.out.mono ?_); rintro e w' ⟨rfl, rfl⟩) | (go_at_call 51; (refine HPP.out.mono ?_); rintro e w' ⟨rfl, hs⟩; have HS := Lib.hid hs; clear hs))
  go_end0
  exact ⟨rfl, HS.out⟩
theorem sorts14 (n : Nat) (hn : n ≤ 14) : Sorts n := by
  by_cases h : n ≤ 12
  · exact sorts_short n h
  · exact fun W0 B z w hM => sort_long W0 B n n z (by omega) (by omega) w hM
end M
end Go.Proofs.Ytebplinighoagaa
namespace Go.Proofs.Ytebplinighoagaa
open Go Go.RowKit Go.Lib
namespace M
theorem RowB.congr {lo : Nat} {W : World} {v : Value} {n : Nat} {z y : Nat → Nat} (h : RowB lo W v n z) (e : ∀ k, k < n → z k = y k) : RowB lo W v n y := by
  rcases h with h | ⟨B, cs, h0, h1, h2, h3, h4⟩
  · exact .inl h
  · exact .inr ⟨B, cs, h0, h1, h2, h3, fun k hk => by rw [h4 k hk, e k hk]⟩
theorem RowB.told {lo : Nat} {W w' : World} {v : Value} {n : Nat} {z : Nat → Nat} (h : RowB lo W v n z) (hk : ∀ k, lo ≤ k → k < W.heap.size → w'.heap[k]? = W.heap[k]?) : RowB lo w' v n z := by
  rcases h with h | ⟨B, cs, h0, h1, h2, h3⟩
  · exact .inl h
  · exact .inr ⟨B, cs, h0, h1, (hk B h1 (row_lt h2)).trans h2, h3⟩
theorem Rd.told {lo : Nat} {W w' : World} {bo : Option Addr} {n : Nat} {z : Nat → Nat} (h : Rd W bo n z) (hl : ∀ ad, bo = some ad → lo ≤ ad.block ∧ ad.block < W.heap.size) (hk : ∀ k, lo ≤ k → k < W.heap.size → w'.heap[k]? = W.heap[k]?) : Rd w' bo n z := fun hn => by
  obtain ⟨ad, e, hr⟩ := h hn
  refine ⟨ad, e, fun k hk' => ?_⟩
  rw [← hr k hk']
  have hb := hl ad e
  have hbk : (ad.add k).block = ad.block := by unfold Addr.add; split <;> rfl
  unfold World.cell?
  rw [hbk, hk ad.block hb.1 hb.2]
theorem RowB.lt {lo : Nat} {W : World} {v : Value} {n : Nat} {z : Nat → Nat} (h : RowB lo W v n z) {k c : Nat} (hk : W.heap.size ≤ k) : v ≠ .slice (some ⟨k, 0, none⟩) n c := by
  rcases h with ⟨_, rfl⟩ | ⟨B, cs, rfl, _, h2, _⟩
  · intro h; cases h
  · intro h
    have := row_lt h2
    injection h with h3 _ _
    injection h3 with h4
    injection h4 with h5
    omega
set_option maxHeartbeats 4000000 in
theorem told_kept (v : Value) (bo : Option Addr) (n cb lo : Nat) (z : Nat → Nat) (hn : n ≤ 1000000) (W : World) (hv : RowB lo W v n z) (hw : Rd W bo n z) :
    Calls Try.prog 16 #[v, .slice bo n cb] W fun e w' => e = .returned (.bool true) ∧ Below lo W w' ∧ ∀ k, k < W.heap.size → v ≠ .slice (some ⟨k, 0, none⟩) n n → w'.heap[k]? = W.heap[k]? := by
  rcases hv with ⟨rfl, rfl⟩ | ⟨B, cs, rfl, hlo, h1, h2, h3⟩
  · have HN := Lib.hid (rnumbers_yes none bo 0 0 cb z (by omega) W (fun h => absurd h (by omega)) hw)
    clear hw
    go_enter Try.func16, Try.ntmps16
    go_wp2_with (go_at_call 15; (with_reducible refine HN.out.mono ?_); rintro e w' ⟨rfl, nd, rfl⟩)
    refine wp_loop_rounds 1 ?_
    rw [rounds_succ]
    go_wp2_with fail
    go_ret
    exact ⟨rfl, below_drewN' _ _ _, fun _ _ _ => rfl⟩
  · have hrd : Rd W (some ⟨B, 0, none⟩) n z := fun _ => ⟨_, rfl, Row.of_block h1 h3⟩
    have HN := Lib.hid (rnumbers_yes (some ⟨B, 0, none⟩) bo n n cb z (by omega) W hrd hw)
    have HM0 : Hid (Mine { W with heap := #[] } B n z W) := Lib.hid ⟨⟨cs, h1, h2, h3⟩, Nat.zero_le _, ⟨rfl, rfl, rfl, Nat.zero_le _, fun k hk => absurd hk (Nat.not_lt_zero _)⟩⟩
    clear hw hrd h1 h2 h3
    go_enter Try.func16, Try.ntmps16
    go_upto_region 2 with (go_at_call 15; (with_reducible refine HN.out.mono ?_); rintro e w' ⟨rfl, nd, rfl⟩)
    have HM1 := Lib.hid (HM0.out.drewN nd)
    have HB1 := Lib.hid (And.intro (below_drewN' W nd B) (show Kept B W (W.drewN nd) from fun _ _ _ => rfl))
    clear HM0 HN
    generalize W.drewN nd = W1 at *
    go_wp2_with fail
    go_loopw [6] (fun s6 wx => ∃ k : Nat, k ≤ n ∧ s6 = .int .i64 (k : Int) ∧ Hid (∃ y, Mine { W with heap := #[] } B n y wx) ∧ Hid (Below B W wx ∧ Kept B W wx)) (fun s6 _ => n - (RowKit.intOf s6).toNat)
    case atStart => exact ⟨0, Nat.zero_le _, rfl, Lib.hid ⟨_, HM1.out⟩, HB1⟩
    case round =>
      clear HM1 HB1
      obtain ⟨k, hk, rfl, HM, HB⟩ := hrel
      rename_i wr
      by_cases hlt : k < n
      · obtain ⟨y, hm⟩ := HM.out
        have hc := hm.cell hlt
        have hf := hm.free k
        have HN : Hid (Mine { W with heap := #[] } B n (fun j => if j = k then 77 else y j) (wr.setCell ⟨B, k, none⟩ (.int .u64 77))) := Lib.hid (hm.set k 77 (fun _ _ => rfl))
        have HB2 := Lib.hid (And.intro (HB.out.1.setCell (p := ⟨B, k, none⟩) (Nat.le_refl _) (.int .u64 77)) (HB.out.2.setCell k (.int .u64 77)))
        have p1 : (0 : Int) ≤ (k : Int) := Int.natCast_nonneg _
        have p2 : (k : Int) < (n : Int) := by omega
        clear hm
        go_wp2_with fail
        go_roundw
        case rel => exact ⟨k + 1, by omega, by go_num, Lib.hid ⟨_, HN.out⟩, HB2⟩
        case measure => simp [RowKit.intOf]; omega
      · obtain rfl : k = n := by omega
        go_wp2_with fail
        go_ret
        exact ⟨rfl, HB.out.1.mono hlo, fun k hk hne => HB.out.2 k hk (fun e => hne (by rw [e]))⟩
/-- A call of the program beside the document's: both hand back the same numbers, each in new memory, and the same error. -/
def Pair3 (W0 : World) (f g : FuncId) (xs ys : Array Value) : Prop := ∃ (n : Nat) (z : Nat → Nat) (c : Int), n ≤ 1000 ∧
  (∀ W, Below W0.heap.size W0 W → Calls Try.prog f xs W fun e w' => ∃ v, e = .returned (.tuple #[v, .int .i64 c]) ∧ RowB W.heap.size w' v n z ∧ Below W.heap.size W w') ∧
  (∀ W, Below W0.heap.size W0 W → Calls Try.prog g ys W fun e w' => ∃ bo cb, e = .returned (.tuple #[.slice bo n cb, .int .i64 c]) ∧ Rd w' bo n z ∧ Below W.heap.size W w' ∧ ∀ ad, bo = some ad → W.heap.size ≤ ad.block ∧ ad.block < w'.heap.size)
theorem gives2_rd {W w' : World} {n : Nat} {z : Nat → Nat} {c : Int} {e : Ending} (h : Gives2 W n z c e w') : ∃ bo cb, e = .returned (.tuple #[.slice bo n cb, .int .i64 c]) ∧ Rd w' bo n z ∧ Below W.heap.size W w' ∧ ∀ ad, bo = some ad → W.heap.size ≤ ad.block ∧ ad.block < w'.heap.size := by
  obtain ⟨v, rfl, ho, hb⟩ := h
  obtain ⟨bo, cb, rfl, hr⟩ := own_rd ho hb.size
  refine ⟨bo, cb, rfl, hr, hb, fun ad h => ?_⟩
  subst h
  rcases ho.2 with ⟨h, _⟩ | ⟨g, cap, cur, h, h1, h2, _⟩
  · cases h
  · injection h with h3 _ _
    injection h3 with h4
    subst h4
    exact ⟨h1, row_lt h2⟩
theorem pair_no {W0 : World} {f g : FuncId} {xs ys : Array Value} (c : Int) (z : Nat → Nat)
    (h1 : ∀ W, Below W0.heap.size W0 W → Calls Try.prog f xs W fun e w' => e = .returned (.tuple #[.slice none 0 0, .int .i64 c]) ∧ Below W.heap.size W w')
    (h2 : ∀ W, Below W0.heap.size W0 W → Calls Try.prog g ys W (Gives2 W 0 z c)) : Pair3 W0 f g xs ys :=
  ⟨0, z, c, by omega, fun W h => (h1 W h).mono fun _ _ ⟨he, hb⟩ => ⟨_, he, .inl ⟨rfl, rfl⟩, hb⟩, fun W h => (h2 W h).mono fun _ _ hg => gives2_rd hg⟩
theorem good_no {q n : Nat} {z : Nat → Nat} (h : ¬ MM.Good q) : MM.wrongU q n z = 1 := by unfold MM.wrongU; rw [if_pos h]
section
variable {W0 : World} {ao bo co do_ : Option Addr} {la ca lb cb cc cd q : Nat} {a b : Nat → Nat}
theorem pair_weights (p : Nat) (hal : ∀ j, a j < 18446744073709551616) (hla : la ≤ 14) (hc : Rd W0 co la a) (ha : Rd W0 ao la a) :
    Pair3 W0 7 23 #[.slice co la cc, .int .u64 (p : Int), .int .u64 (q : Int)] #[.slice ao la ca, .int .u64 (p : Int), .int .u64 (q : Int)] := by
  by_cases hq : MM.Good q
  · by_cases hT : MM.tw6 q a la = 0
    · by_cases hN : MM.noAll q a la = false
      · have hw := MM.wrongU_yes hq (by omega) hT hN
        refine ⟨la, fun i => MM.weightU q a p i la, 0, by omega, fun W h => (weights_good co la cc p q a hal hq (by omega) (sorts14 la hla) hT W (hc.below h)).mono ?_, fun W h => (rweights_yes ao la ca p q a W (ha.below h) hw).mono fun _ _ hg => gives2_rd hg⟩
        rintro e w' (⟨B, he, hm, _⟩ | ⟨_, _, j, hj, hne⟩)
        · exact ⟨_, he, (hm.rowB (Nat.le_refl _)).congr (fun i hi => MM.wgt_eq hq p i hi hN), hm.below⟩
        · exact absurd ((MM.und_all hq la).2 hN j hj) hne
      · have hw := MM.wrongU_five hq (by omega) hT hN
        refine pair_no 5 a (fun W h => (weights_good co la cc p q a hal hq (by omega) (sorts14 la hla) hT W (hc.below h)).mono ?_) (fun W h => hw ▸ rweights_no ao la ca p q a a W (ha.below h) (by rw [hw]; omega))
        rintro e w' (⟨B, he, hm, hall⟩ | ⟨he, hb, _⟩)
        · exact absurd ((MM.und_all hq la).1 hall) hN
        · exact ⟨he, hb⟩
    · obtain ⟨hw, h6⟩ := MM.wrongU_six hq (show la ≤ 1024 by omega) hT
      exact pair_no 6 a (fun W h => weights_err co la cc p q 6 (by decide) W fun W' hb => (check_good co la cc q a hal hq (by omega) (sorts14 la hla) W' (hc.below (Below.tr h hb))).mono fun e w' ⟨he, hw'⟩ => ⟨by rw [he, h6], hw'⟩)
        (fun W h => hw ▸ rweights_no ao la ca p q a a W (ha.below h) (by rw [hw]; omega))
  · have hw : MM.wrongU q la a = 1 := good_no hq
    exact pair_no 1 a (fun W h => weights_err co la cc p q 1 (by decide) W fun W' _ => (check_bad _ _ _ _ hq W').mono fun e w' ⟨he, hw'⟩ => ⟨he, hw' ▸ Below.refl _ _⟩)
      (fun W h => hw ▸ rweights_no ao la ca p q a a W (ha.below h) (by rw [hw]; omega))
theorem pair_through (hal : ∀ j, a j < 18446744073709551616) (hbl : ∀ j, b j < 18446744073709551616) (hla : la ≤ 14) (hc : Rd W0 co la a) (hd : Rd W0 do_ lb b) (ha : Rd W0 ao la a) (hb : Rd W0 bo lb b) :
    Pair3 W0 8 24 #[.slice co la cc, .slice do_ lb cd, .int .u64 (q : Int)] #[.slice ao la ca, .slice bo lb cb, .int .u64 (q : Int)] := by
  by_cases hl : la = lb
  · subst hl
    by_cases hq : MM.Good q
    · by_cases hT : MM.tw6 q a la = 0
      · by_cases hN : MM.noAll q a la = false
        · have hw := MM.wrongU_yes hq (by omega) hT hN
          refine ⟨la, MM.thruU q a b la, 0, by omega, fun W h => (through_good co do_ la cc cd q a b hal hbl hq (by omega) (sorts14 la hla) hT W (hc.below h) (hd.below h)).mono ?_, fun W h => (rthrough_yes ao bo la ca cb q a b hal W (ha.below h) (hb.below h) hw).mono fun _ _ hg => gives2_rd hg⟩
          rintro e w' (⟨v, he, hm, hbb, _⟩ | ⟨_, _, k, hk, hne⟩)
          · exact ⟨v, he, hm.congr (fun i _ => MM.thr_eq hq a b la i), hbb⟩
          · exact absurd ((MM.thr_all hq la).2 hN k hk) hne
        · have hw := MM.wrongU_five hq (by omega) hT hN
          refine pair_no 5 a (fun W h => (through_good co do_ la cc cd q a b hal hbl hq (by omega) (sorts14 la hla) hT W (hc.below h) (hd.below h)).mono ?_) (fun W h => hw ▸ rthrough_no ao bo la ca cb q a a hq W (ha.below h) (by rw [hw]; omega))
          rintro e w' (⟨v, he, hm, hbb, hall⟩ | ⟨he, hbb, _⟩)
          · exact absurd ((MM.thr_all hq la).1 hall) hN
          · exact ⟨he, hbb⟩
      · obtain ⟨hw, h6⟩ := MM.wrongU_six hq (show la ≤ 1024 by omega) hT
        exact pair_no 6 a (fun W h => through_err co do_ la cc cd q 6 (by decide) W fun W' hbb => (check_good co la cc q a hal hq (by omega) (sorts14 la hla) W' (hc.below (Below.tr h hbb))).mono fun e w' ⟨he, hw'⟩ => ⟨by rw [he, h6], hw'⟩)
          (fun W h => hw ▸ rthrough_no ao bo la ca cb q a a hq W (ha.below h) (by rw [hw]; omega))
    · exact pair_no 1 a (fun W h => through_err co do_ la cc cd q 1 (by decide) W fun W' _ => (check_bad _ _ _ _ hq W').mono fun e w' ⟨he, hw'⟩ => ⟨he, hw' ▸ Below.refl _ _⟩) (fun W h => rthrough_bad ao bo la la ca cb q a hq W)
  · exact pair_no 1 a (fun W h => through_len co do_ la lb cc cd q hl W) (fun W h => rthrough_len ao bo la lb ca cb q a hl W)
end
end M
end Go.Proofs.Ytebplinighoagaa
namespace Go.Proofs.Ytebplinighoagaa
open Go.ChangeShapes Go.WideShapes Go.ChangeAt Go.RowKit
namespace PolyThrough
open M

set_option maxHeartbeats 4000000 in
theorem core (ao bo : Option Addr) (la ca lb cb p q : Nat) (a b : Nat → Nat) (hal : ∀ j, a j < 18446744073709551616) (hbl : ∀ j, b j < 18446744073709551616) (hla : la ≤ 14) (hlb : lb ≤ 40) (W : World) (ha : Src W ao la ca a) (hb : Src W bo lb cb b) :
    Calls Try.prog 5 #[.slice ao la ca, .slice bo lb cb, .int .u64 (p : Int), .int .u64 (q : Int)] W fun e w' => e = .returned (.bool true) ∧ Below W.heap.size W w' := by
  obtain ⟨co, cc, W2, hr1, hc2, hb2⟩ := copy_run W ao la ca a (by omega) ha
  obtain ⟨do_, cd, W3, hr2, hd3, hb3⟩ := copy_run W2 bo lb cb b (by omega) (hb.below hb2)
  have hb4 := Below.tr hb2 hb3
  have hca := hc2.below hb3
  have has := ha.1.below hb4
  have hbs := hb.1.below hb4
  obtain ⟨n1, z1, c1, hn1, ps1, pr1⟩ := pair_weights (q := q) (cc := cc) (ca := ca) p hal hla hca has
  obtain ⟨n2, z2, c2, hn2, ps2, pr2⟩ := pair_through (q := q) (cc := cc) (cd := cd) (ca := ca) (cb := cb) hal hbl hla hca hd3 has hbs
  have N1 := Lib.hid fun W' (h : Below W3.heap.size W3 W') => rnumbers_yes co ao la cc ca a (by omega) W' (hca.below h) (has.below h)
  have N2 := Lib.hid fun W' (h : Below W3.heap.size W3 W') => rnumbers_yes do_ bo lb cd cb b (by omega) W' (hd3.below h) (hbs.below h)
  replace ps1 := Lib.hid ps1
  replace pr1 := Lib.hid pr1
  replace ps2 := Lib.hid ps2
  replace pr2 := Lib.hid pr2
  replace hb4 := Lib.hid hb4
  have q1 : ¬ (14 : Int) < (la : Int) := by omega
  have q2 : ¬ (40 : Int) < (lb : Int) := by omega
  clear hc2 hd3 hb3 hb2 hca has hbs ha hb
  go_enter Try.func5, Try.ntmps5
  go_wp2_with (at_builtin; first | refine Lib.wpList_append_run _ rfl _ _ _ _ rfl _ _ rfl rfl _ _ hr1 ?_ | refine Lib.wpList_append_run _ rfl _ _ _ _ rfl _ _ rfl rfl _ _ hr2 ?_)
  clear hr1 hr2
  have HJ0 : Hid (Below W3.heap.size W3 W3) := Lib.hid (Below.refl _ _)
  go_loopw [11] (fun sm wx => ∃ m : Nat, m ≤ 2 ∧ sm = .int .i64 (m : Int) ∧ Hid (Below W3.heap.size W3 wx)) (fun sm _ => 2 - (RowKit.intOf sm).toNat)
  case atStart => exact ⟨0, by omega, rfl, HJ0⟩
  case round =>
    clear HJ0
    obtain ⟨m, hm, rfl, HJ⟩ := hrel
    rename_i wr
    by_cases hlt : m < 2
    · have p1 : (m : Int) < 2 := by omega
      go_wp2_with fail
      refine (ps1.out _ HJ.out).mono ?_
      rintro e u1 ⟨v1, rfl, hp1, hb1⟩
      have HA1 := Lib.hid (Below.tr HJ.out hb1)
      have HL1 := Lib.hid HJ.out.size
      go_wp2_with fail
      refine (pr1.out _ HA1.out).mono ?_
      rintro e t1 ⟨bo1, cb1, rfl, hd1, hc1, _⟩
      have HB1 := Lib.hid (Below.tr HA1.out hc1)
      have HP1 := Lib.hid (hp1.below hc1)
      have HD1 := Lib.hid hd1
      clear hp1 hb1 hd1 hc1 HA1 HJ
      go_wp2_with fail
      refine (ps2.out _ HB1.out).mono ?_
      rintro e u2 ⟨v2, rfl, hp2, hb2⟩
      have HA2 := Lib.hid (Below.tr HB1.out hb2)
      have HLT := Lib.hid (fun (k : Nat) (h : t1.heap.size ≤ k) => HP1.out.lt (c := n1) h)
      have HP1 := Lib.hid (HP1.out.below hb2)
      have HD1 := Lib.hid (HD1.out.below hb2)
      have HS2 := Lib.hid hb2.size
      have HLB := Lib.hid HB1.out.size
      clear hb2 HB1
      go_wp2_with fail
      refine (pr2.out _ HA2.out).mono ?_
      rintro e t2 ⟨bo2, cb2, rfl, hd2, hc2, hbo2⟩
      have HB2 := Lib.hid (Below.tr HA2.out hc2)
      have HP1 := Lib.hid (HP1.out.below hc2)
      have HD1 := Lib.hid (HD1.out.below hc2)
      have HP2 := Lib.hid (hp2.below hc2)
      have HD2 := Lib.hid (And.intro hd2 hbo2)
      clear hp2 hd2 hc2 HA2 hbo2
      have d1 : (c1 == c1) = true := by simp
      have d2 : (c2 == c2) = true := by simp
      go_wp2_with fail
      refine (told_kept v1 bo1 n1 cb1 _ z1 (by omega) t2 HP1.out HD1.out).mono ?_
      rintro e y1 ⟨rfl, hb3, hk3⟩
      have HC1 := Lib.hid (HB2.out.trans (hb3.mono HL1.out))
      have HK3 := Lib.hid (fun k (h : t1.heap.size ≤ k) (h2 : k < t2.heap.size) => hk3 k h2 (HLT.out k h))
      have HP2 := Lib.hid (HP2.out.told HK3.out)
      have HD2 := Lib.hid (HD2.out.1.told (fun ad h => ⟨Nat.le_trans HS2.out (HD2.out.2 ad h).1, (HD2.out.2 ad h).2⟩) HK3.out)
      clear hb3 hk3 HB2 HP1 HD1 HL1 HLT HK3
      go_wp2_with fail
      refine (told_any v2 bo2 n2 cb2 _ z2 (by omega) y1 HP2.out HD2.out).mono ?_
      rintro e y2 ⟨rfl, hb4'⟩
      have HC2 := Lib.hid (HC1.out.trans (hb4'.mono HLB.out))
      clear hb4'
      go_wp2_with fail
      go_roundw
      case rel => exact ⟨m + 1, by omega, by go_num, HC2⟩
      case measure => simp [RowKit.intOf]; omega
    · obtain rfl : m = 2 := by omega
      go_wp2_with fail
      refine (N1.out _ HJ.out).mono ?_
      rintro e u7 ⟨rfl, m7, rfl⟩
      have H7 := Lib.hid (Below.tr HJ.out (below_drewN' _ m7 _))
      go_wp2_with fail
      refine (N2.out _ H7.out).mono ?_
      rintro e u8 ⟨rfl, m8, rfl⟩
      go_wp2_with fail
      refine (awake_any _).mono ?_
      rintro e u9 ⟨rfl, hb1⟩
      have H9 := Lib.hid (Below.tr hb4.out (Below.tr (Below.tr HJ.out (below_drewN' _ (m7 + m8) _)) hb1))
      go_wp2_with fail
      go_ret
      exact ⟨rfl, H9.out⟩
set_option maxHeartbeats 4000000 in
theorem long (ao bo : Option Addr) (la ca lb cb p q : Nat) (hl : 14 < la ∨ 40 < lb) (W : World) :
    Calls Try.prog 5 #[.slice ao la ca, .slice bo lb cb, .int .u64 (p : Int), .int .u64 (q : Int)] W fun e w' => e = .returned (.bool true) ∧ Below W.heap.size W w' := by
  rcases Nat.lt_or_ge 14 la with h | h
  · have q1 : (14 : Int) < (la : Int) := by omega
    go_enter Try.func5, Try.ntmps5
    go_wp2_with (go_at_call 6; refine (awake_any _).mono ?_; rintro e u9 ⟨rfl, hb1⟩; have H9 := Lib.hid hb1; clear hb1)
    go_ret
    exact ⟨rfl, H9.out⟩
  · have q1 : ¬ (14 : Int) < (la : Int) := by omega
    have q2 : (40 : Int) < (lb : Int) := by omega
    go_enter Try.func5, Try.ntmps5
    go_wp2_with (go_at_call 6; refine (awake_any _).mono ?_; rintro e u9 ⟨rfl, hb1⟩; have H9 := Lib.hid hb1; clear hb1)
    go_ret
    exact ⟨rfl, H9.out⟩
theorem nums_src {W : World} {v : Value} (h : NumsIn W v) : ∃ (ao : Option Addr) (n c : Nat) (z : Nat → Nat), v = .slice ao n c ∧ (∀ j, z j < 18446744073709551616) ∧ Src W ao n c z := by
  rcases h with rfl | ⟨a, n, c, z, rfl, _, hz, hr⟩
  · exact ⟨none, 0, 0, fun _ => 0, rfl, fun _ => Nat.zero_lt_succ _, fun h => absurd h (by omega), fun _ => ⟨rfl, rfl⟩⟩
  · exact ⟨some a, n, c, z, rfl, hz, row_rd hr, fun h => by cases h⟩
theorem walk (v0 v1 : Value) (p q : Nat) (_hp : p < 18446744073709551616) (_hq : q < 18446744073709551616) (W : World) (h0 : NumsIn W v0) (h1 : NumsIn W v1) :
    Calls Try.prog 5 #[v0, v1, .int .u64 (p : Int), .int .u64 (q : Int)] W fun e w' => e = .returned (.bool true) ∧ Below W.heap.size W w' := by
  obtain ⟨ao, la, ca, a, rfl, hal, ha⟩ := nums_src h0
  obtain ⟨bo, lb, cb, b, rfl, hbl, hb⟩ := nums_src h1
  by_cases hl : 14 < la ∨ 40 < lb
  · exact long ao bo la ca lb cb p q hl W
  · exact core ao bo la ca lb cb p q a b hal hbl (by omega) (by omega) W ha hb

set_option maxRecDepth 100000 in
theorem lifted (os : Os) (started : os.Started) (H : Type) (enc : TypeId × Value → H) :
    ReturnsInHanded {} Try.checked os 5 .any (Rows.polyThroughSpec.pre6 enc Try.prog Try.f5 Rows.polyThroughRow.domain false) (Rows.polyThroughSpec.post enc Try.prog Try.f5 false true false false) := by
  refine returnsInHanded_of_change (C := Try.checked) M.own started (by kernel_rfl) Try.func5
    (ChangeSpec.witness6 (enc := enc) (C := Try.checked) false ⟨#[], #[.slice none 0 0, .slice none 0 0, .int .u64 0, .int .u64 0], []⟩ 8 (by kernel_rfl) (by kernel_rfl) (by kernel_rfl) (by kernel_rfl)) ?_
  intro W base args ds gs before hval0 hW _ _
  have hval : ∀ (j : Nat) t v, Try.f5.params[j]? = some t → args[j]? = some v → Value.okWide Try.prog W .any base t v := hval0
  have hW' := hW
  obtain ⟨p, q, hA0, hV, rfl, _, _⟩ := hW
  have hA : DataW.TrodAll enc Try.prog W 0 (fun _ => true) true Try.f5.params.toList args.toList ds p := hA0
  rw [Try.params5] at hA hval
  obtain ⟨v0, vs0, d0, ds0, p0, q0, hargs, rfl, rfl, h0, r0⟩ := trodAll_cons hA
  obtain ⟨v1, vs1, d1, ds1, p1, q1, rfl, rfl, rfl, h1, r1⟩ := trodAll_cons r0
  obtain ⟨v2, vs2, d2, ds2, p2, q2, rfl, rfl, rfl, h2, r2⟩ := trodAll_cons r1
  obtain ⟨v3, vs3, d3, ds3, p3, q3, rfl, rfl, rfl, h3, r3⟩ := trodAll_cons r2
  obtain ⟨rfl, rfl, rfl⟩ := trodAll_nil r3
  obtain rfl : args = #[v0, v1, v2, v3] := by cases args; simp_all
  obtain ⟨rfl, rfl⟩ := trodVars_none hV
  have k0 := h0
  have lt0 : ∀ x ∈ p0, x.block < W.heap.size := by obtain ⟨m, hm⟩ := k0; exact DataW.trod_lt m _ _ _ hm
  have ns0 := M.open_nums (hval 0 24 v0 rfl rfl) h0
  have k1 := h1
  have lt1 : ∀ x ∈ p1, x.block < W.heap.size := by obtain ⟨m, hm⟩ := k1; exact DataW.trod_lt m _ _ _ hm
  have ns1 := M.open_nums (hval 1 24 v1 rfl rfl) h1
  have k2 := h2
  have lt2 : ∀ x ∈ p2, x.block < W.heap.size := by obtain ⟨m, hm⟩ := k2; exact DataW.trod_lt m _ _ _ hm
  obtain ⟨x2, rfl, rfl, rfl, w2⟩ := open_int Try.underlying23 (hval 2 23 v2 rfl rfl) h2
  obtain ⟨lo2, hi2⟩ := M.u64_bounds w2
  obtain ⟨a2, rfl⟩ : ∃ a : Nat, x2 = a := ⟨x2.toNat, by omega⟩
  have k3 := h3
  have lt3 : ∀ x ∈ p3, x.block < W.heap.size := by obtain ⟨m, hm⟩ := k3; exact DataW.trod_lt m _ _ _ hm
  obtain ⟨x3, rfl, rfl, rfl, w3⟩ := open_int Try.underlying23 (hval 3 23 v3 rfl rfl) h3
  obtain ⟨lo3, hi3⟩ := M.u64_bounds w3
  obtain ⟨a3, rfl⟩ : ∃ a : Nat, x3 = a := ⟨x3.toNat, by omega⟩
  clear hA0 hval0
  simp only [List.append_nil] at hW'
  refine (walk v0 v1 a2 a3 (by omega) (by omega) W ns0 ns1).mono fun e W' ⟨he, bel⟩ => ?_
  subst he
  exact ⟨_, rfl, _, _, _, [], _, [], hW', (trodAll_cons_mk (shut_bool Try.underlying4 _) trodAll_mk0), (trodAll_cons_mk (Below.trod M.laidOut (by kernel_rfl) (of_decide_eq_true (by kernel_rfl)) k0 bel lt0) (trodAll_cons_mk (Below.trod M.laidOut (by kernel_rfl) (of_decide_eq_true (by kernel_rfl)) k1 bel lt1) (trodAll_cons_mk (Below.trod M.laidOut (by kernel_rfl) (of_decide_eq_true (by kernel_rfl)) k2 bel lt2) (trodAll_cons_mk (Below.trod M.laidOut (by kernel_rfl) (of_decide_eq_true (by kernel_rfl)) k3 bel lt3) trodAll_mk0)))), rfl, bel.frame _, fun h => by cases h⟩

theorem holds : Rows.PolyThroughSaid :=
  OpenClaim.holds_of_wide 5 Try.f5 rfl rfl rfl rfl rfl rfl rfl ⟨rfl, rfl, rfl, rfl, rfl⟩ rfl rfl rfl rfl rfl (by kernel_rfl) Try.func5 (by kernel_rfl)
    (of_decide_eq_true (by kernel_rfl)) (by unfold Func.isWrapper; first | (rw [if_pos (by decide +kernel)]; kernel_rfl) | (rw [if_neg (by decide +kernel)]; exact ⟨rfl, rfl⟩))
    (fun os started H enc _ => lifted os started H enc)

end PolyThrough

theorem polyThrough_holds : Rows.PolyThroughSaid := PolyThrough.holds
#print axioms polyThrough_holds
end Go.Proofs.Ytebplinighoagaa
