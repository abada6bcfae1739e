/- The texts PolyEq2, PolyEq3, one behind the other. -/
import Derived.Test.YtlnlepadninnaaaKN6
import Derived.Test.YtlnlepadninnaaaKN11
/- Plain facts: the program's weights, its polynomial through pairs, and what it refuses, are the document's: numbers alike modulo q, and which of them have inverses. -/
namespace Go.Proofs.Ytlnlepadninnaaa
namespace MM
/-- Alike modulo q. -/
def Cg (q : Nat) (a b : Int) : Prop := ∃ k : Int, a = b + q * k
theorem Cg.refl (q : Nat) (a : Int) : Cg q a a := ⟨0, by simp⟩
theorem Cg.of_eq {q : Nat} {a b : Int} (h : a = b) : Cg q a b := h ▸ Cg.refl q a
theorem Cg.symm {q : Nat} {a b : Int} (h : Cg q a b) : Cg q b a := by obtain ⟨k, e⟩ := h; exact ⟨-k, by grind⟩
theorem Cg.trans {q : Nat} {a b c : Int} (h : Cg q a b) (h' : Cg q b c) : Cg q a c := by obtain ⟨k, e⟩ := h; obtain ⟨l, f⟩ := h'; exact ⟨k + l, by grind⟩
theorem Cg.add {q : Nat} {a b c d : Int} (h : Cg q a b) (h' : Cg q c d) : Cg q (a + c) (b + d) := by obtain ⟨k, e⟩ := h; obtain ⟨l, f⟩ := h'; exact ⟨k + l, by grind⟩
theorem Cg.sub {q : Nat} {a b c d : Int} (h : Cg q a b) (h' : Cg q c d) : Cg q (a - c) (b - d) := by obtain ⟨k, e⟩ := h; obtain ⟨l, f⟩ := h'; exact ⟨k - l, by grind⟩
theorem Cg.mul {q : Nat} {a b c d : Int} (h : Cg q a b) (h' : Cg q c d) : Cg q (a * c) (b * d) := by obtain ⟨k, e⟩ := h; obtain ⟨l, f⟩ := h'; exact ⟨k * d + b * l + q * k * l, by subst e f; grind⟩
theorem Cg.nat {q x y : Nat} (h : Cg q x y) : x % q = y % q := mod_of_int h
theorem cg_nat {q x y : Nat} (h : x % q = y % q) : Cg q x y := int_of_mod h
theorem cg_mod (q x : Nat) : Cg q ((x % q : Nat) : Int) x := cg_nat (Nat.mod_mod _ _)
theorem cg_add {q : Nat} (hq : Good q) (a b : Nat) : Cg q (addU a b q) (a + b) := by rw [addU_of hq]; exact (cg_mod q _).trans (.of_eq (by simp))
theorem cg_mul {q : Nat} (hq : Good q) (a b : Nat) : Cg q (mulU a b q) (a * b) := by rw [mulU_of hq]; exact (cg_mod q _).trans (.of_eq (by simp))
theorem cg_sub {q : Nat} (hq : Good q) (a b : Nat) : Cg q (subU a b q) (a - b) := by unfold subU; rw [if_pos hq]; exact subm_int a b q hq.1
theorem cg_pow {q : Nat} (hq : Good q) (a n : Nat) : Cg q (powU a n q) ((a : Int) ^ n) := by rw [powU_of hq]; exact (cg_mod q _).trans (.of_eq (by simp))
/-- Has an inverse. -/
def Un (q : Nat) (a : Int) : Prop := ∃ u : Int, Cg q (a * u) 1
theorem Un.cg {q : Nat} {a b : Int} (h : Cg q a b) : Un q a ↔ Un q b :=
  ⟨fun ⟨u, hu⟩ => ⟨u, (h.symm.mul (Cg.refl q u)).trans hu⟩, fun ⟨u, hu⟩ => ⟨u, (h.mul (Cg.refl q u)).trans hu⟩⟩
theorem Un.mul {q : Nat} {a b : Int} : Un q (a * b) ↔ Un q a ∧ Un q b := by
  constructor
  · rintro ⟨u, hu⟩
    exact ⟨⟨b * u, (Cg.of_eq (by grind)).trans hu⟩, ⟨a * u, (Cg.of_eq (by grind)).trans hu⟩⟩
  · rintro ⟨⟨u, hu⟩, ⟨v, hv⟩⟩
    exact ⟨u * v, (Cg.of_eq (show a * b * (u * v) = a * u * (b * v) by grind)).trans ((hu.mul hv).trans (.of_eq (by simp)))⟩
theorem Un.neg {q : Nat} {a : Int} (h : Un q a) : Un q (-a) := by obtain ⟨u, hu⟩ := h; exact ⟨-u, (Cg.of_eq (by grind)).trans hu⟩
theorem Un.swap {q : Nat} {a b : Int} : Un q (a - b) ↔ Un q (b - a) := ⟨fun h => by have := h.neg; rwa [show -(a - b) = b - a by omega] at this, fun h => by have := h.neg; rwa [show -(b - a) = a - b by omega] at this⟩
theorem Un.one (q : Nat) : Un q 1 := ⟨1, .of_eq (by simp)⟩
theorem un_gcd {q : Nat} (hq : 0 < q) (a : Nat) : Nat.gcd a q = 1 ↔ Un q a := by
  constructor
  · intro h
    obtain ⟨x, hx⟩ := exists_inv hq h
    exact ⟨x, (Cg.of_eq (by simp)).trans ((cg_nat hx.2).trans (Cg.refl q _))⟩
  · rintro ⟨u, hu⟩
    have h0 := Int.emod_nonneg u (show (q : Int) ≠ 0 by omega)
    have h1 := Int.emod_lt_of_pos u (show (0 : Int) < q by omega)
    refine IsInv.gcd (x := (u % q).toNat) ⟨by omega, Cg.nat ?_⟩
    have e : (((u % q).toNat : Nat) : Int) = u % q := by omega
    have hc : Cg q (u % q) u := ⟨-(u / q), by have := Int.emod_add_mul_ediv u q; grind⟩
    rw [Int.natCast_mul, e]
    exact ((Cg.refl q _).mul hc).trans hu
theorem invC_un {q : Nat} (hq : Good q) (a : Nat) : invC a q = 0 ↔ Un q a := by
  rw [← un_gcd hq.1]
  unfold invC
  rw [if_pos hq]
  by_cases h : Nat.gcd a q = 1
  · rw [if_pos h]; exact ⟨fun _ => h, fun _ => rfl⟩
  · rw [if_neg h]; exact ⟨fun h' => absurd h' (by omega), fun h' => absurd h' h⟩
theorem invU_cg {q : Nat} (hq : Good q) {a : Nat} (h : Un q a) : Cg q (a * invU a q) 1 := by
  obtain ⟨x, hx⟩ := exists_inv hq.1 ((un_gcd hq.1 a).2 h)
  rw [invU_of hq hx]
  exact (Cg.of_eq (by simp)).trans ((cg_nat hx.2).trans (Cg.refl q _))
/-- A factor of the program's. -/
theorem cg_fac {q : Nat} (hq : Good q) (x c : Nat) : Cg q (addU x (subU 0 c q) q) (x - c) :=
  (cg_add hq _ _).trans (((Cg.refl q _).add (cg_sub hq 0 c)).trans (.of_eq (by simp; omega)))
theorem prodL_succ {q : Nat} (hq : Good q) (x : Nat) (z : Nat → Nat) (i n : Nat) (h : n ≠ i) : Cg q (prodL x q z i (List.range (n + 1))) (prodL x q z i (List.range n) * ((x : Int) - z n)) := by
  rw [List.range_succ, prodL_other h]
  exact (cg_mul hq _ _).trans ((Cg.refl q _).mul (cg_fac hq _ _))
theorem prodL_skip (q x : Nat) (z : Nat → Nat) (i : Nat) : prodL x q z i (List.range (i + 1)) = prodL x q z i (List.range i) := by rw [List.range_succ, prodL_same]
theorem prodL_zero (q x : Nat) (z : Nat → Nat) (i : Nat) : prodL x q z i (List.range 0) = 1 := rfl
theorem un_prod {q : Nat} (hq : Good q) (z : Nat → Nat) (i : Nat) : ∀ n, Un q (prodL (z i) q z i (List.range n)) ↔ ∀ j, j < n → j ≠ i → Un q ((z i : Int) - z j)
  | 0 => ⟨fun _ j hj => absurd hj (by omega), fun _ => by rw [prodL_zero]; exact Un.one q⟩
  | n + 1 => by
    by_cases h : n = i
    · subst h
      rw [prodL_skip, un_prod hq z n n]
      exact ⟨fun H j hj hne => H j (by omega) hne, fun H j hj hne => H j (by omega) hne⟩
    · rw [Un.cg (prodL_succ hq _ z i n h), Un.mul, un_prod hq z i n]
      constructor
      · rintro ⟨H, h1⟩ j hj hne
        by_cases e : j = n
        · subst e; exact h1
        · exact H j (by omega) hne
      · exact fun H => ⟨fun j hj hne => H j (by omega) hne, H n (by omega) h⟩
theorem noRow_iff {q : Nat} (hq : Good q) {z : Nat → Nat} {i : Nat} : ∀ n, noRow q z i n = false ↔ ∀ k, k < n → Un q ((z i : Int) - z k)
  | 0 => ⟨fun _ j hj => absurd hj (by omega), fun _ => rfl⟩
  | n + 1 => by
    unfold noRow
    rw [Bool.or_eq_false_iff, noRow_iff hq n]
    have e : (invC (subU (z i) (z n) q) q != 0) = false ↔ Un q ((z i : Int) - z n) := by rw [← Un.cg (cg_sub hq _ _), ← invC_un hq]; simp
    rw [e]
    constructor
    · rintro ⟨H, h⟩ k hk
      by_cases ek : k = n
      · subst ek; exact h
      · exact H k (by omega)
    · exact fun H => ⟨fun k hk => H k (by omega), H n (by omega)⟩
theorem noAll_iff {q : Nat} (hq : Good q) {z : Nat → Nat} : ∀ n, noAll q z n = false ↔ ∀ i k, i < n → k < i → Un q ((z i : Int) - z k)
  | 0 => ⟨fun _ j _ hj => absurd hj (by omega), fun _ => rfl⟩
  | n + 1 => by
    unfold noAll
    rw [Bool.or_eq_false_iff, noAll_iff hq n, noRow_iff hq n]
    constructor
    · rintro ⟨H, h⟩ i k hi hk
      by_cases e : i = n
      · subst e; exact h k hk
      · exact H i k (by omega) hk
    · exact fun H => ⟨fun i k hi hk => H i k (by omega) hk, fun k hk => H n k (by omega) hk⟩
/-- The program's weights have their inverses just where the document finds all differences to have them. -/
theorem und_all {q : Nat} (hq : Good q) {z : Nat → Nat} (n : Nat) : (∀ j, j < n → invC (undU q z n j) q = 0) ↔ noAll q z n = false := by
  rw [noAll_iff hq]
  constructor
  · intro H i k hi hk
    exact (un_prod hq z i n).1 ((invC_un hq _).1 (H i hi)) k (by omega) (by omega)
  · intro H j hj
    refine (invC_un hq _).2 ((un_prod hq z j n).2 fun k hk hne => ?_)
    rcases Nat.lt_or_gt_of_ne hne with h | h
    · exact H j k hj h
    · exact Un.swap.1 (H k j hk h)
theorem weightU_mod {q : Nat} (hq : Good q) (z : Nat → Nat) (p i : Nat) : ∀ n, weightU q z p i n % q = weightU q z p i n
  | 0 => by unfold weightU; rw [addU_of hq, Nat.mod_mod]
  | n + 1 => by
    unfold weightU
    by_cases h : n = i
    · rw [if_pos h]; exact weightU_mod hq z p i n
    · rw [if_neg h, mulU_of hq, Nat.mod_mod]
theorem weight_part {q : Nat} (hq : Good q) (z : Nat → Nat) (p i : Nat) : ∀ n, (∀ j, j < n → j ≠ i → Un q ((z i : Int) - z j)) → Cg q (weightU q z p i n * prodL (z i) q z i (List.range n)) (prodL p q z i (List.range n))
  | 0, _ => by
    rw [prodL_zero, prodL_zero]
    unfold weightU
    exact ((cg_add hq 1 0).mul (Cg.refl q _)).trans (.of_eq (by simp))
  | n + 1, H => by
    have ih := weight_part hq z p i n fun j hj hne => H j (by omega) hne
    unfold weightU
    by_cases h : n = i
    · rw [if_pos h]; subst h; rw [prodL_skip, prodL_skip]; exact ih
    · rw [if_neg h]
      have hu := H n (by omega) h
      have hs := cg_sub hq (z i) (z n)
      have hi := invU_cg hq ((Un.cg hs).2 hu)
      generalize invU (subU (z i) (z n) q) q = v at *
      have h1 : Cg q (((z i : Int) - z n) * v) 1 := (hs.symm.mul (Cg.refl q _)).trans hi
      have h2 := (cg_mul hq (weightU q z p i n) (mulU (subU p (z n) q) v q)).trans ((Cg.refl q _).mul ((cg_mul hq (subU p (z n) q) v).trans ((cg_sub hq p (z n)).mul (Cg.refl q _))))
      refine (h2.mul (prodL_succ hq _ z i n h)).trans (Cg.trans ?_ (prodL_succ hq _ z i n h).symm)
      generalize (prodL (z i) q z i (List.range n) : Int) = u at *
      generalize (prodL p q z i (List.range n) : Int) = w at *
      generalize (weightU q z p i n : Int) = x at *
      refine (Cg.of_eq (show x * (((p : Int) - z n) * v) * (u * ((z i : Int) - z n)) = (x * u) * ((p : Int) - z n) * (((z i : Int) - z n) * v) by grind)).trans ?_
      exact ((ih.mul (Cg.refl q _)).mul h1).trans (.of_eq (by simp))
/-- The program's weights are the document's. -/
theorem wgt_eq {q n : Nat} (hq : Good q) {z : Nat → Nat} (p i : Nat) (hi : i < n) (hn : noAll q z n = false) : wgtU p q z n i = weightU q z p i n := by
  have hU := (invC_un hq _).1 ((und_all hq n).2 hn i hi)
  have hw := weight_part hq z p i n ((un_prod hq z i n).1 hU)
  have hv := invU_cg hq hU
  have e : wgtU p q z n i % q = weightU q z p i n % q := by
    refine Cg.nat ?_
    unfold wgtU
    refine (cg_mul hq _ _).trans ?_
    unfold undU at hv ⊢
    refine (hw.symm.mul (Cg.refl q _)).trans ((Cg.of_eq (Int.mul_assoc _ _ _)).trans (((Cg.refl q _).mul hv).trans (.of_eq (by simp))))
  rw [weightU_mod hq] at e
  rw [← e]
  unfold wgtU
  rw [mulU_of hq, Nat.mod_mod]
end MM
end Go.Proofs.Ytlnlepadninnaaa
/- Plain facts: the program's polynomial through pairs, and what it refuses, are the document's. -/
namespace Go.Proofs.Ytlnlepadninnaaa
namespace MM
theorem conv_low {la q c m : Nat} {a b : Nat → Nat} : ∀ i, i < m → convU la 2 q a b m i = 0
  | 0, _ => rfl
  | i + 1, h => by unfold convU; rw [if_neg (by omega)]; exact conv_low (c := c) i (by omega)
theorem times_first {n q c : Nat} (hq : Good q) (a : Nat → Nat) (h : 0 < n) : Cg q (timesU n 2 q a (two c 1) 0) (a 0 * c) := by
  unfold timesU convU
  rw [if_pos ⟨h, by omega⟩]
  exact (cg_add hq _ _).trans (((Cg.refl q _).add (cg_mul hq _ _)).trans (.of_eq (by simp [convU, two])))
theorem times_next {n q c m : Nat} (hq : Good q) (a : Nat → Nat) (h : m < n) : Cg q (timesU n 2 q a (two c 1) (m + 1)) ((if m + 1 < n then (a (m + 1) : Int) * c else 0) + a m) := by
  have h0 : Cg q (convU n 2 q a (two c 1) (m + 1) (m + 1)) (a m) := by
    unfold convU
    rw [if_pos ⟨h, by omega⟩, conv_low (c := c) m (by omega), show m + 1 - m = 1 by omega]
    exact (cg_add hq _ _).trans (((Cg.refl q _).add (cg_mul hq _ _)).trans (.of_eq (by simp [two])))
  unfold timesU convU
  by_cases hm : m + 1 < n
  · rw [if_pos ⟨hm, by omega⟩, if_pos hm, show m + 1 - (m + 1) = 0 by omega]
    exact (cg_add hq _ _).trans ((h0.add (cg_mul hq _ _)).trans (.of_eq (by simp [two]; omega)))
  · rw [if_neg (by omega), if_neg hm]
    exact h0.trans (.of_eq (by simp))
theorem eval_succ {q : Nat} (hq : Good q) (a : Nat → Nat) (x n : Nat) : Cg q (evalU a x q (n + 1)) (evalU a x q n + a n * (x : Int) ^ n) := by
  rw [evalU]
  exact (cg_add hq _ _).trans ((Cg.refl q _).add ((cg_mul hq _ _).trans ((Cg.refl q _).mul (cg_pow hq x n))))
theorem eval_part {n q c : Nat} (hq : Good q) (a : Nat → Nat) (x : Nat) : ∀ m, m < n → Cg q (evalU (timesU n 2 q a (two c 1)) x q (m + 1)) (evalU a x q (m + 1) * c + evalU a x q m * x)
  | 0, h => by
    refine (eval_succ hq _ x 0).trans ((((Cg.refl q _).add ((times_first hq a h).mul (Cg.refl q _)))).trans (Cg.trans ?_ (((eval_succ hq a x 0).mul (Cg.refl q _)).add (Cg.refl q _)).symm))
    exact .of_eq (by simp [evalU])
  | m + 1, h => by
    have ih := eval_part (n := n) (c := c) hq a x m (by omega)
    have h1 := times_next (n := n) (m := m) (c := c) hq a (by omega)
    rw [if_pos h] at h1
    refine (eval_succ hq _ x (m + 1)).trans ((ih.add (h1.mul (Cg.refl q _))).trans (Cg.trans ?_ (((eval_succ hq a x (m + 1)).mul (Cg.refl q _)).add ((eval_succ hq a x m).mul (Cg.refl q _))).symm))
    refine .of_eq ?_
    rw [Int.pow_succ]
    grind
/-- The value of a product by a factor of degree one. -/
theorem eval_times {n q c : Nat} (hq : Good q) (a : Nat → Nat) (x : Nat) : Cg q (evalU (timesU (n + 1) 2 q a (two c 1)) x q (n + 1 + 1)) (evalU a x q (n + 1) * ((c : Int) + x)) := by
  have h1 := eval_part (n := n + 1) (c := c) hq a x n (by omega)
  have h2 := times_next (n := n + 1) (c := c) hq a (show n < n + 1 by omega)
  rw [if_neg (by omega)] at h2
  have h4 := (Cg.refl q ((evalU a x q (n + 1) : Int) * c)).add ((eval_succ hq a x n).symm.mul (Cg.refl q (x : Int)))
  refine (eval_succ hq _ x (n + 1)).trans ((h1.add (h2.mul (Cg.refl q _))).trans ((Cg.of_eq ?_).trans (h4.trans (.of_eq (by rw [Int.mul_add])))))
  rw [Int.pow_succ]
  grind
theorem un_none {q : Nat} (hq : Good q) (z : Nat → Nat) (x : Nat) : ∀ k, Un q (evalU (noneU q z k) x q (k + 1)) ↔ ∀ j, j < k → Un q ((x : Int) - z j)
  | 0 => by
    refine ⟨fun _ j hj => absurd hj (by omega), fun _ => ?_⟩
    refine (Un.cg ((eval_succ hq _ x 0).trans ?_)).2 (Un.one q)
    refine ((Cg.refl q _).add ((cg_add hq 1 0).mul (Cg.refl q _))).trans (.of_eq ?_)
    simp [evalU]
  | k + 1 => by
    have h := eval_times (n := k) (c := subU 0 (z k) q) hq (noneU q z k) x
    have h2 : Cg q (((subU 0 (z k) q : Nat) : Int) + x) ((x : Int) - z k) := ((cg_sub hq 0 (z k)).add (Cg.refl q _)).trans (.of_eq (by simp; omega))
    rw [show noneU q z (k + 1) = timesU (k + 1) 2 q (noneU q z k) (two (subU 0 (z k) q) 1) from rfl, Un.cg (h.trans ((Cg.refl q _).mul h2)), Un.mul, un_none hq z x k]
    constructor
    · rintro ⟨H, h1⟩ j hj
      by_cases e : j = k
      · subst e; exact h1
      · exact H j (by omega)
    · exact fun H => ⟨fun j hj => H j (by omega), H k (by omega)⟩
theorem one_none {q : Nat} (hq : Good q) (h1 : q ≠ 1) (z : Nat → Nat) : noneU q z 0 = fun _ => 1 := by
  have := hq.1
  funext k
  show addU 1 0 q = 1
  rw [addU_of hq, Nat.mod_eq_of_lt (by omega)]
/-- The program's steps are the document's. -/
theorem st_eq {q : Nat} (hq : Good q) (h1 : q ≠ 1) (z y : Nat → Nat) : ∀ n, stP q z y (List.range n) = (n, thruU q z y n, noneU q z n)
  | 0 => by rw [one_none hq h1]; rfl
  | n + 1 => by
    rw [List.range_succ, stP_snoc, st_eq hq h1 z y n]
    unfold stepP facP invP
    rw [horn_eval, horn_eval]
    rfl
theorem un_all1 (a : Int) : Un 1 a := ⟨0, -1, by simp⟩
theorem thr_all {q : Nat} (hq : Good q) {z y : Nat → Nat} (n : Nat) : (∀ k, k < n → invC (invP q z (stP q z y (List.range k)) k) q = 0) ↔ noAll q z n = false := by
  rw [noAll_iff hq]
  by_cases h1 : q = 1
  · subst h1
    exact ⟨fun _ _ _ _ _ => un_all1 _, fun _ k _ => (invC_un hq _).2 (un_all1 _)⟩
  · have e : ∀ k, invP q z (stP q z y (List.range k)) k = evalU (noneU q z k) (z k) q (k + 1) := fun k => by
      rw [st_eq hq h1]; unfold invP; rw [horn_eval]
    constructor
    · intro H i k hi hk
      have h := H i hi
      rw [e, invC_un hq, un_none hq] at h
      exact h k hk
    · intro H k hk
      rw [e, invC_un hq, un_none hq]
      exact fun j hj => H k j hk hj
theorem thr_eq {q : Nat} (hq : Good q) (z y : Nat → Nat) (n k : Nat) : (stP q z y (List.range n)).2.1 k = thruU q z y n k := by
  by_cases h1 : q = 1
  · subst h1
    cases n with
    | zero => rfl
    | succ n =>
      rw [List.range_succ, stP_snoc]
      show sumU _ _ 1 _ _ k = sumU _ _ 1 _ _ k
      unfold sumU
      rw [addU_of hq, addU_of hq, Nat.mod_one, Nat.mod_one]
  · rw [st_eq hq h1]
/-- What is told of places, where the two ask it of unlike numbers. -/
theorem wrongU_yes {q n : Nat} {z : Nat → Nat} (hq : Good q) (hn : n ≤ 1024) (hT : tw6 q z n = 0) (h : noAll q z n = false) : wrongU q n z = 0 := by
  have ht : twAll q z n ≠ true := fun e => by unfold tw6 at hT; rw [if_pos e] at hT; omega
  unfold wrongU wrongB
  rw [if_neg (fun h => h hq), if_neg (by omega), if_neg ht, h]
  rfl
theorem wrongU_five {q n : Nat} {z : Nat → Nat} (hq : Good q) (hn : n ≤ 1024) (hT : tw6 q z n = 0) (h : noAll q z n ≠ false) : wrongU q n z = 5 := by
  have ht : twAll q z n ≠ true := fun e => by unfold tw6 at hT; rw [if_pos e] at hT; omega
  unfold wrongU wrongB
  rw [if_neg (fun h => h hq), if_neg (by omega), if_neg ht, if_pos (by simpa using h)]
theorem wrongU_six {q n : Nat} {z : Nat → Nat} (hq : Good q) (hn : n ≤ 1024) (hT : tw6 q z n ≠ 0) : wrongU q n z = 6 ∧ tw6 q z n = 6 := by
  have ht : twAll q z n = true := Classical.byContradiction fun e => hT (by unfold tw6; rw [if_neg e])
  unfold wrongU wrongB tw6
  rw [if_neg (fun h => h hq), if_neg (by omega), if_pos ht, if_pos ht]
  exact ⟨rfl, rfl⟩
end MM
end Go.Proofs.Ytlnlepadninnaaa
