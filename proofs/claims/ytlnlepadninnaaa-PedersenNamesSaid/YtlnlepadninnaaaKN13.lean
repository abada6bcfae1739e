/- The texts RobMath, one behind the other. -/
import Derived.Test.YtlnlepadninnaaaKN12
/- Plain facts on polynomials through points of which some are wrong. Nothing here speaks of the program. -/
namespace Go.Proofs.Ytlnlepadninnaaa
namespace MM
/-- The value of the first n coefficients, as a whole number. -/
def evZ (a : Nat → Int) (x : Int) : Nat → Int
  | 0 => 0
  | n + 1 => evZ a x n + a n * x ^ n
theorem eval_evZ {q : Nat} (hq : Good q) (c : Nat → Nat) (x : Nat) : ∀ n, Cg q (evalU c x q n) (evZ (fun i => c i) x n)
  | 0 => Cg.refl _ _
  | n + 1 => (eval_succ hq c x n).trans ((eval_evZ hq c x n).add (Cg.refl _ _))
theorem evZ_cg {q : Nat} {a b : Nat → Int} {x : Int} : ∀ n, (∀ i, i < n → Cg q (a i) (b i)) → Cg q (evZ a x n) (evZ b x n)
  | 0, _ => Cg.refl _ _
  | n + 1, h => (evZ_cg n fun i hi => h i (by omega)).add ((h n (by omega)).mul (Cg.refl _ _))
theorem evZ_congr {a b : Nat → Int} {x : Int} : ∀ n, (∀ i, i < n → a i = b i) → evZ a x n = evZ b x n
  | 0, _ => rfl
  | n + 1, h => by unfold evZ; rw [evZ_congr n fun i hi => h i (by omega), h n (by omega)]
theorem evZ_sub (a b : Nat → Int) (x : Int) : ∀ n, evZ (fun i => a i - b i) x n = evZ a x n - evZ b x n
  | 0 => rfl
  | n + 1 => by unfold evZ; rw [evZ_sub a b x n]; grind
theorem evZ_lin (a b : Nat → Int) (f x : Int) : ∀ n, evZ (fun i => a i + f * b i) x n = evZ a x n + f * evZ b x n
  | 0 => by simp [evZ]
  | n + 1 => by unfold evZ; rw [evZ_lin a b f x n]; grind
theorem evZ_zeros {q m : Nat} {a : Nat → Int} {x : Int} : ∀ n, m ≤ n → (∀ i, m ≤ i → i < n → Cg q (a i) 0) → Cg q (evZ a x n) (evZ a x m)
  | 0, h, _ => by obtain rfl : m = 0 := by omega
                  exact Cg.refl _ _
  | n + 1, h, h0 => by
    by_cases e : m = n + 1
    · subst e; exact Cg.refl _ _
    · refine ((evZ_zeros n (by omega) fun i h1 h2 => h0 i h1 (by omega)).add ((h0 n (by omega) (by omega)).mul (Cg.refl _ _))).trans (.of_eq (by grind))
/-- What is left when a zero is taken out: its coefficients. -/
def quo (a : Nat → Int) (r : Int) : Nat → Nat → Int
  | 0, _ => 0
  | n + 1, i => quo a r n i + (if i < n then a n * r ^ (n - 1 - i) else 0)
theorem quo_hi {a : Nat → Int} {r : Int} : ∀ n i, n ≤ i + 1 → quo a r n i = 0
  | 0, _, _ => rfl
  | n + 1, i, h => by unfold quo; rw [quo_hi n i (by omega), if_neg (by omega)]; rfl
theorem quo_zero {a : Nat → Int} {r : Int} : ∀ n, a 0 = evZ a r (n + 1) - r * quo a r (n + 1) 0
  | 0 => by simp [evZ, quo]
  | n + 1 => by
    have ih := quo_zero (a := a) (r := r) n
    rw [evZ, quo, if_pos (by omega), show n + 1 - 1 - 0 = n by omega, Int.pow_succ]
    grind
theorem quo_succ {a : Nat → Int} {r : Int} : ∀ n i, i + 1 < n → a (i + 1) = quo a r n i - r * quo a r n (i + 1)
  | 0, _, h => absurd h (by omega)
  | n + 1, i, h => by
    by_cases e : i + 1 = n
    · subst e
      show a (i + 1) = (quo a r (i + 1) i + (if i < i + 1 then a (i + 1) * r ^ (i + 1 - 1 - i) else 0)) - r * (quo a r (i + 1) (i + 1) + (if i + 1 < i + 1 then a (i + 1) * r ^ (i + 1 - 1 - (i + 1)) else 0))
      rw [if_pos (by omega), if_neg (by omega), quo_hi _ i (by omega), quo_hi _ (i + 1) (by omega), show i + 1 - 1 - i = 0 by omega]
      simp
    · have ih := quo_succ (a := a) (r := r) n i (by omega)
      show a (i + 1) = (quo a r n i + (if i < n then a n * r ^ (n - 1 - i) else 0)) - r * (quo a r n (i + 1) + (if i + 1 < n then a n * r ^ (n - 1 - (i + 1)) else 0))
      rw [if_pos (by omega), if_pos (by omega), show n - 1 - i = (n - 1 - (i + 1)) + 1 by omega, Int.pow_succ]
      grind
theorem quo_part {a : Nat → Int} {r x : Int} {n : Nat} : ∀ k, k < n + 1 → evZ a x (k + 1) = evZ a r (n + 1) + x * evZ (quo a r (n + 1)) x k - r * evZ (quo a r (n + 1)) x (k + 1)
  | 0, _ => by
    have h := quo_zero (a := a) (r := r) n
    simp [evZ]
    simp [evZ] at h
    omega
  | k + 1, h => by
    have ih := quo_part (a := a) (r := r) (x := x) (n := n) k (by omega)
    have h1 := quo_succ (a := a) (r := r) (n + 1) k (by omega)
    have h2 : evZ a x (k + 1 + 1) = evZ a x (k + 1) + a (k + 1) * x ^ (k + 1) := rfl
    have h3 : evZ (quo a r (n + 1)) x (k + 1) = evZ (quo a r (n + 1)) x k + quo a r (n + 1) k * x ^ k := rfl
    have h4 : evZ (quo a r (n + 1)) x (k + 1 + 1) = evZ (quo a r (n + 1)) x (k + 1) + quo a r (n + 1) (k + 1) * x ^ (k + 1) := rfl
    have h5 : x ^ (k + 1) = x ^ k * x := Int.pow_succ _ _
    rw [h2, h4, ih, h1, h5]
    generalize evZ (quo a r (n + 1)) x (k + 1) = E1 at *
    generalize evZ (quo a r (n + 1)) x k = E0 at *
    generalize quo a r (n + 1) k = b0 at *
    generalize quo a r (n + 1) (k + 1) = b1 at *
    subst h3
    clear h2 h4 ih h1 h5
    grind
theorem quo_eval (a : Nat → Int) (r x : Int) (m : Nat) : evZ a x (m + 1) - evZ a r (m + 1) = (x - r) * evZ (quo a r (m + 1)) x m := by
  have h := quo_part (a := a) (r := r) (x := x) (n := m) m (by omega)
  rw [h, show evZ (quo a r (m + 1)) x (m + 1) = evZ (quo a r (m + 1)) x m + quo a r (m + 1) m * x ^ m from rfl, quo_hi (m + 1) m (by omega)]
  grind
theorem Un.cancel {q : Nat} {u v : Int} (h : Un q u) (h0 : Cg q (u * v) 0) : Cg q v 0 := by
  obtain ⟨w, hw⟩ := h
  have h1 := (hw.mul (Cg.refl q v)).symm
  have h2 := h0.mul (Cg.refl q w)
  refine ((Cg.of_eq (by simp)).trans h1).trans ((Cg.of_eq (by grind)).trans (h2.trans (.of_eq (by simp))))
/-- A polynomial of m coefficients that is 0 at m places whose differences have inverses is 0. -/
theorem zero_of_roots {q : Nat} : ∀ (m : Nat) (a : Nat → Int) (r : Nat → Int), (∀ i k, i < m → k < i → Un q (r i - r k)) → (∀ j, j < m → Cg q (evZ a (r j) m) 0) → ∀ i, i < m → Cg q (a i) 0
  | 0, _, _, _, _, _, hi => absurd hi (by omega)
  | m + 1, a, r, hU, h0, i, hi => by
    have hb : ∀ i, i < m → Cg q (quo a (r m) (m + 1) i) 0 := zero_of_roots m _ r (fun i k hi hk => hU i k (by omega) hk) (fun j hj => by
      refine Un.cancel (Un.swap.1 (hU m j (by omega) hj)) ?_
      rw [← quo_eval]
      exact ((h0 j (by omega)).sub (h0 m (by omega))).trans (.of_eq (by simp)))
    have hb' : ∀ i, Cg q (r m * quo a (r m) (m + 1) i) 0 := fun i => by
      by_cases h : i < m
      · exact ((Cg.refl q (r m)).mul (hb i h)).trans (.of_eq (by simp))
      · rw [quo_hi _ i (by omega)]; exact .of_eq (by simp)
    cases i with
    | zero =>
      rw [quo_zero (a := a) (r := r m) m]
      exact ((h0 m (by omega)).sub (hb' 0)).trans (.of_eq (by simp))
    | succ i =>
      rw [quo_succ (a := a) (r := r m) (m + 1) i hi]
      exact ((hb i (by omega)).sub (hb' (i + 1))).trans (.of_eq (by simp))
theorem cg_of_zero {q : Nat} {a b : Int} (h : Cg q (a - b) 0) : Cg q a b := by
  have := h.add (Cg.refl q b)
  exact (Cg.of_eq (by omega)).trans (this.trans (.of_eq (by simp)))
theorem same_of_points {q m : Nat} (hq : Good q) (c d z : Nat → Nat) (hU : ∀ i k, i < m → k < i → Un q ((z i : Int) - z k)) (h : ∀ j, j < m → evalU c (z j) q m % q = evalU d (z j) q m % q) (i : Nat) (hi : i < m) : c i % q = d i % q := by
  refine Cg.nat (cg_of_zero (zero_of_roots m (fun i => (c i : Int) - d i) (fun j => z j) hU (fun j hj => ?_) i hi))
  rw [evZ_sub]
  refine (((eval_evZ hq c (z j) m).symm.trans (cg_nat (h j hj))).trans (eval_evZ hq d (z j) m)).sub (Cg.refl _ _) |>.trans (.of_eq (by omega))
/-! ### The polynomial through points goes through them. -/
theorem none_at {q : Nat} (hq : Good q) (z : Nat → Nat) (j : Nat) : ∀ k, j < k → Cg q (evalU (noneU q z k) (z j) q (k + 1)) 0
  | 0, h => absurd h (by omega)
  | k + 1, h => by
    have h1 := eval_times (n := k) (c := subU 0 (z k) q) hq (noneU q z k) (z j)
    have h2 : Cg q (((subU 0 (z k) q : Nat) : Int) + z j) ((z j : Int) - z k) := ((cg_sub hq 0 (z k)).add (Cg.refl q _)).trans (.of_eq (by simp; omega))
    rw [show noneU q z (k + 1) = timesU (k + 1) 2 q (noneU q z k) (two (subU 0 (z k) q) 1) from rfl]
    refine h1.trans ?_
    by_cases e : j = k
    · subst e
      exact ((Cg.refl q _).mul h2).trans (.of_eq (by simp))
    · exact ((none_at hq z j k (by omega)).mul (Cg.refl q _)).trans (.of_eq (by simp))
theorem thru_succ {q : Nat} (hq : Good q) (z y : Nat → Nat) (x n : Nat) : Cg q (evalU (thruU q z y (n + 1)) x q (n + 1)) (evalU (thruU q z y n) x q n + facU q z y n (thruU q z y n) * evalU (noneU q z n) x q (n + 1)) := by
  refine (eval_evZ hq _ x (n + 1)).trans ?_
  have hc : ∀ i, i < n + 1 → Cg q (thruU q z y (n + 1) i) ((if i < n then (thruU q z y n i : Int) else 0) + facU q z y n (thruU q z y n) * (noneU q z n i : Int)) := fun i hi => by
    refine (cg_add hq _ _).trans (Cg.add ?_ ?_)
    · unfold atU
      by_cases h : i < n
      · rw [if_pos h, if_pos h]; exact cg_mod q _
      · rw [if_neg h, if_neg h]; exact Cg.refl _ _
    · unfold atU
      rw [if_pos hi]
      exact (cg_mod q _).trans ((cg_mul hq _ _).trans (.of_eq (by grind)))
  refine (evZ_cg (n + 1) hc).trans ?_
  rw [evZ_lin]
  refine Cg.add ?_ ((Cg.refl q _).mul (eval_evZ hq _ x (n + 1)).symm)
  refine Cg.trans (.of_eq ?_) (eval_evZ hq _ x n).symm
  rw [evZ, if_neg (by omega), evZ_congr n (b := fun i => (thruU q z y n i : Int)) fun i hi => if_pos hi]
  grind
theorem thru_at {q : Nat} (hq : Good q) (z y : Nat → Nat) : ∀ n, (∀ i k, i < n → k < i → Un q ((z i : Int) - z k)) → ∀ j, j < n → Cg q (evalU (thruU q z y n) (z j) q n) (y j)
  | 0, _, j, h => absurd h (by omega)
  | n + 1, hU, j, h => by
    refine (thru_succ hq z y (z j) n).trans ?_
    by_cases e : j = n
    · subst e
      have hu : Un q ((evalU (noneU q z j) (z j) q (j + 1) : Nat) : Int) := (un_none hq z (z j) j).2 fun k hk => hU j k (by omega) hk
      have hi := invU_cg hq hu
      have hf : Cg q (facU q z y j (thruU q z y j)) ((y j - evalU (thruU q z y j) (z j) q j : Int) * invU (evalU (noneU q z j) (z j) q (j + 1)) q) := (cg_mul hq _ _).trans ((cg_sub hq _ _).mul (Cg.refl _ _))
      refine ((Cg.refl q _).add (hf.mul (Cg.refl q _))).trans ?_
      refine Cg.trans (.of_eq ?_) (((Cg.refl q ((evalU (thruU q z y j) (z j) q j : Nat) : Int)).add ((Cg.refl q ((y j : Int) - evalU (thruU q z y j) (z j) q j)).mul hi)).trans (.of_eq ?_))
      · grind
      · grind
    · refine ((thru_at hq z y n (fun i k hi hk => hU i k (by omega) hk) j (by omega)).add ((Cg.refl q _).mul (none_at hq z j n (by omega)))).trans (.of_eq (by simp))
theorem thruU_lt {q : Nat} (hq : Good q) (z y : Nat → Nat) (n k : Nat) : thruU q z y n k < q := by
  have := hq.1
  cases n with
  | zero => exact this
  | succ n => show addU _ _ q < q; rw [addU_of hq]; exact Nat.mod_lt _ this
theorem evalU_congr {c d : Nat → Nat} {x q : Nat} : ∀ n, (∀ k, k < n → c k = d k) → evalU c x q n = evalU d x q n
  | 0, _ => rfl
  | n + 1, h => by unfold evalU; rw [evalU_congr n fun k hk => h k (by omega), h n (by omega)]
theorem noneU_congr {q : Nat} {z z' : Nat → Nat} : ∀ n, (∀ k, k < n → z k = z' k) → noneU q z n = noneU q z' n
  | 0, _ => rfl
  | n + 1, h => by unfold noneU; rw [noneU_congr n fun k hk => h k (by omega), h n (by omega)]
theorem thruU_congr {q : Nat} {z y z' y' : Nat → Nat} : ∀ n, (∀ k, k < n → z k = z' k ∧ y k = y' k) → thruU q z y n = thruU q z' y' n
  | 0, _ => rfl
  | n + 1, h => by
    have h1 := thruU_congr (q := q) n fun k hk => h k (by omega)
    have h2 := noneU_congr (q := q) n fun k hk => (h k (by omega)).1
    have h3 := h n (by omega)
    unfold thruU facU
    rw [h1, h2, h3.1, h3.2]
/-! ### Degrees. -/
theorem deg_le {q t : Nat} {c : Nat → Nat} : ∀ n, (∀ k, t < k → k < n → c k % q = 0) → degU c q n ≤ t
  | 0, _ => by show (-1 : Int) ≤ _; omega
  | n + 1, h => by
    unfold degU
    by_cases h0 : c n % q = 0
    · rw [if_pos h0]; exact deg_le n fun k h1 h2 => h k h1 (by omega)
    · rw [if_neg h0]
      rcases Nat.lt_or_ge t n with h1 | h1
      · exact absurd (h n h1 (by omega)) h0
      · omega
theorem zero_of_deg {q t : Nat} {c : Nat → Nat} : ∀ n, degU c q n ≤ t → ∀ k, t < k → k < n → c k % q = 0
  | 0, _, k, _, h => absurd h (by omega)
  | n + 1, h, k, h1, h2 => by
    unfold degU at h
    by_cases h0 : c n % q = 0
    · rw [if_pos h0] at h
      by_cases e : k = n
      · subst e; exact h0
      · exact zero_of_deg n h k h1 (by omega)
    · rw [if_neg h0] at h; omega
/-! ### The sets, in their order. -/
def setsF : Nat → Nat → Nat → List (List Nat)
  | 0, _, _ => [[]]
  | s + 1, a, e => (List.range' a (e - s - a)).flatMap fun l => (setsF s (l + 1) e).map (l :: ·)
theorem incr_bound : ∀ (l : List Nat) (a e : Nat), l.Pairwise (· < ·) → (∀ x ∈ l, a ≤ x ∧ x < e) → l = [] ∨ a + l.length ≤ e
  | [], _, _, _, _ => .inl rfl
  | x :: l, a, e, hp, hb => by
    obtain ⟨h1, h2⟩ := List.pairwise_cons.1 hp
    have hx := hb x (by simp)
    rcases incr_bound l (x + 1) e h2 (fun y hy => ⟨h1 y hy, (hb y (by simp [hy])).2⟩) with rfl | h
    · right; simp; omega
    · right; simp; omega
theorem mem_sets : ∀ (s a e : Nat) (l : List Nat), l ∈ setsF s a e ↔ l.length = s ∧ l.Pairwise (· < ·) ∧ ∀ x ∈ l, a ≤ x ∧ x < e
  | 0, a, e, l => by
    simp only [setsF, List.mem_singleton]
    constructor
    · rintro rfl; simp
    · rintro ⟨h, _⟩; exact List.eq_nil_of_length_eq_zero h
  | s + 1, a, e, l => by
    simp only [setsF, List.mem_flatMap, List.mem_range'_1, List.mem_map]
    constructor
    · rintro ⟨x, ⟨h1, h2⟩, l', hl, rfl⟩
      obtain ⟨h3, h4, h5⟩ := (mem_sets s (x + 1) e l').1 hl
      refine ⟨by simp [h3], List.pairwise_cons.2 ⟨fun y hy => (h5 y hy).1, h4⟩, fun y hy => ?_⟩
      rcases List.mem_cons.1 hy with rfl | hy
      · exact ⟨h1, by omega⟩
      · have := h5 y hy; exact ⟨by omega, this.2⟩
    · rintro ⟨h1, h2, h3⟩
      match l, h1, h2, h3 with
      | x :: l', h1, h2, h3 =>
        obtain ⟨h4, h5⟩ := List.pairwise_cons.1 h2
        have hx := h3 x (by simp)
        have hl : ∀ y ∈ l', x + 1 ≤ y ∧ y < e := fun y hy => ⟨h4 y hy, (h3 y (by simp [hy])).2⟩
        have hlen : l'.length = s := by simpa using h1
        refine ⟨x, ⟨hx.1, ?_⟩, l', (mem_sets s (x + 1) e l').2 ⟨hlen, h5, hl⟩, rfl⟩
        rcases incr_bound l' (x + 1) e h5 hl with rfl | h
        · simp at hlen; omega
        · omega
theorem incr_sub : ∀ (k a : Nat) (l : List Nat), l.Pairwise (· < ·) → (∀ x ∈ l, a ≤ x ∧ x < a + k) → List.Sublist l (List.range' a k)
  | 0, a, [], _, _ => List.nil_sublist _
  | 0, a, x :: l, _, h => by have := h x (by simp); omega
  | k + 1, a, [], _, _ => List.nil_sublist _
  | k + 1, a, x :: l, hp, h => by
    obtain ⟨h1, h2⟩ := List.pairwise_cons.1 hp
    have hx := h x (by simp)
    rw [List.range'_succ]
    by_cases e : x = a
    · subst e
      exact (incr_sub k (x + 1) l h2 fun y hy => ⟨h1 y hy, by have := (h y (by simp [hy])).2; omega⟩).cons_cons x
    · exact (incr_sub k (a + 1) (x :: l) hp fun y hy => by
        have hy2 := h y hy
        refine ⟨?_, by omega⟩
        rcases List.mem_cons.1 hy with rfl | hy
        · omega
        · have := h1 y hy; omega).cons a
theorem count_split (p : Nat → Bool) : ∀ l : List Nat, (l.filter p).length + (l.filter fun i => !p i).length = l.length
  | [] => rfl
  | x :: l => by
    have := count_split p l
    cases h : p x <;> simp [List.filter, h] <;> omega
theorem getD_at {l : List Nat} {i : Nat} (h : i < l.length) : l.getD i 0 = l[i] := by rw [List.getD_eq_getElem?_getD, List.getElem?_eq_getElem h]; rfl
/-- A set's points. -/
def pick (z : Nat → Nat) (s : List Nat) (k : Nat) : Nat := z (s.getD k 0)
/-- Whether the polynomial through a set's points has no more than t + 1 coefficients. -/
noncomputable def fitB (q t : Nat) (z y : Nat → Nat) (s : List Nat) : Bool := decide (degU (thruU q (pick z s) (pick y s) s.length) q s.length ≤ t)
/-- The numbers of the points that a polynomial misses. -/
def missB (q t : Nat) (z y c : Nat → Nat) (i : Nat) : Bool := evalU c (z i) q (t + 1) != y i % q
def missU (q t n : Nat) (z y c : Nat → Nat) : List Nat := (List.range n).filter (missB q t z y c)
theorem pick_un {q n : Nat} {z : Nat → Nat} (hU : ∀ i k, i < n → k < i → Un q ((z i : Int) - z k)) {s : List Nat} (hp : s.Pairwise (· < ·)) (hb : ∀ x ∈ s, x < n) (i k : Nat) (hi : i < s.length) (hk : k < i) : Un q ((pick z s i : Int) - pick z s k) := by
  unfold pick
  rw [getD_at hi, getD_at (by omega)]
  exact hU _ _ (hb _ (List.getElem_mem _)) (List.pairwise_iff_getElem.1 hp k i (by omega) hi hk)
/-- A set's polynomial goes through the set's points. -/
theorem fit_at {q t n : Nat} (hq : Good q) {z y : Nat → Nat} (hU : ∀ i k, i < n → k < i → Un q ((z i : Int) - z k)) {s : List Nat} (hs : s ∈ setsF (2 * t + 1) 0 n) (hf : fitB q t z y s = true) (g : Nat) (hg : g ∈ s) :
    evalU (thruU q (pick z s) (pick y s) s.length) (z g) q (t + 1) = y g % q := by
  obtain ⟨h1, h2, h3⟩ := (mem_sets _ _ _ _).1 hs
  obtain ⟨i, hi, rfl⟩ := List.mem_iff_getElem.1 hg
  have ht := thru_at hq (pick z s) (pick y s) s.length (pick_un hU h2 fun x hx => (h3 x hx).2) i hi
  rw [show pick z s i = z s[i] by unfold pick; rw [getD_at hi], show pick y s i = y s[i] by unfold pick; rw [getD_at hi]] at ht
  have hd := zero_of_deg _ (of_decide_eq_true hf)
  have hz : Cg q (evalU (thruU q (pick z s) (pick y s) s.length) (z s[i]) q (t + 1)) (evalU (thruU q (pick z s) (pick y s) s.length) (z s[i]) q s.length) := by
    refine (eval_evZ hq _ _ _).trans (Cg.trans ?_ (eval_evZ hq _ _ _).symm)
    refine (evZ_zeros s.length (by omega) fun k hk1 hk2 => ?_).symm
    have := cg_nat (q := q) (x := thruU q (pick z s) (pick y s) s.length k) (y := 0) (by rw [hd k (by omega) hk2, Nat.zero_mod])
    simpa using this
  have := (hz.trans ht).nat
  rwa [evalU_mod hq] at this
/-- Of the values of a polynomial, some of which were changed: it is found. -/
theorem lies {q t n : Nat} (hq : Good q) {z y c : Nat → Nat} (bad : Nat → Bool) (hU : ∀ i k, i < n → k < i → Un q ((z i : Int) - z k)) (hc : ∀ k, k < t + 1 → c k < q)
    (hr : ∀ i, i < n → bad i = false → evalU c (z i) q (t + 1) = y i % q) (hw : ∀ i, i < n → bad i = true → evalU c (z i) q (t + 1) ≠ y i % q)
    (hb : ((List.range n).filter bad).length ≤ t) (hg : 2 * t + 1 ≤ ((List.range n).filter fun i => !bad i).length) :
    ∃ s, (setsF (2 * t + 1) 0 n).find? (fitB q t z y) = some s ∧ (∀ k, k < t + 1 → thruU q (pick z s) (pick y s) s.length k = c k) ∧ missU q t n z y (thruU q (pick z s) (pick y s) s.length) = (List.range n).filter bad := by
  have hq0 := hq.1
  obtain ⟨s1, hs1, hg1⟩ : ∃ s1, s1 ∈ setsF (2 * t + 1) 0 n ∧ ∀ i ∈ s1, i < n ∧ bad i = false := by
    refine ⟨((List.range n).filter fun i => !bad i).take (2 * t + 1), (mem_sets _ _ _ _).2 ⟨by rw [List.length_take]; omega, ?_, fun x hx => ?_⟩, fun i hi => ?_⟩
    · exact (List.pairwise_lt_range).sublist ((List.take_sublist _ _).trans List.filter_sublist)
    · have := List.mem_of_mem_take hx
      simp at this; omega
    · have := List.mem_of_mem_take hi
      simpa using this
  obtain ⟨h1, h2, h3⟩ := (mem_sets _ _ _ _).1 hs1
  have hpu := pick_un hU h2 (fun x hx => (h3 x hx).2)
  have hfit : fitB q t z y s1 = true := by
    refine decide_eq_true (deg_le _ fun k hk1 hk2 => ?_)
    have := same_of_points hq (thruU q (pick z s1) (pick y s1) s1.length) (fun k => if k < t + 1 then c k else 0) (pick z s1) hpu (fun j hj => ?_) k hk2
    · rw [this, if_neg (by omega), Nat.zero_mod]
    · refine ((thru_at hq _ _ _ hpu j hj).trans ?_).nat
      have hm : s1[j] ∈ s1 := List.getElem_mem _
      obtain ⟨hm1, hm2⟩ := hg1 _ hm
      have hv := hr _ hm1 hm2
      have e1 : pick z s1 j = z s1[j] := by unfold pick; rw [getD_at hj]
      have e2 : pick y s1 j = y s1[j] := by unfold pick; rw [getD_at hj]
      rw [e1, e2]
      refine (cg_mod q _).symm.trans ?_
      rw [← hv]
      refine (eval_evZ hq _ _ _).trans (Cg.trans ?_ (eval_evZ hq _ _ _).symm)
      refine Cg.trans (.of_eq (evZ_congr (t + 1) fun i hi => ?_)) (evZ_zeros (m := t + 1) s1.length (by omega) fun k hk1 hk2 => ?_).symm
      · rw [if_pos hi]
      · rw [if_neg (by omega)]; exact Cg.refl _ _
  obtain ⟨s, hs⟩ : ∃ s, (setsF (2 * t + 1) 0 n).find? (fitB q t z y) = some s := by
    cases h : (setsF (2 * t + 1) 0 n).find? (fitB q t z y) with
    | some s => exact ⟨s, rfl⟩
    | none => exact absurd hfit (by have := List.find?_eq_none.1 h s1 hs1; simpa using this)
  have hsm := List.mem_of_find?_eq_some hs
  have hsf := List.find?_some hs
  obtain ⟨k1, k2, k3⟩ := (mem_sets _ _ _ _).1 hsm
  have hsub : List.Sublist s (List.range n) := by
    rw [List.range_eq_range']
    exact incr_sub n 0 s k2 fun x hx => by have := k3 x hx; omega
  have hbl : (s.filter bad).length ≤ t := Nat.le_trans (hsub.filter bad).length_le hb
  have hcs := count_split bad s
  have hG : t + 1 ≤ (s.filter fun i => !bad i).length := by omega
  have hGp : (s.filter fun i => !bad i).Pairwise (· < ·) := k2.sublist List.filter_sublist
  have hGm : ∀ g ∈ s.filter (fun i => !bad i), g ∈ s ∧ g < n ∧ bad g = false := fun g hg => by
    have := List.mem_filter.1 hg
    exact ⟨this.1, (k3 g this.1).2, by simpa using this.2⟩
  have heq : ∀ k, k < t + 1 → thruU q (pick z s) (pick y s) s.length k = c k := fun k hk => by
    have hun := pick_un hU hGp (fun x hx => (hGm x hx).2.1)
    have := same_of_points (m := t + 1) hq (thruU q (pick z s) (pick y s) s.length) c (pick z (s.filter fun i => !bad i)) (fun i k hi hk => hun i k (by omega) hk) (fun j hj => ?_) k hk
    · rwa [Nat.mod_eq_of_lt (thruU_lt hq _ _ _ _), Nat.mod_eq_of_lt (hc k hk)] at this
    · have hj' : j < (s.filter fun i => !bad i).length := by omega
      obtain ⟨m1, m2, m3⟩ := hGm _ (List.getElem_mem hj')
      have e1 : pick z (s.filter fun i => !bad i) j = z (s.filter fun i => !bad i)[j] := by unfold pick; rw [getD_at hj']
      rw [e1, fit_at hq hU hsm hsf _ m1, hr _ m2 m3]
  refine ⟨s, hs, heq, ?_⟩
  refine List.filter_congr fun i hi => ?_
  have hin : i < n := by simpa using hi
  unfold missB
  rw [evalU_congr (t + 1) heq]
  cases hbi : bad i with
  | false => simp [hr i hin hbi]
  | true => simpa using hw i hin hbi
end MM
end Go.Proofs.Ytlnlepadninnaaa
