/- Scores are Int of the products of the secrets and the query, where parameters fit. -/
import Derived.Test.YtdblijpoelcghaaFixMath2
namespace Go.Proofs.Ytdblijpoelcghaa
namespace MM
theorem secZ_at {p : Pm} {o : Mo} {d k j : Nat} (hd : p.D.toNat = d) (hj : j < d) : secZ p o (k * (d + 1) + j) = numU (o.F k j) p.Q := by
  unfold secZ
  rw [hd]
  have e1 : (k * (d + 1) + j) % (d + 1) = j := by rw [Nat.mul_comm, Nat.mul_add_mod]; exact Nat.mod_eq_of_lt (by omega)
  have e2 : (k * (d + 1) + j) / (d + 1) = k := by rw [Nat.mul_comm, Nat.mul_add_div (by omega), Nat.div_eq_of_lt (by omega), Nat.add_zero]
  rw [e1, e2, if_pos hj]
theorem secZ_last {p : Pm} {o : Mo} {d k : Nat} (hd : p.D.toNat = d) : secZ p o (k * (d + 1) + d) = numU (o.b k) p.Q := by
  unfold secZ
  rw [hd]
  have e1 : (k * (d + 1) + d) % (d + 1) = d := by rw [Nat.mul_comm, Nat.mul_add_mod]; exact Nat.mod_eq_of_lt (by omega)
  have e2 : (k * (d + 1) + d) / (d + 1) = k := by rw [Nat.mul_comm, Nat.mul_add_div (by omega), Nat.div_eq_of_lt (by omega), Nat.add_zero]
  rw [e1, e2, if_neg (by omega)]
/-- The sum of the products alone. -/
def linP (o : Mo) (x : Nat → Int) (k : Nat) : Nat → Int
  | 0 => 0
  | i + 1 => linP o x k i + o.F k i * x i
theorem scoP_lin (o : Mo) (x : Nat → Int) (k : Nat) : ∀ i, scoP o x k i = o.b k + linP o x k i
  | 0 => by simp [scoP, linP]
  | i + 1 => by rw [scoP, linP, scoP_lin o x k i]; omega
theorem dot_lin {p : Pm} {o : Mo} {x : Nat → Int} {n d kk k : Nat} (hg : Good p.Q) (hd : p.D.toNat = d) (hn : n = d) (hk : k < kk) : ∀ i, i ≤ d → dotP p.Q d (kk * (d + 1)) (secZ p o) (rowZ p n x) k i = numU (linP o x k i) p.Q
  | 0, _ => by rw [dotP, linP, numU_zero hg]
  | i + 1, hi => by
    have h1 : (k + 1) * (d + 1) ≤ kk * (d + 1) := Nat.mul_le_mul_right _ hk
    have h2 : (k + 1) * (d + 1) = k * (d + 1) + (d + 1) := Nat.succ_mul _ _
    have hr : rowZ p n x i = numU (x i) p.Q := by unfold rowZ; rw [hd, if_pos (by omega), if_pos (by omega)]
    rw [dotP, if_pos (by omega), dot_lin hg hd hn hk i (by omega), secZ_at hd (by omega), hr, numU_mul hg, numU_add hg]
    rfl
theorem dot_sco {p : Pm} {o : Mo} {x : Nat → Int} {n d kk k : Nat} (hg : Good p.Q) (hd : p.D.toNat = d) (hn : n = d) (hk : k < kk) : dotZ p (kk * (d + 1)) (secZ p o) n x k = numU (scoZ p o x k) p.Q := by
  have h1 : (k + 1) * (d + 1) ≤ kk * (d + 1) := Nat.mul_le_mul_right _ hk
  have h2 : (k + 1) * (d + 1) = k * (d + 1) + (d + 1) := Nat.succ_mul _ _
  have hr : rowZ p n x d = numU 1 p.Q := by unfold rowZ; rw [hd, if_neg (by omega)]
  unfold dotZ scoZ
  rw [hd, dotP, if_pos (by omega), dot_lin hg hd hn hk d (Nat.le_refl _), secZ_last hd, hr, numU_mul hg, numU_add hg, scoP_lin]
  congr 1
  rw [Int.mul_one, Int.add_comm]
theorem abs_mul_le {a b m x : Int} (ha : -m ≤ a ∧ a ≤ m) (hb : -x ≤ b ∧ b ≤ x) : -(m * x) ≤ a * b ∧ a * b ≤ m * x := by
  have h1 : (a * b).natAbs ≤ m.natAbs * x.natAbs := by
    rw [Int.natAbs_mul]
    exact Nat.mul_le_mul (by omega) (by omega)
  have h2 : ((m.natAbs * x.natAbs : Nat) : Int) = m * x := by
    rw [Int.natCast_mul, Int.natAbs_of_nonneg (by omega), Int.natAbs_of_nonneg (by omega)]
  omega
theorem scoP_bound {o : Mo} {x : Nat → Int} {k : Nat} {m mx y : Int} (hmx : m * y = mx) (hb : -m ≤ o.b k ∧ o.b k ≤ m) : ∀ i, (∀ j, j < i → (-m ≤ o.F k j ∧ o.F k j ≤ m) ∧ (-y ≤ x j ∧ x j ≤ y)) → -m - (i : Int) * mx ≤ scoP o x k i ∧ scoP o x k i ≤ m + (i : Int) * mx
  | 0, _ => by rw [scoP]; omega
  | i + 1, h => by
    have h1 := scoP_bound hmx hb i fun j hj => h j (by omega)
    have h2 := abs_mul_le (h i (by omega)).1 (h i (by omega)).2
    rw [hmx] at h2
    have h3 : ((i + 1 : Nat) : Int) * mx = (i : Int) * mx + mx := by rw [Int.natCast_add, Int.add_mul, Int.natCast_one, Int.one_mul]
    rw [scoP, h3]
    omega
/-- The stage's theorem, in numbers. -/
theorem scores_of_dot {p : Pm} {o : Mo} {x : Nat → Int} {n d kk k : Nat} (hQ : p.Q ≤ 2305843009213693952) (hd : p.D = (d : Int)) (hn : n = d) (hk : k < kk) (hM : 0 ≤ p.M) (hX : 0 ≤ p.X) (hfit : 2 * ((d : Int) * p.M * p.X + p.M) < (p.Q : Int))
    (hb : -p.M ≤ o.b k ∧ o.b k ≤ p.M) (hF : ∀ j, j < d → (-p.M ≤ o.F k j ∧ o.F k j ≤ p.M) ∧ (-p.X ≤ x j ∧ x j ≤ p.X)) :
    intU (dotZ p (kk * (d + 1)) (secZ p o) n x k) p.Q = scoZ p o x k := by
  have hdN : p.D.toNat = d := by omega
  have h0 : 0 ≤ (d : Int) * p.M * p.X := Int.mul_nonneg (Int.mul_nonneg (Int.natCast_nonneg _) hM) hX
  have hg : Good p.Q := ⟨by omega, hQ⟩
  rw [dot_sco hg hdN hn hk]
  obtain ⟨mx, hmx⟩ : ∃ mx, p.M * p.X = mx := ⟨_, rfl⟩
  have hbd := scoP_bound (x := x) hmx hb d hF
  have e : (d : Int) * p.M * p.X = (d : Int) * mx := by rw [← hmx, Int.mul_assoc]
  rw [e] at hfit h0
  generalize (d : Int) * mx = t at *
  unfold scoZ
  rw [hdN]
  exact int_num hg (by omega) (by omega)
end MM
end Go.Proofs.Ytdblijpoelcghaa
