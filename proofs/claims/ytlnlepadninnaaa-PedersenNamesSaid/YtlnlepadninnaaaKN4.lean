/- The texts PolyW2, Sort1, Sort2, Sort3, PolyW5, QuietTail, QuietIn, one behind the other. -/
import Derived.Test.YtlnlepadninnaaaKN3
import Derived.IntWalk
import Derived.RegionTactic
import Derived.ChangeAlike
import Derived.BigGuardPart
import Derived.Test.YtlnlepadninnaaaKN1
import Derived.Lib.SliceRun
import Derived.Deep.QuietTactic
import Derived.BigQuiet
import Derived.StillTail
import Derived.RangeFuncCalls
import Derived.RangeFuncLeaves
import Derived.TacticsIn
import Derived.OrdersIn
/- The walks of the program's polynomials: sums, degrees, and whether two are the same. -/
namespace Go.Proofs.Ytlnlepadninnaaa
open Go Go.RowKit Go.Lib
namespace MM
/-- A coefficient as the program reads it, modulo any number. -/
def cofU (n q : Nat) (z : Nat → Nat) (i : Nat) : Nat := if i < n then addU (z i) 0 q else 0
theorem cofU_good {n q : Nat} {z : Nat → Nat} (hq : Good q) (i : Nat) : cofU n q z i = atU n q z i := by
  unfold cofU atU; by_cases h : i < n
  · rw [if_pos h, if_pos h, addU_of hq, Nat.add_zero]
  · rw [if_neg h, if_neg h]
theorem cofU_bad {n q : Nat} {z : Nat → Nat} (hq : ¬ Good q) (i : Nat) : cofU n q z i = 0 := by
  unfold cofU addU; rw [if_neg hq]; by_cases h : i < n
  · rw [if_pos h]
  · rw [if_neg h]
def degC (z : Nat → Nat) (q : Nat) : Nat → Int
  | 0 => -1
  | n + 1 => if addU (z n) 0 q = 0 then degC z q n else n
theorem degC_good {z : Nat → Nat} {q : Nat} (hq : Good q) : ∀ n, degC z q n = degU z q n
  | 0 => rfl
  | n + 1 => by unfold degC degU; rw [degC_good hq n, addU_of hq, Nat.add_zero]
theorem degC_bad {z : Nat → Nat} {q : Nat} (hq : ¬ Good q) : ∀ n, degC z q n = -1
  | 0 => rfl
  | n + 1 => by unfold degC; rw [if_pos (by unfold addU; rw [if_neg hq]), degC_bad hq n]
def sameC (la lb q : Nat) (a b : Nat → Nat) : Nat → Bool
  | 0 => true
  | n + 1 => sameC la lb q a b n && (cofU la q a n == cofU lb q b n)
theorem sameC_good {la lb q : Nat} {a b : Nat → Nat} (hq : Good q) : ∀ n, sameC la lb q a b n = sameU la lb q a b n
  | 0 => rfl
  | n + 1 => by unfold sameC sameU; rw [sameC_good hq n, cofU_good hq, cofU_good hq]
theorem sameC_bad {la lb q : Nat} {a b : Nat → Nat} (hq : ¬ Good q) : ∀ n, sameC la lb q a b n = true
  | 0 => rfl
  | n + 1 => by unfold sameC; rw [sameC_bad hq n, cofU_bad hq, cofU_bad hq]; rfl
theorem sameC_no {la lb q : Nat} {a b : Nat → Nat} {k : Nat} (h : cofU la q a k ≠ cofU lb q b k) : ∀ n, k < n → sameC la lb q a b n = false
  | 0, hk => absurd hk (by omega)
  | n + 1, hk => by
    unfold sameC
    rcases Nat.lt_or_ge k n with h1 | h1
    · rw [sameC_no h n h1, Bool.false_and]
    · obtain rfl : k = n := by omega
      rw [show (cofU la q a k == cofU lb q b k) = false by simpa using h, Bool.and_false]
theorem sameC_succ {la lb q : Nat} {a b : Nat → Nat} {k : Nat} (h0 : sameC la lb q a b k = true) (h : cofU la q a k = cofU lb q b k) : sameC la lb q a b (k + 1) = true := by
  rw [sameC, h0, h]; simp
end MM
namespace M
/-- Two readers of coefficients, laid one behind the other. -/
theorem coefs_two (ao bo : Option Addr) (la ca lb cb q : Nat) (W : World) :
    ∃ W2, (((W.alloc (.cells #[.slice ao la ca] 27)).alloc (.cells #[.int .u64 (q : Int)] 23)).alloc (.cells #[.slice bo lb cb] 27)).alloc (.cells #[.int .u64 (q : Int)] 23) = W2 ∧ Below W.heap.size W W2 ∧
      Box W2 W.heap.size 27 (.slice ao la ca) ∧ Box W2 (W.heap.size + 1) 23 (.int .u64 (q : Int)) ∧ Box W2 (W.heap.size + 1 + 1) 27 (.slice bo lb cb) ∧ Box W2 (W.heap.size + 1 + 1 + 1) 23 (.int .u64 (q : Int)) := by
  obtain ⟨W1, h1⟩ : ∃ W1, W.alloc (.cells #[.slice ao la ca] 27) = W1 := ⟨_, rfl⟩
  obtain ⟨W2, h2⟩ : ∃ W2, W1.alloc (.cells #[.int .u64 (q : Int)] 23) = W2 := ⟨_, rfl⟩
  obtain ⟨W3, h3⟩ : ∃ W3, W2.alloc (.cells #[.slice bo lb cb] 27) = W3 := ⟨_, rfl⟩
  obtain ⟨W4, h4⟩ : ∃ W4, W3.alloc (.cells #[.int .u64 (q : Int)] 23) = W4 := ⟨_, rfl⟩
  have b1 : Below W.heap.size W W1 := h1 ▸ below_box _ _
  have b2 : Below W1.heap.size W1 W2 := h2 ▸ below_box _ _
  have b3 : Below W2.heap.size W2 W3 := h3 ▸ below_box _ _
  have b4 : Below W3.heap.size W3 W4 := h4 ▸ below_box _ _
  have s1 : W1.heap.size = W.heap.size + 1 := by rw [← h1, World.size_alloc]
  have s2 : W2.heap.size = W.heap.size + 1 + 1 := by rw [← h2, World.size_alloc, s1]
  have s3 : W3.heap.size = W.heap.size + 1 + 1 + 1 := by rw [← h3, World.size_alloc, s2]
  have b24 : Below W2.heap.size W2 W4 := b3.trans (b4.mono b3.size)
  have b14 : Below W1.heap.size W1 W4 := b2.trans (b24.mono b2.size)
  have b04 : Below W.heap.size W W4 := b1.trans (b14.mono b1.size)
  have x1 : Box W4 W.heap.size 27 (.slice ao la ca) := Box.below (W := W1) (by rw [← h1]; exact Box.new _ _ _) b14
  have x2 : Box W4 (W.heap.size + 1) 23 (.int .u64 (q : Int)) := Box.below (W := W2) (by rw [← h2, ← s1]; exact Box.new _ _ _) b24
  have x3 : Box W4 (W.heap.size + 1 + 1) 27 (.slice bo lb cb) := Box.below (W := W3) (by rw [← h3, ← s2]; exact Box.new _ _ _) b4
  have x4 : Box W4 (W.heap.size + 1 + 1 + 1) 23 (.int .u64 (q : Int)) := by rw [← h4, ← s3]; exact Box.new _ _ _
  exact ⟨W4, by rw [h1, h2, h3, h4], b04, x1, x2, x3, x4⟩

end M
end Go.Proofs.Ytlnlepadninnaaa
/- The library's sort of a row of numbers, its short way: comparing, insertion. -/
namespace Go.Proofs.Ytlnlepadninnaaa
open Go Go.RowKit Go.Lib
namespace MM
/-- Two numbers of a row change places. -/
def swapU (i j : Nat) (z : Nat → Nat) (k : Nat) : Nat := if k = i then z j else if k = j then z i else z k
/-- Some of the first n numbers are the same. -/
def Dup (n : Nat) (z : Nat → Nat) : Prop := ∃ p q, p < q ∧ q < n ∧ z p = z q
/-- What comes of a row by exchanges between a and b. -/
inductive Sw (a b : Nat) (z : Nat → Nat) : (Nat → Nat) → Prop
  | refl : Sw a b z z
  | step {y : Nat → Nat} (h : Sw a b z y) (i j : Nat) (hi : a ≤ i ∧ i < b) (hj : a ≤ j ∧ j < b) : Sw a b z (swapU i j y)
theorem Sw.trans {a b : Nat} {x y z : Nat → Nat} (h : Sw a b x y) (k : Sw a b y z) : Sw a b x z := by
  induction k with
  | refl => exact h
  | step _ i j hi hj ih => exact ih.step i j hi hj
theorem Sw.wide {a b c d : Nat} {x y : Nat → Nat} (h : Sw a b x y) (h1 : c ≤ a) (h2 : b ≤ d) : Sw c d x y := by
  induction h with
  | refl => exact .refl
  | step _ i j hi hj ih => exact ih.step i j ⟨by omega, by omega⟩ ⟨by omega, by omega⟩
theorem dup_swap {n i j : Nat} {z : Nat → Nat} (hi : i < n) (hj : j < n) : Dup n z → Dup n (swapU i j z) := by
  rintro ⟨p, q, hpq, hq, e⟩
  have key : ∀ k, k < n → ∃ m, m < n ∧ swapU i j z m = z k ∧ (m = if k = i then j else if k = j then i else k) := fun k hk => by
    refine ⟨if k = i then j else if k = j then i else k, ?_, ?_, rfl⟩
    · by_cases h1 : k = i
      · rw [if_pos h1]; exact hj
      · rw [if_neg h1]; by_cases h2 : k = j
        · rw [if_pos h2]; exact hi
        · rw [if_neg h2]; exact hk
    · unfold swapU
      by_cases h1 : k = i
      · subst h1; rw [if_pos rfl]; by_cases h2 : j = k
        · rw [if_pos h2, h2]
        · rw [if_neg h2, if_pos rfl]
      · rw [if_neg h1]; by_cases h2 : k = j
        · subst h2; rw [if_pos rfl, if_pos rfl]
        · rw [if_neg h2, if_neg h1, if_neg h2]
  obtain ⟨p', hp', ep, mp⟩ := key p (by omega)
  obtain ⟨q', hq', eq, mq⟩ := key q hq
  have hne : p' ≠ q' := by
    rw [mp, mq]
    by_cases a1 : p = i
    · subst a1
      rw [if_pos rfl, if_neg (by omega)]
      by_cases a2 : q = j
      · subst a2; rw [if_pos rfl]; omega
      · rw [if_neg a2]; omega
    · rw [if_neg a1]
      by_cases a2 : p = j
      · subst a2; rw [if_pos rfl]
        by_cases a3 : q = i
        · subst a3; rw [if_pos rfl]; omega
        · rw [if_neg a3, if_neg (by omega)]; omega
      · rw [if_neg a2]
        by_cases a3 : q = i
        · subst a3; rw [if_pos rfl]; omega
        · rw [if_neg a3]; by_cases a4 : q = j
          · subst a4; rw [if_pos rfl]; omega
          · rw [if_neg a4]; omega
  rcases Nat.lt_or_ge p' q' with h | h
  · exact ⟨p', q', h, hq', by rw [ep, eq, e]⟩
  · exact ⟨q', p', by omega, hp', by rw [ep, eq, e]⟩
theorem swap_swap (i j : Nat) (z : Nat → Nat) : swapU i j (swapU i j z) = z := by
  funext k
  unfold swapU
  by_cases h1 : k = i
  · subst h1; rw [if_pos rfl]
    by_cases h2 : j = k
    · rw [if_pos h2]; rw [h2]
    · rw [if_neg h2, if_pos rfl]
  · rw [if_neg h1]; by_cases h2 : k = j
    · subst h2; rw [if_pos rfl, if_pos rfl]
    · rw [if_neg h2]; rw [if_neg h1, if_neg h2]
theorem Sw.dup {a b n : Nat} {z y : Nat → Nat} (h : Sw a b z y) (hb : b ≤ n) : Dup n y ↔ Dup n z := by
  induction h with
  | refl => exact Iff.rfl
  | step _ i j hi hj ih =>
    refine Iff.trans ⟨fun h => ?_, dup_swap (by omega) (by omega)⟩ ih
    have := dup_swap (i := i) (j := j) (by omega) (by omega) h
    rwa [swap_swap] at this
/-- In order from a on, up to b. -/
def Asc (a b : Nat) (z : Nat → Nat) : Prop := ∀ p q, a ≤ p → p < q → q < b → z p ≤ z q
/-- In order but for the one at j, which may be too small. -/
def AscBut (a i j : Nat) (z : Nat → Nat) : Prop := ∀ p q, a ≤ p → p < q → q ≤ i → q ≠ j → z p ≤ z q
theorem AscBut.start {a i : Nat} {z : Nat → Nat} (h : Asc a i z) : AscBut a i i z := fun p q h1 h2 h3 h4 => h p q h1 h2 (by omega)
theorem AscBut.first {a i : Nat} {z : Nat → Nat} (h : AscBut a i a z) : Asc a (i + 1) z := fun p q h1 h2 h3 => h p q h1 h2 (by omega) (by omega)
theorem AscBut.stop {a i j : Nat} {z : Nat → Nat} (h : AscBut a i j z) (hj : j ≤ i) (ha : a < j) (hle : z (j - 1) ≤ z j) : Asc a (i + 1) z := fun p q h1 h2 h3 => by
  by_cases e : q = j
  · subst e
    by_cases e2 : p = q - 1
    · rw [e2]; exact hle
    · exact Nat.le_trans (h p (q - 1) h1 (by omega) (by omega) (by omega)) hle
  · exact h p q h1 h2 (by omega) e
theorem AscBut.next {a i j : Nat} {z : Nat → Nat} (h : AscBut a i (j + 1) z) (hj : j + 1 ≤ i) (ha : a ≤ j) (hlt : z (j + 1) < z j) : AscBut a i j (swapU (j + 1) j z) := fun p q h1 h2 h3 h4 => by
  unfold swapU
  by_cases e1 : q = j + 1
  · subst e1
    rw [if_pos (rfl : j + 1 = j + 1), if_neg (show p ≠ j + 1 by omega)]
    by_cases e2 : p = j
    · rw [if_pos e2]; omega
    · rw [if_neg e2]; exact h p j h1 (by omega) (by omega) (by omega)
  · rw [if_neg e1, if_neg h4]
    by_cases e2 : p = j + 1
    · rw [if_pos e2]; exact h j q ha (by omega) h3 e1
    · rw [if_neg e2]; by_cases e3 : p = j
      · rw [if_pos e3]; exact h (j + 1) q (by omega) (by omega) h3 e1
      · rw [if_neg e3]; exact h p q h1 h2 h3 e1
end MM
namespace M
def ltB (x y : Nat) : Bool := decide (x < y)
end M
end Go.Proofs.Ytlnlepadninnaaa
/- The walk of the library's insertion sort of a row of numbers. -/
namespace Go.Proofs.Ytlnlepadninnaaa
open Go Go.RowKit Go.Lib
namespace M
/-- The row as it is while it is sorted: what came of z by exchanges, in the call's own block. -/
def Srt (W0 : World) (B n a b : Nat) (z : Nat → Nat) (P : (Nat → Nat) → Prop) (w : World) : Prop := ∃ y, Mine W0 B n y w ∧ MM.Sw a b z y ∧ P y
theorem Srt.drewN {W0 : World} {B n a b : Nat} {z : Nat → Nat} {P : (Nat → Nat) → Prop} {w : World} (h : Srt W0 B n a b z P w) (m : Nat) : Srt W0 B n a b z P (w.drewN m) := let ⟨y, h1, h2⟩ := h; ⟨y, h1.drewN m, h2⟩
theorem Mine.drew {w0 w : World} {B n : Nat} {z : Nat → Nat} (h : Mine w0 B n z w) : Mine w0 B n z w.drew := h.drewN 1
/-- Two cells are exchanged. -/
theorem Mine.swap {w0 w : World} {B n : Nat} {z : Nat → Nat} (h : Mine w0 B n z w) {i j : Nat} (hi : i < n) (hj : j < n) :
    Mine w0 B n (MM.swapU i j z) ((w.setCell ⟨B, i, none⟩ (.int .u64 ((z j : Nat) : Int))).setCell ⟨B, j, none⟩ (.int .u64 ((z i : Nat) : Int))) := by
  by_cases e : i = j
  · subst e
    refine (h.set (y := z) i (z i) (fun k _ => ?_)).set i (z i) (fun k _ => ?_)
    · by_cases h2 : k = i
      · rw [if_pos h2, h2]
      · rw [if_neg h2]
    · unfold MM.swapU
      by_cases h2 : k = i
      · rw [if_pos h2, if_pos h2]
      · simp [h2]
  · refine (h.set (y := fun k => if k = i then z j else z k) i (z j) (fun k _ => rfl)).set j (z i) (fun k _ => ?_)
    unfold MM.swapU
    by_cases h2 : k = i
    · subst h2; rw [if_pos rfl, if_neg e, if_pos rfl]
    · by_cases h3 : k = j
      · rw [if_neg h2, if_pos h3, if_pos h3]
      · rw [if_neg h2, if_neg h3, if_neg h3, if_neg h2]

end M
end Go.Proofs.Ytlnlepadninnaaa
/- The library's Compact of a row of numbers: how many it leaves. -/
namespace Go.Proofs.Ytlnlepadninnaaa
open Go Go.RowKit Go.Lib
namespace MM
def NoAdj (k : Nat) (z : Nat → Nat) : Prop := ∀ i, i + 1 < k → z i ≠ z (i + 1)
theorem NoAdj.dup {n : Nat} {z : Nat → Nat} (ha : Asc 0 n z) : NoAdj n z ↔ ¬ Dup n z := by
  constructor
  · rintro h ⟨p, q, hpq, hq, e⟩
    have h1 := ha p (p + 1) (Nat.zero_le _) (by omega) (by omega)
    have h2 : z (p + 1) ≤ z q := by
      rcases Nat.lt_or_ge (p + 1) q with h3 | h3
      · exact ha (p + 1) q (Nat.zero_le _) h3 hq
      · rw [show q = p + 1 by omega]; omega
    exact h p (by omega) (by omega)
  · intro h i hi e
    exact h ⟨i, i + 1, by omega, hi, e⟩
end MM
namespace M
theorem Mine.setCells {w0 : World} {B n : Nat} (xs : List Value) : ∀ {w : World} {z : Nat → Nat} (o : Nat), Mine w0 B n z w → (∀ x ∈ xs, x = .int .u64 0) → ∃ y, Mine w0 B n y (w.setCells B o xs) := by
  induction xs with
  | nil => intro w z o h _; exact ⟨z, h⟩
  | cons x xs ih =>
    intro w z o h hx
    obtain rfl : x = .int .u64 0 := hx x (by simp)
    have h1 := h.set (y := fun j => if j = o then 0 else z j) o 0 (fun _ _ => rfl)
    exact ih (o + 1) h1 (fun x hx' => hx x (by simp [hx']))
/-- What Compact leaves: k numbers, all of them just where no two neighbours were the same. A plain definition: the walk does not look into it. -/
def Compacted (W0 : World) (B n : Nat) (y : Nat → Nat) (e : Ending) (w' : World) : Prop := ∃ k c : Nat, e = .returned (.slice (some ⟨B, 0, none⟩) k c) ∧ k ≤ n ∧ (k = n ↔ MM.NoAdj n y) ∧ Below W0.heap.size W0 w'
theorem zero_u64 (w : World) : (zeroValue 23).run Try.prog w = .ok (.int .u64 0) w := by kernel_rfl

end M
end Go.Proofs.Ytlnlepadninnaaa
/- The walk of the program's check of points. -/
namespace Go.Proofs.Ytlnlepadninnaaa
open Go Go.RowKit Go.Lib
namespace MM
theorem subU_zero {a b q : Nat} (hq : Good q) : subU a b q = 0 ↔ a % q = b % q := by
  unfold subU subm
  rw [if_pos hq]
  have h1 := Nat.mod_lt a hq.1
  have h2 := Nat.mod_lt b hq.1
  constructor
  · intro h
    by_cases hle : b % q ≤ a % q
    · have e : a % q + q - b % q = (a % q - b % q) + q := by omega
      rw [e, Nat.add_mod_right, Nat.mod_eq_of_lt (by omega)] at h
      omega
    · rw [Nat.mod_eq_of_lt (by omega)] at h; omega
  · intro h; rw [h, show b % q + q - b % q = q by omega, Nat.mod_self]
theorem twRow_iff {q : Nat} {z : Nat → Nat} {i : Nat} : ∀ n, twRow q z i n = true ↔ ∃ k, k < n ∧ subU (z i) (z k) q = 0
  | 0 => ⟨(fun h => by cases h), fun ⟨_, h, _⟩ => absurd h (by omega)⟩
  | n + 1 => by
    unfold twRow
    rw [Bool.or_eq_true, twRow_iff n]
    constructor
    · rintro (⟨k, hk, e⟩ | h)
      · exact ⟨k, by omega, e⟩
      · exact ⟨n, by omega, by simpa using h⟩
    · rintro ⟨k, hk, e⟩
      by_cases h : k = n
      · subst h; right; simpa using e
      · left; exact ⟨k, by omega, e⟩
theorem twAll_iff {q : Nat} {z : Nat → Nat} : ∀ n, twAll q z n = true ↔ ∃ i k, i < n ∧ k < i ∧ subU (z i) (z k) q = 0
  | 0 => ⟨(fun h => by cases h), fun ⟨_, _, h, _⟩ => absurd h (by omega)⟩
  | n + 1 => by
    unfold twAll
    rw [Bool.or_eq_true, twAll_iff n, twRow_iff n]
    constructor
    · rintro (⟨i, k, hi, hk, e⟩ | ⟨k, hk, e⟩)
      · exact ⟨i, k, by omega, hk, e⟩
      · exact ⟨n, k, by omega, hk, e⟩
    · rintro ⟨i, k, hi, hk, e⟩
      by_cases h : i = n
      · subst h; right; exact ⟨k, hk, e⟩
      · left; exact ⟨i, k, by omega, hk, e⟩
theorem dup_scale {q n : Nat} {z : Nat → Nat} (hq : Good q) : Dup n (scaleU 1 q z) ↔ twAll q z n = true := by
  rw [twAll_iff]
  have e : ∀ k, scaleU 1 q z k = z k % q := fun k => by unfold scaleU; rw [mulU_of hq, Nat.mul_one]
  constructor
  · rintro ⟨p, k, hpk, hk, h⟩
    rw [e, e] at h
    exact ⟨k, p, hk, hpk, (subU_zero hq).2 h.symm⟩
  · rintro ⟨i, k, hi, hk, h⟩
    exact ⟨k, i, hk, hi, by rw [e, e]; exact ((subU_zero hq).1 h).symm⟩
/-- What the program's check tells. -/
def checkU (q n : Nat) (z : Nat → Nat) : Int := if ¬ Good q then 1 else if 1024 < n then 40 else if twAll q z n = true then 6 else 0
/-- What it tells of points that are not too many, where there are numbers. -/
def tw6 (q : Nat) (z : Nat → Nat) (n : Nat) : Int := if twAll q z n = true then 6 else 0
theorem scaleU_lt {f q k : Nat} {z : Nat → Nat} : scaleU f q z k < 18446744073709551616 := mulU_lt _ _ _
end MM
namespace M
end M
end Go.Proofs.Ytlnlepadninnaaa
/- A region that draws its order, whose operations but the last ones only read, and call what only draws, and whose last ones come in one forced order behind all others (a store of what was reckoned): one walk of the text's order serves every order. -/
namespace Go.Proofs.Ytlnlepadninnaaa
open Go
namespace QT
section
variable {P : Program} {ops : Array Oper} {md : Region.Mode} {C : World → Prop}
/-- Whatever order the head's operations come up in; behind f of them, L. -/
def Head (P : Program) (md : Region.Mode) (ops : Array Oper) (C : World → Prop) (n : Nat) (L : Array Bool → Act → Prop) : Nat → Array Bool → Act → Prop
  | 0, s, a => L s a
  | f + 1, s, a => (Region.ready md ops s = [] → False) ∧ ∀ i, i ∈ Region.ready md ops s → i < n ∧ qOp P ops C i (fun a' => Head P md ops C n L f (s.setIfInBounds i true) a') a

theorem Head.any {n g : Nat} {L : Array Bool → Act → Prop} {Q : Exit → Act → World → Prop} (hL : ∀ s a w, C w → L s a → wpAny P md ops Q g s a w) (f : Nat) :
    ∀ s a w, C w → Head P md ops C n L f s a → wpAny P md ops Q (f + g) s a w := by
  induction f with
  | zero => intro s a w hw h; rw [Nat.zero_add]; exact hL s a w hw h
  | succ f ih =>
    intro s a w hw h
    rw [Nat.add_right_comm]
    exact ⟨fun e => (h.1 e).elim, fun i hi => wpOp_of_qOp hw (fun a' w' hw' h' => ih _ a' w' hw' h') (h.2 i hi).2⟩

/-- Nothing of the tail comes up as long as one of the head is left. -/
def Waits (md : Region.Mode) (ops : Array Oper) (n : Nat) : Prop := ∀ s, HeadInv md ops n s → ∀ i, i < n → s.getD i true = false → ∀ t, t ∈ Region.ready md ops s → t < n

theorem Head.first {n i : Nat} {oi : Oper} {v : Value} {L : Array Bool → Act → Prop} (hi : ops[i]? = some oi) (hin : i < n) (hsel : ∀ (j : Nat) (o : Oper) cs b, ops[j]? = some o → o.op ≠ .select cs b)
    (hwait : Waits md ops n) (hdone : ∀ s a, L s a → ∀ j ∈ Region.ready md ops s, n ≤ j) (f : Nat) :
    ∀ s a, HeadInv md ops n s →
      (∀ j oj, ops[j]? = some oj → j ≠ i → s.getD j true = false → (∀ e ∈ oj.after, Region.binds md e = true → e.on ≠ i) → oi.apart ops oj = true) →
      i ∈ Region.ready md ops s → YieldsIn P ops C oi v a → Head P md ops C n L f (s.setIfInBounds i true) (a.put oi.dst v) → Head P md ops C n L (f + 1) s a := by
  induction f with
  | zero =>
    intro s a inv _ hr hy H
    have hun := (mem_ready.1 hr).1
    refine ⟨fun e => (by rw [e] at hr; cases hr), fun j hj => ?_⟩
    have hjn := hwait s inv i hin hun j hj
    refine ⟨hjn, ?_⟩
    rcases Nat.decEq j i with hji | rfl
    · exact absurd (hdone _ _ H j (ready_mono hj hji)) (by omega)
    · exact hy.qOp hi H
  | succ f ih =>
    intro s a inv hfree hr hy H
    have hun := (mem_ready.1 hr).1
    refine ⟨fun e => (by rw [e] at hr; cases hr), fun j hj => ?_⟩
    have hjn := hwait s inv i hin hun j hj
    refine ⟨hjn, ?_⟩
    rcases Nat.decEq j i with hji | rfl
    · obtain ⟨hju, oj, hoj, hall⟩ := mem_ready.1 hj
      have hno : ∀ e ∈ oj.after, Region.binds md e = true → e.on ≠ i := fun e he hb e1 => by
        have h1 := hall e he hb
        rw [e1, getD_both hun] at h1
        cases h1
      have hnext := qOp_put hoj (hfree j oj hoj hji hju hno) (fun cs b => hsel i oi cs b hi) (fun cs b => hsel j oj cs b hoj) hy (H.2 j (ready_mono hj hji)).2
      refine qOp_mono (fun a' h3 => ?_) hnext
      refine ih _ a' (inv.set hj hjn) (fun k ok hk hki hku => hfree k ok hk hki ?_) (ready_mono hr (Ne.symm hji)) h3.1 (by rw [Array.setIfInBounds_comm _ _ hji]; exact h3.2)
      rcases Nat.decEq j k with hjk | rfl
      · rwa [getD_set_ne true hjk] at hku
      · exact hju
    · exact hy.qOp hi H

theorem Head.lex {n g : Nat} {Lq : Act → Prop} (hsel : Region.noSelect ops = true) (hwait : Waits md ops n) (l : List Oper) :
    ∀ (k : Nat) (s : Array Bool) (a : Act), (∀ j, j < l.length → l[j]? = ops[k + j]?) → k + l.length = n → HeadInv md ops n s →
      Region.lexHead md ops g l.length k s = true → wpQuiet P ops C Lq l a → Head P md ops C n (fun s' a' => Region.seqB md ops g n s' = true ∧ Lq a') l.length s a := by
  induction l with
  | nil =>
    intro k s a _ hk _ hB h
    obtain rfl : k = n := by simpa using hk
    exact ⟨by simpa [Region.lexHead] using hB, h⟩
  | cons o l ih =>
    intro k s a hl hk inv hB h
    have h0 : ops[k]? = some o := by simpa using (hl 0 (by simp)).symm
    simp only [List.length_cons, Region.lexHead, Bool.and_eq_true] at hB
    have hkn : k < n := by simp only [List.length_cons] at hk; omega
    have hr : k ∈ Region.ready md ops s := by simpa using hB.1.1
    obtain ⟨v, hy, hK⟩ := yieldsIn_of_qOp (K := wpQuiet P ops C Lq l) h0 (by unfold qOp; simp only [h0]; exact h)
    refine Head.first h0 hkn (Region.noSelect_spec hsel) hwait (fun s' a' hL => seqB_ready hL.1) l.length s a inv (Region.free_spec h0 hB.1.2) hr hy ?_
    exact ih (k + 1) _ _ (fun j hj => by have := hl (j + 1) (by simp; omega); simpa [Nat.add_assoc, Nat.add_comm 1 j] using this) (by simp only [List.length_cons] at hk; omega) (inv.set hr hkn) hB.2 hK
end

theorem any_of {P : Program} {Q : Exit → Act → World → Prop} {a : Act} {w : World} {l : List Oper} (n : Nat) (hB : Region.lexTailB .any l.toArray n = true)
    (h : wpQuiet P l.toArray (fun w' => ∃ m, w' = w.drewN m) (fun a' => ∀ m, wpList P l.toArray Q (l.drop n) a' (w.drewN m)) (l.take n) a) : wpAny P .any l.toArray Q l.toArray.size (Array.replicate l.toArray.size false) a (w.drewN 1) := by
  simp only [Region.lexTailB, Bool.and_eq_true, decide_eq_true_eq] at hB
  obtain ⟨⟨⟨⟨hsel, hn⟩, hs⟩, hc⟩, hlex⟩ := hB
  have hn' : n < l.length := by simpa using hn
  have h1 : (l.take n).length = n := by rw [List.length_take]; omega
  have h2 : (l.drop n).length = l.toArray.size - n := by simp
  have hwait : Waits .any l.toArray n := fun s inv i hi hun t ht => Nat.lt_of_not_le fun hle => tail_waits hs hc hn inv _ i rfl hi hun t hle ht
  have inv0 : HeadInv .any l.toArray n (Array.replicate l.toArray.size false) :=
    ⟨by simp, fun j oj _ hl => (by rw [getD_replicate_false] at hl; cases hl), fun t _ ht => getD_in (by simpa using ht) (getD_replicate_false _ _)⟩
  have H := Head.lex (g := l.toArray.size - n) hsel hwait (l.take n) 0 _ a (fun j hj => by rw [h1] at hj; simp [hj]) (by rw [h1, Nat.zero_add]) inv0 (by rw [h1]; exact hlex) h
  have R := Head.any (Q := Q) (g := l.toArray.size - n) (fun s a' w' hw hL => by
    obtain ⟨m, rfl⟩ := hw
    have := wpAny_of_seq (md := .any) (Q' := Q) (l.drop n) n s a' (w.drewN m) (fun j => by simp [List.getElem?_drop]) (by rw [h2]; exact hL.1) (hL.2 m)
    rwa [h2] at this) _ _ _ (w.drewN 1) ⟨1, rfl⟩ H
  rwa [h1, show n + (l.toArray.size - n) = l.toArray.size by omega] at R

/-- The head, n operations, quiet; behind it the others in the text's order, from whatever world the head has left: that of the beginning after some draws. -/
theorem region {P : Program} {id : Nat} {Q : Exit → Act → World → Prop} {a : Act} {w : World} {l : List Oper} (n : Nat) (hm : P.follows .mixedOrders = true) (hB : Region.lexTailB .any l.toArray n = true)
    (h : wpQuiet P l.toArray (fun w' => ∃ m, w' = w.drewN m) (fun a' => ∀ m, wpList P l.toArray Q (l.drop n) a' (w.drewN m)) (l.take n) a) : (Code.region id l.toArray true).wp P Q a w :=
  wp_region_any hm (any_of n hB h)
end QT
end Go.Proofs.Ytlnlepadninnaaa
/- The same region in a round of a range over a function: what holds of it outside holds of it there, as long as nothing of it defers. -/
namespace Go.Proofs.Ytlnlepadninnaaa
open Go
namespace QT
section
variable {P : Program} {ops : Array Oper} {md : Region.Mode} {Q : Exit → Act → World → Prop}
theorem op_in {o : Oper} {a : Act} {w : World} {K : Act → World → Prop} (l n : Nat) (hd : ∀ c, o.op ≠ .defer c) (h : o.wp P a w K Q) : o.wpIn (Fence.wide.inRound l) n P a w K Q := by
  unfold Oper.wp at h
  refine ⟨fun _ _ => trivial, ?_⟩
  rw [show (Fence.wide.inRound l).round = some l from rfl, Oper.semAt_some l _ o hd]
  generalize (execOp a.eval o).run P w = r at *
  cases r with
  | ok v w' =>
    cases v with
    | value v => exact h
    | skip => exact h
    | defer d => exact h
    | enter f args => exact ⟨(fun e => by cases e), CallsIn.inRound l (callsIn_wide.2 h)⟩
    | row row args => exact ⟨(fun e => by cases e), fun c cs _ => let ⟨v, w', r, s⟩ := h c cs; ⟨v, w', r, stepsIn_wide.2 s⟩⟩
    | round l' f tmps assign body => exact h.elim
    | _ => exact h.elim
  | halt hl w' =>
    cases hl with
    | panic v => exact h
    | _ => exact h.elim
theorem opAt_in {a : Act} {w : World} {K K' : Act → World → Prop} (l n i : Nat) (hd : ∀ o ∈ ops.toList, ∀ c, o.op ≠ .defer c) (hno : ¬ LetsOut Q) (hK : ∀ a w, K a w → K' a w) (h : wpOp P ops Q i K a w) : wpOpIn (Fence.wide.inRound l) n P ops Q i K' a w := by
  unfold wpOp at h
  unfold wpOpIn
  cases ho : ops[i]? with
  | none => simp only [ho] at h; exact hK _ _ h
  | some o =>
    simp only [ho] at h
    have hm : o ∈ ops.toList := Array.mem_toList_iff.2 (Array.mem_of_getElem? ho)
    dsimp only
    by_cases hw : Region.wanted o (yielded ops a.tmps) = true
    · rw [if_pos hw] at h ⊢
      rcases h with h | h
      · exact op_in l n (hd o hm) (Oper.wp_mono hK h)
      · exact absurd h.2 hno
    · rw [if_neg hw] at h ⊢
      exact ⟨fun _ _ => trivial, hK _ _ h⟩
theorem any_in (l n : Nat) (hd : ∀ o ∈ ops.toList, ∀ c, o.op ≠ .defer c) (hno : ¬ LetsOut Q) : ∀ (g : Nat) (s : Array Bool) (a : Act) (w : World), wpAny P md ops Q g s a w → wpAnyIn (Fence.wide.inRound l) n P md ops Q g s a w
  | 0, _, _, _, h => h
  | g + 1, _, _, _, h => ⟨h.1, fun i hi => opAt_in l n i hd hno (fun a w => any_in l n hd hno g _ a w) (h.2 i hi)⟩
end
theorem region_in {P : Program} {id : Nat} {Q : Exit → Act → World → Prop} {a : Act} {w : World} {ops : List Oper} (l m n : Nat) (hm : P.follows .mixedOrders = true) (hd : ∀ o ∈ ops, ∀ c, o.op ≠ .defer c) (hno : ¬ LetsOut Q) (hB : Region.lexTailB .any ops.toArray n = true)
    (h : wpQuiet P ops.toArray (fun w' => ∃ m, w' = w.drewN m) (fun a' => ∀ m, wpList P ops.toArray Q (ops.drop n) a' (w.drewN m)) (ops.take n) a) : (Code.region id ops.toArray true).wpIn (Fence.wide.inRound l) m P Q a w :=
  wpIn_region_any hm (any_in l m (by simpa using hd) hno _ _ _ _ (any_of n hB h))
end QT
end Go.Proofs.Ytlnlepadninnaaa
