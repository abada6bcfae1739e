/- The library's sort of a row of numbers, its short way: comparing, insertion. -/
import Derived.Test.YtaogdhpiiclejaaDoorMine
import Derived.RegionTactic
import Derived.ChangeAlike
import Derived.IntWalk
import Derived.BigGuardPart
namespace Go.Proofs.YtaogdhpiiclejaaDoor
open Go Go.RowKit Go.Lib
namespace MM
/-- Two numbers of a row change places. -/
def swapU (i j : Nat) (z : Nat → Nat) (k : Nat) : Nat := if k = i then z j else if k = j then z i else z k
/-- Some of the first n numbers are the same. -/
def Dup (n : Nat) (z : Nat → Nat) : Prop := ∃ p q, p < q ∧ q < n ∧ z p = z q
/-- What comes of a row by exchanges between a and b. -/
inductive Sw (a b : Nat) (z : Nat → Nat) : (Nat → Nat) → Prop
  | refl : Sw a b z z
  | step {y : Nat → Nat} (h : Sw a b z y) (i j : Nat) (hi : a ≤ i ∧ i < b) (hj : a ≤ j ∧ j < b) : Sw a b z (swapU i j y)
theorem Sw.trans {a b : Nat} {x y z : Nat → Nat} (h : Sw a b x y) (k : Sw a b y z) : Sw a b x z := by
  induction k with
  | refl => exact h
  | step _ i j hi hj ih => exact ih.step i j hi hj
theorem Sw.wide {a b c d : Nat} {x y : Nat → Nat} (h : Sw a b x y) (h1 : c ≤ a) (h2 : b ≤ d) : Sw c d x y := by
  induction h with
  | refl => exact .refl
  | step _ i j hi hj ih => exact ih.step i j ⟨by omega, by omega⟩ ⟨by omega, by omega⟩
theorem dup_swap {n i j : Nat} {z : Nat → Nat} (hi : i < n) (hj : j < n) : Dup n z → Dup n (swapU i j z) := by
  rintro ⟨p, q, hpq, hq, e⟩
  have key : ∀ k, k < n → ∃ m, m < n ∧ swapU i j z m = z k ∧ (m = if k = i then j else if k = j then i else k) := fun k hk => by
    refine ⟨if k = i then j else if k = j then i else k, ?_, ?_, rfl⟩
    · by_cases h1 : k = i
      · rw [if_pos h1]; exact hj
      · rw [if_neg h1]; by_cases h2 : k = j
        · rw [if_pos h2]; exact hi
        · rw [if_neg h2]; exact hk
    · unfold swapU
      by_cases h1 : k = i
      · subst h1; rw [if_pos rfl]; by_cases h2 : j = k
        · rw [if_pos h2, h2]
        · rw [if_neg h2, if_pos rfl]
      · rw [if_neg h1]; by_cases h2 : k = j
        · subst h2; rw [if_pos rfl, if_pos rfl]
        · rw [if_neg h2, if_neg h1, if_neg h2]
  obtain ⟨p', hp', ep, mp⟩ := key p (by omega)
  obtain ⟨q', hq', eq, mq⟩ := key q hq
  have hne : p' ≠ q' := by
    rw [mp, mq]
    by_cases a1 : p = i
    · subst a1
      rw [if_pos rfl, if_neg (by omega)]
      by_cases a2 : q = j
      · subst a2; rw [if_pos rfl]; omega
      · rw [if_neg a2]; omega
    · rw [if_neg a1]
      by_cases a2 : p = j
      · subst a2; rw [if_pos rfl]
        by_cases a3 : q = i
        · subst a3; rw [if_pos rfl]; omega
        · rw [if_neg a3, if_neg (by omega)]; omega
      · rw [if_neg a2]
        by_cases a3 : q = i
        · subst a3; rw [if_pos rfl]; omega
        · rw [if_neg a3]; by_cases a4 : q = j
          · subst a4; rw [if_pos rfl]; omega
          · rw [if_neg a4]; omega
  rcases Nat.lt_or_ge p' q' with h | h
  · exact ⟨p', q', h, hq', by rw [ep, eq, e]⟩
  · exact ⟨q', p', by omega, hp', by rw [ep, eq, e]⟩
theorem swap_swap (i j : Nat) (z : Nat → Nat) : swapU i j (swapU i j z) = z := by
  funext k
  unfold swapU
  by_cases h1 : k = i
  · subst h1; rw [if_pos rfl]
    by_cases h2 : j = k
    · rw [if_pos h2]; rw [h2]
    · rw [if_neg h2, if_pos rfl]
  · rw [if_neg h1]; by_cases h2 : k = j
    · subst h2; rw [if_pos rfl, if_pos rfl]
    · rw [if_neg h2]; rw [if_neg h1, if_neg h2]
theorem Sw.dup {a b n : Nat} {z y : Nat → Nat} (h : Sw a b z y) (hb : b ≤ n) : Dup n y ↔ Dup n z := by
  induction h with
  | refl => exact Iff.rfl
  | step _ i j hi hj ih =>
    refine Iff.trans ⟨fun h => ?_, dup_swap (by omega) (by omega)⟩ ih
    have := dup_swap (i := i) (j := j) (by omega) (by omega) h
    rwa [swap_swap] at this
/-- In order from a on, up to b. -/
def Asc (a b : Nat) (z : Nat → Nat) : Prop := ∀ p q, a ≤ p → p < q → q < b → z p ≤ z q
/-- In order but for the one at j, which may be too small. -/
def AscBut (a i j : Nat) (z : Nat → Nat) : Prop := ∀ p q, a ≤ p → p < q → q ≤ i → q ≠ j → z p ≤ z q
theorem AscBut.start {a i : Nat} {z : Nat → Nat} (h : Asc a i z) : AscBut a i i z := fun p q h1 h2 h3 h4 => h p q h1 h2 (by omega)
theorem AscBut.first {a i : Nat} {z : Nat → Nat} (h : AscBut a i a z) : Asc a (i + 1) z := fun p q h1 h2 h3 => h p q h1 h2 (by omega) (by omega)
theorem AscBut.stop {a i j : Nat} {z : Nat → Nat} (h : AscBut a i j z) (hj : j ≤ i) (ha : a < j) (hle : z (j - 1) ≤ z j) : Asc a (i + 1) z := fun p q h1 h2 h3 => by
  by_cases e : q = j
  · subst e
    by_cases e2 : p = q - 1
    · rw [e2]; exact hle
    · exact Nat.le_trans (h p (q - 1) h1 (by omega) (by omega) (by omega)) hle
  · exact h p q h1 h2 (by omega) e
theorem AscBut.next {a i j : Nat} {z : Nat → Nat} (h : AscBut a i (j + 1) z) (hj : j + 1 ≤ i) (ha : a ≤ j) (hlt : z (j + 1) < z j) : AscBut a i j (swapU (j + 1) j z) := fun p q h1 h2 h3 h4 => by
  unfold swapU
  by_cases e1 : q = j + 1
  · subst e1
    rw [if_pos (rfl : j + 1 = j + 1), if_neg (show p ≠ j + 1 by omega)]
    by_cases e2 : p = j
    · rw [if_pos e2]; omega
    · rw [if_neg e2]; exact h p j h1 (by omega) (by omega) (by omega)
  · rw [if_neg e1, if_neg h4]
    by_cases e2 : p = j + 1
    · rw [if_pos e2]; exact h j q ha (by omega) h3 e1
    · rw [if_neg e2]; by_cases e3 : p = j
      · rw [if_pos e3]; exact h (j + 1) q (by omega) (by omega) h3 e1
      · rw [if_neg e3]; exact h p q h1 h2 h3 e1
end MM
namespace M
theorem nan_any (x : Nat) (w : World) : Calls Tryd.prog 65 #[.int .u64 (x : Int)] w fun e w' => e = .returned (.bool false) ∧ w = w' := by
  go_enter Tryd.func65, Tryd.ntmps65
  go_wp2_with fail
  go_ret
  exact ⟨rfl, rfl⟩
def ltB (x y : Nat) : Bool := decide (x < y)
theorem less_any (x y : Nat) : Ret 55 #[.int .u64 (x : Int), .int .u64 (y : Int)] (.bool (ltB x y)) := by
  intro w
  have HN := Lib.hid (fun (x : Nat) (w : World) => nan_any x w)
  obtain ⟨b, hb⟩ : ∃ b, ltB x y = b := ⟨_, rfl⟩
  have hb2 : decide ((x : Int) < (y : Int)) = b := by rw [← hb]; unfold ltB; simp
  have hb3 : decide (x < y) = b := hb
  rw [hb]
  clear hb
  cases b
  all_goals
    go_enter Tryd.func55, Tryd.ntmps55
    go_wp2_with (go_at_call 65; (with_reducible refine (HN.out _ _).mono ?_); rintro e w' ⟨rfl, rfl⟩)
    go_ret
    exact ⟨rfl, 0, rfl⟩
end M
end Go.Proofs.YtaogdhpiiclejaaDoor
