/- The walk of the program's check of points. -/
import Derived.Test.YtaogdhpiiclejaaDoorPolyW2
import Derived.Test.YtaogdhpiiclejaaDoorSort3
namespace Go.Proofs.YtaogdhpiiclejaaDoor
open Go Go.RowKit Go.Lib
namespace MM
theorem subU_zero {a b q : Nat} (hq : Good q) : subU a b q = 0 ↔ a % q = b % q := by
  unfold subU subm
  rw [if_pos hq]
  have h1 := Nat.mod_lt a hq.1
  have h2 := Nat.mod_lt b hq.1
  constructor
  · intro h
    by_cases hle : b % q ≤ a % q
    · have e : a % q + q - b % q = (a % q - b % q) + q := by omega
      rw [e, Nat.add_mod_right, Nat.mod_eq_of_lt (by omega)] at h
      omega
    · rw [Nat.mod_eq_of_lt (by omega)] at h; omega
  · intro h; rw [h, show b % q + q - b % q = q by omega, Nat.mod_self]
theorem twRow_iff {q : Nat} {z : Nat → Nat} {i : Nat} : ∀ n, twRow q z i n = true ↔ ∃ k, k < n ∧ subU (z i) (z k) q = 0
  | 0 => ⟨(fun h => by cases h), fun ⟨_, h, _⟩ => absurd h (by omega)⟩
  | n + 1 => by
    unfold twRow
    rw [Bool.or_eq_true, twRow_iff n]
    constructor
    · rintro (⟨k, hk, e⟩ | h)
      · exact ⟨k, by omega, e⟩
      · exact ⟨n, by omega, by simpa using h⟩
    · rintro ⟨k, hk, e⟩
      by_cases h : k = n
      · subst h; right; simpa using e
      · left; exact ⟨k, by omega, e⟩
theorem twAll_iff {q : Nat} {z : Nat → Nat} : ∀ n, twAll q z n = true ↔ ∃ i k, i < n ∧ k < i ∧ subU (z i) (z k) q = 0
  | 0 => ⟨(fun h => by cases h), fun ⟨_, _, h, _⟩ => absurd h (by omega)⟩
  | n + 1 => by
    unfold twAll
    rw [Bool.or_eq_true, twAll_iff n, twRow_iff n]
    constructor
    · rintro (⟨i, k, hi, hk, e⟩ | ⟨k, hk, e⟩)
      · exact ⟨i, k, by omega, hk, e⟩
      · exact ⟨n, k, by omega, hk, e⟩
    · rintro ⟨i, k, hi, hk, e⟩
      by_cases h : i = n
      · subst h; right; exact ⟨k, hk, e⟩
      · left; exact ⟨i, k, by omega, hk, e⟩
theorem dup_scale {q n : Nat} {z : Nat → Nat} (hq : Good q) : Dup n (scaleU 1 q z) ↔ twAll q z n = true := by
  rw [twAll_iff]
  have e : ∀ k, scaleU 1 q z k = z k % q := fun k => by unfold scaleU; rw [mulU_of hq, Nat.mul_one]
  constructor
  · rintro ⟨p, k, hpk, hk, h⟩
    rw [e, e] at h
    exact ⟨k, p, hk, hpk, (subU_zero hq).2 h.symm⟩
  · rintro ⟨i, k, hi, hk, h⟩
    exact ⟨k, i, hk, hi, by rw [e, e]; exact ((subU_zero hq).1 h).symm⟩
/-- What the program's check tells. -/
def checkU (q n : Nat) (z : Nat → Nat) : Int := if ¬ Good q then 1 else if 1024 < n then 40 else if twAll q z n = true then 6 else 0
/-- What it tells of points that are not too many, where there are numbers. -/
def tw6 (q : Nat) (z : Nat → Nat) (n : Nat) : Int := if twAll q z n = true then 6 else 0
theorem scaleU_lt {f q k : Nat} {z : Nat → Nat} : scaleU f q z k < 18446744073709551616 := mulU_lt _ _ _
end MM
namespace M
/-- The library's sort serves at rows of n numbers. -/
def Sorts (n : Nat) : Prop := ∀ (W0 : World) (B : Nat) (z : Nat → Nat) (w : World), Mine W0 B n z w → Calls Tryd.prog 40 #[.slice (some ⟨B, 0, none⟩) n n] w fun e w' => e = .returned (.tuple #[]) ∧ Srt W0 B n 0 n z (MM.Asc 0 n) w'
theorem sorts_short (n : Nat) (hn : n ≤ 12) : Sorts n := fun W0 B z w h => sort_short W0 B n n z hn w h

theorem check_bad (ao : Option Addr) (n cap q : Nat) (hq : ¬ MM.Good q) (W : World) :
    Calls Tryd.prog 26 #[.slice ao n cap, .int .u64 (q : Int)] W fun e w' => e = .returned (.int .i64 1) ∧ W = w' := by
  have HY := Lib.hid (allow_no q hq)
  clear hq
  go_enter Tryd.func26, Tryd.ntmps26
  go_wp2_with (go_at_call 39; (with_reducible refine (HY.out _).mono ?_); rintro e w' ⟨rfl, rfl⟩)
  go_ret
  exact ⟨rfl, rfl⟩
theorem check_many (ao : Option Addr) (n cap q : Nat) (hq : MM.Good q) (hn : 1024 < n) (W : World) :
    Calls Tryd.prog 26 #[.slice ao n cap, .int .u64 (q : Int)] W fun e w' => e = .returned (.int .i64 40) ∧ W = w' := by
  have HY := Lib.hid (allow_yes q hq)
  have h1 : (1024 : Int) < (n : Int) := by omega
  clear hq hn
  go_enter Tryd.func26, Tryd.ntmps26
  go_wp2_with (go_at_call 39; (with_reducible refine (HY.out _).mono ?_); rintro e w' ⟨rfl, rfl⟩)
  go_ret
  exact ⟨rfl, rfl⟩
set_option maxHeartbeats 2000000 in
theorem check_good (ao : Option Addr) (n cap q : Nat) (z : Nat → Nat) (hz : ∀ k, z k < 18446744073709551616) (hq : MM.Good q) (hn : n ≤ 1024) (hS : Sorts n) (W : World) (hr : Rd W ao n z) :
    Calls Tryd.prog 26 #[.slice ao n cap, .int .u64 (q : Int)] W fun e w' => e = .returned (.int .i64 (MM.tw6 q z n)) ∧ Below W.heap.size W w' := by
  have HY := Lib.hid (allow_yes q hq)
  have h1 : ¬ (1024 : Int) < (n : Int) := by omega
  have hsc := scale_good ao n cap 1 q z (by omega) hz (by omega) hq W hr
  rw [show ((1 : Nat) : Int) = 1 from rfl] at hsc
  have HSC := Lib.hid hsc
  obtain ⟨B, hB⟩ : ∃ B, W.heap.size = B := ⟨_, rfl⟩
  rw [hB] at HSC
  unfold Sorts at hS
  have HSS := Lib.hid hS
  have HQ := Lib.hid hq
  have HB := Lib.hid hB
  clear hq hS hz hr hB hsc
  go_enter Tryd.func26, Tryd.ntmps26
  go_upto_region 6 with (first | (go_at_call 39; (with_reducible refine (HY.out _).mono ?_); rintro e w' ⟨rfl, rfl⟩) | (go_at_call 31; (with_reducible refine HSC.out.mono ?_); rintro e w' ⟨rfl, hm⟩; have HM := Lib.hid hm; clear hm))
  go_upto_region 7 with (go_at_call 40; (with_reducible refine (HSS.out _ _ _ _ HM.out).mono ?_); rintro e w' ⟨rfl, hs⟩; have HS := Lib.hid hs; clear hs)
  obtain ⟨y, hmy, hsw, hasc⟩ := HS.out

  have HC := Lib.hid (compact_any W B n y (by omega) _ hmy)
  have HD : Hid (MM.NoAdj n y ↔ ¬ MM.twAll q z n = true) := Lib.hid (by rw [MM.NoAdj.dup hasc, hsw.dup (Nat.le_refl _), MM.dup_scale HQ.out])
  clear hmy hsw hasc HS HM
  by_cases hd : MM.twAll q z n = true
  · have HT : Hid (MM.tw6 q z n = 6) := Lib.hid (by unfold MM.tw6; rw [if_pos hd])
    have HC2 : Hid (Calls Tryd.prog 41 #[.slice (some ⟨B, 0, none⟩) n n] w' fun e w' => ∃ k c : Nat, e = .returned (.slice (some ⟨B, 0, none⟩) k c) ∧ (k : Int) < (n : Int) ∧ Below W.heap.size W w') := Lib.hid (HC.out.mono fun e w' ⟨k, c, he, hk, hki, hb⟩ => ⟨k, c, he, by
      have : k ≠ n := fun h => (HD.out.1 (hki.1 h)) hd
      omega, hb⟩)
    clear HC HD hd
    go_wp2_with ((go_at_call 41; (with_reducible refine HC2.out.mono ?_); rintro e w' ⟨k, c, rfl, hk, hbw⟩; have HBW := Lib.hid hbw; clear hbw))
    go_ret
    exact ⟨congrArg (fun x : Int => Ending.returned (Value.int .i64 x)) HT.out.symm, HBW.out⟩
  · have HT : Hid (MM.tw6 q z n = 0) := Lib.hid (by unfold MM.tw6; rw [if_neg hd])
    have HC2 : Hid (Calls Tryd.prog 41 #[.slice (some ⟨B, 0, none⟩) n n] w' fun e w' => ∃ c : Nat, e = .returned (.slice (some ⟨B, 0, none⟩) n c) ∧ Below W.heap.size W w') := Lib.hid (HC.out.mono fun e w' ⟨k, c, he, hk, hki, hb⟩ => ⟨c, by
      rw [he, hki.2 (HD.out.2 hd)], hb⟩)
    clear HC HD hd
    go_wp2_with ((go_at_call 41; (with_reducible refine HC2.out.mono ?_); rintro e w' ⟨c, rfl, hbw⟩; have HBW := Lib.hid hbw; clear hbw))
    go_ret
    exact ⟨congrArg (fun x : Int => Ending.returned (Value.int .i64 x)) HT.out.symm, HBW.out⟩
end M
end Go.Proofs.YtaogdhpiiclejaaDoor
