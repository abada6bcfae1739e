/- The walks of how long the longest list is, of powers, of a value and a column, as the program and as the document has them. -/
import Derived.Test.YtccpdjjgpkkkbaaBivMath
import Derived.Test.YtccpdjjgpkkkbaaBivOwn
import Derived.Test.YtccpdjjgpkkkbaaPolyEq
import Derived.Test.YtccpdjjgpkkkbaaPolyR1
import Derived.Laws.CopyOwn
import Derived.IntWalk
namespace Go.Proofs.Ytccpdjjgpkkkbaa
open Go Go.RowKit Go.Lib
namespace M
set_option maxHeartbeats 2000000 in
theorem longest_any (ao : Option Addr) (cap m : Nat) (L : Nat → Nat) (F : Nat → Nat → Nat) (hm : m ≤ 1000) (hl : ∀ i, i < m → L i ≤ 1000) (W : World) (hr : Mat W ao m L F) :
    Calls Try.prog 24 #[.slice ao m cap] W fun e w' => e = .returned (.int .i64 ((MM.widU L m : Nat) : Int)) ∧ W = w' := by
  have HR := Lib.hid hr
  have HL := Lib.hid hl
  clear hr hl
  go_enter Try.func24, Try.ntmps24
  go_wp2_with fail
  go_loop [3, 8] (fun s3 s8 => ∃ k : Nat, k ≤ m ∧ s8 = .int .i64 (k : Int) ∧ s3 = .int .i64 ((MM.widU L k : Nat) : Int)) (fun _ s8 => m - (RowKit.intOf s8).toNat)
  case atStart => exact ⟨0, Nat.zero_le _, rfl, rfl⟩
  case round =>
    obtain ⟨k, hk, rfl, rfl⟩ := hrel
    by_cases hlt : k < m
    · obtain ⟨ad, bo, c, rfl, hc, _⟩ := HR.out k hlt
      have HS : Hid (MM.widU L (k + 1) = max (MM.widU L k) (L k)) := Lib.hid rfl
      have hx := MM.widU_le (n := 1000) k (fun i hi => HL.out i (by omega))
      have hy := HL.out k hlt
      generalize MM.widU L k = x at *
      generalize L k = y at *
      obtain ⟨z, hz⟩ : ∃ z, max x y = z := ⟨_, rfl⟩
      rw [hz] at HS
      have hzI : max (x : Int) (y : Int) = (z : Int) := by omega
      clear hz
      go_wp2_with fail
      go_round
      case rel => exact ⟨k + 1, by omega, by go_num, by rw [HS.out]⟩
      case measure => simp [RowKit.intOf]; omega
    · obtain rfl : k = m := by omega
      go_wp2_with fail
      go_ret
      exact ⟨rfl, rfl⟩
set_option maxHeartbeats 2000000 in
theorem wide_any (ao : Option Addr) (cap m : Nat) (L : Nat → Nat) (F : Nat → Nat → Nat) (hm : m ≤ 1000000) (hl : ∀ i, i < m → L i ≤ 9223372036854775807) (W : World) (hr : Mat W ao m L F) :
    Calls Try.prog 28 #[.slice ao m cap] W fun e w' => e = .returned (.int .i64 ((MM.widU L m : Nat) : Int)) ∧ W = w' := by
  have HR := Lib.hid hr
  have HL := Lib.hid hl
  clear hr hl
  go_enter Try.func28, Try.ntmps28
  go_wp2_with fail
  go_loop [3, 4] (fun s3 s8 => ∃ k : Nat, k ≤ m ∧ s8 = .int .i64 (k : Int) ∧ s3 = .int .i64 ((MM.widU L k : Nat) : Int)) (fun _ s8 => m - (RowKit.intOf s8).toNat)
  case atStart => exact ⟨0, Nat.zero_le _, rfl, rfl⟩
  case round =>
    obtain ⟨k, hk, rfl, rfl⟩ := hrel
    by_cases hlt : k < m
    · obtain ⟨ad, bo, c, rfl, hc, _⟩ := HR.out k hlt
      have HS : Hid (MM.widU L (k + 1) = max (MM.widU L k) (L k)) := Lib.hid rfl
      have hx := MM.widU_le (n := 9223372036854775807) k (fun i hi => HL.out i (by omega))
      have hy := HL.out k hlt
      generalize MM.widU L k = x at *
      generalize L k = y at *
      obtain ⟨z, hz⟩ : ∃ z, max x y = z := ⟨_, rfl⟩
      rw [hz] at HS
      have hzI : max (x : Int) (y : Int) = (z : Int) := by omega
      have hk0 : (0 : Int) ≤ (k : Int) := Int.natCast_nonneg _
      have hk1 : (k : Int) < (m : Int) := by omega
      clear hz
      go_wp2_with fail
      go_round
      case rel => exact ⟨k + 1, by omega, by go_num, by rw [HS.out]⟩
      case measure => simp [RowKit.intOf]; omega
    · obtain rfl : k = m := by omega
      go_wp2_with fail
      go_ret
      exact ⟨rfl, rfl⟩
theorem rpower_any (x n q : Nat) (hx : x < 18446744073709551616) (hn : n ≤ 1000000) : Ret 30 #[.int .u64 (x : Int), .int .i64 (n : Int), .int .u64 (q : Int)] (.int .u64 ((MM.powU x n q : Nat) : Int)) := by
  intro W
  have H1 : Ret 29 #[.int .u64 1, .int .u64 1, .int .u64 (q : Int)] (.int .u64 ((MM.powU x 0 q : Nat) : Int)) := by
    have h := rmulU 1 1 q (by omega)
    have e : MM.mulU 1 1 q = MM.powU x 0 q := by
      by_cases hq : MM.Good q
      · rw [MM.mulU_of hq, MM.powU_of hq]; rfl
      · unfold MM.mulU MM.powU; rw [if_neg hq, if_neg hq]
    rwa [e] at h
  go_enter Try.func30, Try.ntmps30
  go_wp2_with (go_at_call 29; (with_reducible refine (H1.at _).mono ?_); rintro e w' ⟨rfl, nd, rfl⟩)
  go_loopw [7, 8] (fun s7 s8 wx => ∃ k d : Nat, k ≤ n ∧ s8 = .int .i64 (k : Int) ∧ s7 = .int .u64 ((MM.powU x k q : Nat) : Int) ∧ wx = W.drewN d) (fun _ s8 _ => n - (RowKit.intOf s8).toNat)
  case atStart => exact ⟨0, _, Nat.zero_le _, rfl, rfl, rfl⟩
  case round =>
    obtain ⟨k, d, hk, rfl, rfl, rfl⟩ := hrel
    by_cases hlt : k < n
    · have hkI : (k : Int) < (n : Int) := by omega
      have HM : Ret 29 #[.int .u64 ((MM.powU x k q : Nat) : Int), .int .u64 (x : Int), .int .u64 (q : Int)] (.int .u64 ((MM.powU x (k + 1) q : Nat) : Int)) := by
        have h := rmulU (MM.powU x k q) x q hx
        have e : MM.mulU (MM.powU x k q) x q = MM.powU x (k + 1) q := by
          by_cases hq : MM.Good q
          · rw [MM.mulU_of hq, MM.powU_of hq, MM.powU_of hq, Nat.pow_succ, MM.mul_mod_left']
          · unfold MM.mulU MM.powU; rw [if_neg hq, if_neg hq]
        rwa [e] at h
      generalize hy : MM.powU x (k + 1) q = y at *
      have HYY := Lib.hid hy
      clear hy
      generalize MM.powU x k q = x0 at *
      go_wp2_with (go_at_call 29; (with_reducible refine (HM.at _).mono ?_); rintro e w' ⟨rfl, nd2, rfl⟩)
      go_roundw
      case rel => exact ⟨k + 1, _, by omega, by go_num, by rw [HYY.out], rfl⟩
      case measure => simp [RowKit.intOf]; omega
    · have hkI : ¬ (k : Int) < (n : Int) := by omega
      obtain rfl : k = n := by omega
      go_wp2_with fail
      go_ret
      exact ⟨rfl, _, rfl⟩
end M
end Go.Proofs.Ytccpdjjgpkkkbaa
