/- The walks of mod.Add, mod.Sub, mod.Mul and mod.Pow: for m from 1 to 2^61 the sum, the difference, the product and the power modulo m; for any other m 0. -/
import Derived.Test.YtaogdhpiiclejaaDoorModDivN
import Derived.Test.YtaogdhpiiclejaaDoorModMath2
import Derived.WalkSmall
import Derived.Deep.LoopGhost
import Derived.Deep.RegionWith
namespace Go.Proofs.YtaogdhpiiclejaaDoor
open Go Go.RowKit Go.Lib
namespace M

theorem add_core (a b m r : Nat) (hm : 0 < m) (hr : (IntKind.u64.wrap ((a : Int) % (m : Int) + (b : Int) % (m : Int))).tmod (m : Int) = (r : Int)) (w : World)
    (hc : ∀ W : World, Calls Tryd.prog 36 #[.int .u64 m] W fun e w' => e = .returned (.bool true) ∧ W = w') :
    Calls Tryd.prog 35 #[.int .u64 a, .int .u64 b, .int .u64 m] w fun e w' => e = .returned (.int .u64 (r : Int)) ∧ ∃ n, w' = w.drewN n := by
  have HC := Lib.hid hc
  clear hc
  go_enter Tryd.func35, Tryd.ntmps35
  go_wp2_with (go_at_call 36; refine (HC.out _).mono ?_; rintro e w' ⟨rfl, rfl⟩)
  go_quiet (fail)
  go_wp2_with fail
  go_ret
  exact ⟨rfl, ⟨_, rfl⟩⟩

theorem sub_core (a b m r : Nat) (hm : 0 < m) (hr : (IntKind.u64.wrap (IntKind.u64.wrap ((a : Int) % (m : Int) + (m : Int)) - (b : Int) % (m : Int))).tmod (m : Int) = (r : Int)) (w : World)
    (hc : ∀ W : World, Calls Tryd.prog 36 #[.int .u64 m] W fun e w' => e = .returned (.bool true) ∧ W = w') :
    Calls Tryd.prog 29 #[.int .u64 a, .int .u64 b, .int .u64 m] w fun e w' => e = .returned (.int .u64 (r : Int)) ∧ ∃ n, w' = w.drewN n := by
  have HC := Lib.hid hc
  clear hc
  go_enter Tryd.func29, Tryd.ntmps29
  go_wp2_with (go_at_call 36; refine (HC.out _).mono ?_; rintro e w' ⟨rfl, rfl⟩)
  go_quiet (fail)
  go_wp2_with fail
  go_ret
  exact ⟨rfl, ⟨_, rfl⟩⟩

theorem add_any (a b m : Nat) (hm : 0 < m) (hb : m ≤ 2305843009213693952) (w : World) :
    Calls Tryd.prog 35 #[.int .u64 a, .int .u64 b, .int .u64 m] w fun e w' => e = .returned (.int .u64 (((a + b) % m : Nat) : Int)) ∧ ∃ n, w' = w.drewN n := by
  have h1 := Nat.mod_lt a hm
  have h2 := Nat.mod_lt b hm
  refine add_core a b m _ hm ?_ w (allowed_ok m hm hb)
  rw [← Int.natCast_emod, ← Int.natCast_emod, addN, wrapN _ (by omega), ← Int.ofNat_tmod, ← Nat.add_mod]

theorem sub_any (a b m : Nat) (hm : 0 < m) (hb : m ≤ 2305843009213693952) (w : World) :
    Calls Tryd.prog 29 #[.int .u64 a, .int .u64 b, .int .u64 m] w fun e w' => e = .returned (.int .u64 ((MM.subm a b m : Nat) : Int)) ∧ ∃ n, w' = w.drewN n := by
  have h1 := Nat.mod_lt a hm
  have h2 := Nat.mod_lt b hm
  refine sub_core a b m _ hm ?_ w (allowed_ok m hm hb)
  unfold MM.subm
  rw [← Int.natCast_emod, ← Int.natCast_emod, addN, wrapN _ (by omega), ← Int.ofNat_sub (by omega), wrapN _ (by omega), ← Int.ofNat_tmod]

theorem mul_core (a b m p q r : Nat)
    (hc : ∀ W : World, Calls Tryd.prog 36 #[.int .u64 m] W fun e w' => e = .returned (.bool true) ∧ W = w')
    (hc2 : ∀ W : World, Calls Tryd.prog 37 #[.int .u64 a, .int .u64 b] W fun e w' => e = .returned (.tuple #[.int .u64 p, .int .u64 q]) ∧ W = w')
    (hc3 : ∀ W : World, Calls Tryd.prog 38 #[.int .u64 p, .int .u64 q, .int .u64 m] W fun e w' => e = .returned (.int .u64 (r : Int)) ∧ ∃ n, w' = W.drewN n) (w : World) :
    Calls Tryd.prog 23 #[.int .u64 a, .int .u64 b, .int .u64 m] w fun e w' => e = .returned (.int .u64 (r : Int)) ∧ ∃ n, w' = w.drewN n := by
  have HC := Lib.hid hc
  have HC2 := Lib.hid hc2
  have HC3 := Lib.hid hc3
  clear hc hc2 hc3
  go_enter Tryd.func23, Tryd.ntmps23
  go_wp2_with (first | (go_at_call 36; refine (HC.out _).mono ?_; rintro e w' ⟨rfl, rfl⟩) | (go_at_call 37; refine (HC2.out _).mono ?_; rintro e w' ⟨rfl, rfl⟩) | (go_at_call 38; refine (HC3.out _).mono ?_; rintro e w' ⟨rfl, n, rfl⟩))
  go_ret
  exact ⟨rfl, ⟨_, rfl⟩⟩

theorem mul_any (a b m : Nat) (hm : 0 < m) (hb : m ≤ 2305843009213693952) (ha : a < 18446744073709551616) (hb' : b < 18446744073709551616) (w : World) :
    Calls Tryd.prog 23 #[.int .u64 a, .int .u64 b, .int .u64 m] w fun e w' => e = .returned (.int .u64 ((a * b % m : Nat) : Int)) ∧ ∃ n, w' = w.drewN n := by
  have e : a * b = a * b / 18446744073709551616 * 18446744073709551616 + a * b % 18446744073709551616 := (Nat.div_add_mod' _ _).symm
  have h3 := rem64_any (a * b / 18446744073709551616) (a * b % 18446744073709551616) m hm hb (Nat.mod_lt _ (by omega))
  rw [← e] at h3
  exact mul_core a b m _ _ _ (allowed_ok m hm hb) (mul64_any a b ha hb') h3 w

theorem no_add (a b m : Nat) (h : m = 0 ∨ 2305843009213693952 < m) (w : World) :
    Calls Tryd.prog 35 #[.int .u64 a, .int .u64 b, .int .u64 m] w fun e w' => e = .returned (.int .u64 0) ∧ ∃ n, w' = w.drewN n := by
  have HC := Lib.hid (allowed_no m h)
  clear h
  go_enter Tryd.func35, Tryd.ntmps35
  go_wp2_with (go_at_call 36; refine (HC.out _).mono ?_; rintro e w' ⟨rfl, rfl⟩)
  go_ret
  exact ⟨rfl, ⟨0, rfl⟩⟩
theorem no_sub (a b m : Nat) (h : m = 0 ∨ 2305843009213693952 < m) (w : World) :
    Calls Tryd.prog 29 #[.int .u64 a, .int .u64 b, .int .u64 m] w fun e w' => e = .returned (.int .u64 0) ∧ ∃ n, w' = w.drewN n := by
  have HC := Lib.hid (allowed_no m h)
  clear h
  go_enter Tryd.func29, Tryd.ntmps29
  go_wp2_with (go_at_call 36; refine (HC.out _).mono ?_; rintro e w' ⟨rfl, rfl⟩)
  go_ret
  exact ⟨rfl, ⟨0, rfl⟩⟩
theorem no_mul (a b m : Nat) (h : m = 0 ∨ 2305843009213693952 < m) (w : World) :
    Calls Tryd.prog 23 #[.int .u64 a, .int .u64 b, .int .u64 m] w fun e w' => e = .returned (.int .u64 0) ∧ ∃ n, w' = w.drewN n := by
  have HC := Lib.hid (allowed_no m h)
  clear h
  go_enter Tryd.func23, Tryd.ntmps23
  go_wp2_with (go_at_call 36; refine (HC.out _).mono ?_; rintro e w' ⟨rfl, rfl⟩)
  go_ret
  exact ⟨rfl, ⟨0, rfl⟩⟩
theorem no_pow (a b m : Nat) (h : m = 0 ∨ 2305843009213693952 < m) (w : World) :
    Calls Tryd.prog 22 #[.int .u64 a, .int .u64 b, .int .u64 m] w fun e w' => e = .returned (.int .u64 0) ∧ ∃ n, w' = w.drewN n := by
  have HC := Lib.hid (allowed_no m h)
  clear h
  go_enter Tryd.func22, Tryd.ntmps22
  go_wp2_with (go_at_call 36; refine (HC.out _).mono ?_; rintro e w' ⟨rfl, rfl⟩)
  go_ret
  exact ⟨rfl, ⟨0, rfl⟩⟩

set_option maxHeartbeats 400000 in
theorem pow_core (a0 e0 m : Nat) (hm : 0 < m) (hb : m ≤ 2305843009213693952) (ha : a0 < 18446744073709551616) (he : e0 < 18446744073709551616) (w : World) :
    Calls Tryd.prog 22 #[.int .u64 a0, .int .u64 e0, .int .u64 m] w fun e w' => e = .returned (.int .u64 ((MM.powm a0 e0 m : Nat) : Int)) ∧ ∃ n, w' = w.drewN n := by
  have HC := Lib.hid (allowed_ok m hm hb)
  have HM := Lib.hid (fun a b ha hb' => mul_any a b m hm hb ha hb')
  have HS := Lib.hid (MM.PowAt.start a0 e0 m hm)
  have HB := Lib.hid hb
  have HA := Lib.hid ha
  have HE := Lib.hid he
  clear hb ha he
  go_enter Tryd.func22, Tryd.ntmps22
  go_wp2_with (go_at_call 36; refine (HC.out _).mono ?_; rintro e w' ⟨rfl, rfl⟩)
  go_loopw [0, 1, 7] (fun s0 s1 s7 wx => ∃ a e p n : Nat, s0 = .int .u64 (a : Int) ∧ s1 = .int .u64 (e : Int) ∧ s7 = .int .u64 (p : Int) ∧ wx = w.drewN n ∧ Hid (a < 18446744073709551616) ∧ Hid (e < 18446744073709551616) ∧ MM.PowAt a0 e0 m p a e) (fun _ s1 _ _ => (RowKit.intOf s1).toNat)
  case atStart => exact ⟨_, _, _, 0, rfl, rfl, rfl, rfl, HA, HE, HS.out⟩
  case round =>
    obtain ⟨a, e, p, n, rfl, rfl, rfl, rfl, Ha, He, hp⟩ := hrel
    have HP := Lib.hid hp
    clear hp
    by_cases h0 : e = 0
    · have h0' : ¬ ((0 : Int) < (e : Int)) := by omega
      have HZ := Lib.hid h0
      clear h0
      go_wp2_with fail
      go_ret
      refine ⟨congrArg Ending.returned (int_eq ?_), ⟨_, rfl⟩⟩
      have h := HP.out
      rw [HZ.out] at h
      rw [h.done]
    · have h1 : (0 : Int) < (e : Int) := by omega
      have hand : bits BinOp.and IntKind.u64 (e : Int) 1 = (e : Int) % 2 := and_one_u64 (e : Int) (by omega) (by have := He.out; omega)
      have hlt := HP.out.lt
      have HLT : Hid (p < 18446744073709551616) := by have := HB.out; show p < 18446744073709551616; omega
      clear hlt
      rcases Nat.mod_two_eq_zero_or_one e with h2 | h2
      · have hb1 : (((e : Int) % 2) == 1) = false := by simp; omega
        have HN := Lib.hid (HP.out.even h2)
        have H2 := Lib.hid h2
        clear h2
        go_wp2_with (go_at_call 23; refine (HM.out _ _ Ha.out Ha.out _).mono ?_; rintro e w' ⟨rfl, n, rfl⟩)
        go_roundw
        case rel => exact ⟨_, _, _, _, rfl, int_eq (by omega), rfl, rfl, by have h := Nat.mod_lt (a * a) hm; have hB := HB.out; show a * a % m < 18446744073709551616; omega, by have h := He.out; show e / 2 < 18446744073709551616; omega, HN.out⟩
        case measure => simp [RowKit.intOf]; omega
      · have hb1 : (((e : Int) % 2) == 1) = true := by simp; omega
        have HN := Lib.hid (HP.out.odd h2)
        have H2 := Lib.hid h2
        clear h2
        go_wp2_with (first | (go_at_call_of 23 (Value.int IntKind.u64 (p : Int)); refine (HM.out p a HLT.out Ha.out _).mono ?_; rintro e w' ⟨rfl, n, rfl⟩) | (go_at_call_of 23 (Value.int IntKind.u64 (a : Int)); refine (HM.out a a Ha.out Ha.out _).mono ?_; rintro e w' ⟨rfl, n, rfl⟩))
        go_roundw
        case rel => exact ⟨_, _, _, _, rfl, int_eq (by omega), rfl, rfl, by have h := Nat.mod_lt (a * a) hm; have hB := HB.out; show a * a % m < 18446744073709551616; omega, by have h := He.out; show e / 2 < 18446744073709551616; omega, HN.out⟩
        case measure => simp [RowKit.intOf]; omega
end M
end Go.Proofs.YtaogdhpiiclejaaDoor
