/- The walks of mod.Add, mod.Sub, mod.Mul and mod.Pow: for m from 1 to 2^61 the sum, the difference, the product and the power modulo m; for any other m 0. -/
import Derived.Test.YtdblijpoelcghaaModDivN
import Derived.Test.YtdblijpoelcghaaModMath2
import Derived.WalkSmall
import Derived.Deep.LoopGhost
import Derived.Deep.RegionWith
namespace Go.Proofs.Ytdblijpoelcghaa
open Go Go.RowKit Go.Lib
namespace M

theorem add_core (a b m r : Nat) (hm : 0 < m) (hr : (IntKind.u64.wrap ((a : Int) % (m : Int) + (b : Int) % (m : Int))).tmod (m : Int) = (r : Int)) (w : World)
    (hc : ∀ W : World, Calls Try.prog 46 #[.int .u64 m] W fun e w' => e = .returned (.bool true) ∧ W = w') :
    Calls Try.prog 34 #[.int .u64 a, .int .u64 b, .int .u64 m] w fun e w' => e = .returned (.int .u64 (r : Int)) ∧ ∃ n, w' = w.drewN n := by
  have HC := Lib.hid hc
  clear hc
  go_enter Try.func34, Try.ntmps34
  go_wp2_with (go_at_call 46; refine (HC.out _).mono ?_; rintro e w' ⟨rfl, rfl⟩)
  go_quiet (fail)
  go_wp2_with fail
  go_ret
  exact ⟨rfl, ⟨_, rfl⟩⟩

theorem sub_core (a b m r : Nat) (hm : 0 < m) (hr : (IntKind.u64.wrap (IntKind.u64.wrap ((a : Int) % (m : Int) + (m : Int)) - (b : Int) % (m : Int))).tmod (m : Int) = (r : Int)) (w : World)
    (hc : ∀ W : World, Calls Try.prog 46 #[.int .u64 m] W fun e w' => e = .returned (.bool true) ∧ W = w') :
    Calls Try.prog 36 #[.int .u64 a, .int .u64 b, .int .u64 m] w fun e w' => e = .returned (.int .u64 (r : Int)) ∧ ∃ n, w' = w.drewN n := by
  have HC := Lib.hid hc
  clear hc
  go_enter Try.func36, Try.ntmps36
  go_wp2_with (go_at_call 46; refine (HC.out _).mono ?_; rintro e w' ⟨rfl, rfl⟩)
  go_quiet (fail)
  go_wp2_with fail
  go_ret
  exact ⟨rfl, ⟨_, rfl⟩⟩

theorem add_any (a b m : Nat) (hm : 0 < m) (hb : m ≤ 2305843009213693952) (w : World) :
    Calls Try.prog 34 #[.int .u64 a, .int .u64 b, .int .u64 m] w fun e w' => e = .returned (.int .u64 (((a + b) % m : Nat) : Int)) ∧ ∃ n, w' = w.drewN n := by
  have h1 := Nat.mod_lt a hm
  have h2 := Nat.mod_lt b hm
  refine add_core a b m _ hm ?_ w (allowed_ok m hm hb)
  rw [← Int.natCast_emod, ← Int.natCast_emod, addN, wrapN _ (by omega), ← Int.ofNat_tmod, ← Nat.add_mod]

theorem sub_any (a b m : Nat) (hm : 0 < m) (hb : m ≤ 2305843009213693952) (w : World) :
    Calls Try.prog 36 #[.int .u64 a, .int .u64 b, .int .u64 m] w fun e w' => e = .returned (.int .u64 ((MM.subm a b m : Nat) : Int)) ∧ ∃ n, w' = w.drewN n := by
  have h1 := Nat.mod_lt a hm
  have h2 := Nat.mod_lt b hm
  refine sub_core a b m _ hm ?_ w (allowed_ok m hm hb)
  unfold MM.subm
  rw [← Int.natCast_emod, ← Int.natCast_emod, addN, wrapN _ (by omega), ← Int.ofNat_sub (by omega), wrapN _ (by omega), ← Int.ofNat_tmod]

theorem mul_core (a b m p q r : Nat)
    (hc : ∀ W : World, Calls Try.prog 46 #[.int .u64 m] W fun e w' => e = .returned (.bool true) ∧ W = w')
    (hc2 : ∀ W : World, Calls Try.prog 47 #[.int .u64 a, .int .u64 b] W fun e w' => e = .returned (.tuple #[.int .u64 p, .int .u64 q]) ∧ W = w')
    (hc3 : ∀ W : World, Calls Try.prog 48 #[.int .u64 p, .int .u64 q, .int .u64 m] W fun e w' => e = .returned (.int .u64 (r : Int)) ∧ ∃ n, w' = W.drewN n) (w : World) :
    Calls Try.prog 35 #[.int .u64 a, .int .u64 b, .int .u64 m] w fun e w' => e = .returned (.int .u64 (r : Int)) ∧ ∃ n, w' = w.drewN n := by
  have HC := Lib.hid hc
  have HC2 := Lib.hid hc2
  have HC3 := Lib.hid hc3
  clear hc hc2 hc3
  go_enter Try.func35, Try.ntmps35
  go_wp2_with (first | (go_at_call 46; refine (HC.out _).mono ?_; rintro e w' ⟨rfl, rfl⟩) | (go_at_call 47; refine (HC2.out _).mono ?_; rintro e w' ⟨rfl, rfl⟩) | (go_at_call 48; refine (HC3.out _).mono ?_; rintro e w' ⟨rfl, n, rfl⟩))
  go_ret
  exact ⟨rfl, ⟨_, rfl⟩⟩

theorem mul_any (a b m : Nat) (hm : 0 < m) (hb : m ≤ 2305843009213693952) (ha : a < 18446744073709551616) (hb' : b < 18446744073709551616) (w : World) :
    Calls Try.prog 35 #[.int .u64 a, .int .u64 b, .int .u64 m] w fun e w' => e = .returned (.int .u64 ((a * b % m : Nat) : Int)) ∧ ∃ n, w' = w.drewN n := by
  have e : a * b = a * b / 18446744073709551616 * 18446744073709551616 + a * b % 18446744073709551616 := (Nat.div_add_mod' _ _).symm
  have h3 := rem64_any (a * b / 18446744073709551616) (a * b % 18446744073709551616) m hm hb (Nat.mod_lt _ (by omega))
  rw [← e] at h3
  exact mul_core a b m _ _ _ (allowed_ok m hm hb) (mul64_any a b ha hb') h3 w

theorem no_add (a b m : Nat) (h : m = 0 ∨ 2305843009213693952 < m) (w : World) :
    Calls Try.prog 34 #[.int .u64 a, .int .u64 b, .int .u64 m] w fun e w' => e = .returned (.int .u64 0) ∧ ∃ n, w' = w.drewN n := by
  have HC := Lib.hid (allowed_no m h)
  clear h
  go_enter Try.func34, Try.ntmps34
  go_wp2_with (go_at_call 46; refine (HC.out _).mono ?_; rintro e w' ⟨rfl, rfl⟩)
  go_ret
  exact ⟨rfl, ⟨0, rfl⟩⟩
theorem no_sub (a b m : Nat) (h : m = 0 ∨ 2305843009213693952 < m) (w : World) :
    Calls Try.prog 36 #[.int .u64 a, .int .u64 b, .int .u64 m] w fun e w' => e = .returned (.int .u64 0) ∧ ∃ n, w' = w.drewN n := by
  have HC := Lib.hid (allowed_no m h)
  clear h
  go_enter Try.func36, Try.ntmps36
  go_wp2_with (go_at_call 46; refine (HC.out _).mono ?_; rintro e w' ⟨rfl, rfl⟩)
  go_ret
  exact ⟨rfl, ⟨0, rfl⟩⟩
theorem no_mul (a b m : Nat) (h : m = 0 ∨ 2305843009213693952 < m) (w : World) :
    Calls Try.prog 35 #[.int .u64 a, .int .u64 b, .int .u64 m] w fun e w' => e = .returned (.int .u64 0) ∧ ∃ n, w' = w.drewN n := by
  have HC := Lib.hid (allowed_no m h)
  clear h
  go_enter Try.func35, Try.ntmps35
  go_wp2_with (go_at_call 46; refine (HC.out _).mono ?_; rintro e w' ⟨rfl, rfl⟩)
  go_ret
  exact ⟨rfl, ⟨0, rfl⟩⟩

end M
end Go.Proofs.Ytdblijpoelcghaa
