/- The texts ModMath2, ModW2, ModMath3, ModW3, ModMath4, ModW4, ModW5, one behind the other. -/
import Derived.Test.YtlnlepadninnaaaDoorKR1
import Derived.WalkSmall
import Derived.Deep.LoopGhost
import Derived.Deep.RegionWith
import Derived.Laws.Rows
import Derived.Outline
/- Plain facts on sums, products, powers and inverses modulo a number. Nothing here speaks of the program. -/
namespace Go.Proofs.YtlnlepadninnaaaDoor
namespace MM
/-- The difference modulo m, as the program reckons it. -/
def subm (a b m : Nat) : Nat := (a % m + m - b % m) % m
/-- The power modulo m. -/
def powm (a e m : Nat) : Nat := a ^ e % m

/-- What the loop of the power keeps. -/
structure PowAt (a0 e0 m p a e : Nat) : Prop where
  lt : p < m
  eq : p * a ^ e % m = powm a0 e0 m

theorem mul_mod_left' (a b m : Nat) : (a % m) * b % m = a * b % m := by rw [Nat.mul_mod, Nat.mod_mod, ← Nat.mul_mod]
theorem mul_mod_right' (a b m : Nat) : a * (b % m) % m = a * b % m := by rw [Nat.mul_mod, Nat.mod_mod, ← Nat.mul_mod]
theorem pow_mod' (a e m : Nat) : (a % m) ^ e % m = a ^ e % m := (Nat.pow_mod a e m).symm

theorem PowAt.start (a e m : Nat) (hm : 0 < m) : PowAt a e m (1 % m) a e :=
  ⟨Nat.mod_lt _ hm, by rw [mul_mod_left', Nat.one_mul]; rfl⟩
theorem PowAt.even {a0 e0 m p a e : Nat} (h : PowAt a0 e0 m p a e) (he : e % 2 = 0) : PowAt a0 e0 m p (a * a % m) (e / 2) := by
  refine ⟨h.lt, ?_⟩
  rw [← h.eq, ← mul_mod_right', pow_mod', mul_mod_right']
  have e2 : e = 2 * (e / 2) := by omega
  have : a ^ e = (a * a) ^ (e / 2) := by
    rw [show a * a = a ^ 2 by rw [Nat.pow_two], ← Nat.pow_mul, ← e2]
  rw [this]
theorem PowAt.odd {a0 e0 m p a e : Nat} (h : PowAt a0 e0 m p a e) (he : e % 2 = 1) : PowAt a0 e0 m (p * a % m) (a * a % m) (e / 2) := by
  refine ⟨Nat.mod_lt _ (by have := h.lt; omega), ?_⟩
  rw [← h.eq, mul_mod_left', ← mul_mod_right', pow_mod', mul_mod_right']
  have e2 : e = 2 * (e / 2) + 1 := by omega
  have : a ^ e = a * (a * a) ^ (e / 2) := by
    rw [show a * a = a ^ 2 by rw [Nat.pow_two], ← Nat.pow_mul, Nat.mul_comm a, ← Nat.pow_succ, Nat.succ_eq_add_one, ← e2]
  rw [this, Nat.mul_assoc]
theorem PowAt.done {a0 e0 m p a : Nat} (h : PowAt a0 e0 m p a 0) : p = powm a0 e0 m := by
  rw [← h.eq, Nat.pow_zero, Nat.mul_one, Nat.mod_eq_of_lt h.lt]

end MM
end Go.Proofs.YtlnlepadninnaaaDoor
/- The walks of mod.Add, mod.Sub, mod.Mul and mod.Pow: for m from 1 to 2^61 the sum, the difference, the product and the power modulo m; for any other m 0. -/
namespace Go.Proofs.YtlnlepadninnaaaDoor
open Go Go.RowKit Go.Lib
namespace M

theorem add_core (a b m r : Nat) (hm : 0 < m) (hr : (IntKind.u64.wrap ((a : Int) % (m : Int) + (b : Int) % (m : Int))).tmod (m : Int) = (r : Int)) (w : World)
    (hc : ∀ W : World, Calls Tryd.prog 44 #[.int .u64 m] W fun e w' => e = .returned (.bool true) ∧ W = w') :
    Calls Tryd.prog 25 #[.int .u64 a, .int .u64 b, .int .u64 m] w fun e w' => e = .returned (.int .u64 (r : Int)) ∧ ∃ n, w' = w.drewN n := by
  have HC := Lib.hid hc
  clear hc
  go_enter Tryd.func25, Tryd.ntmps25
  go_wp2_with (go_at_call 44; refine (HC.out _).mono ?_; rintro e w' ⟨rfl, rfl⟩)
  go_quiet (fail)
  go_wp2_with fail
  go_ret
  exact ⟨rfl, ⟨_, rfl⟩⟩

theorem add_any (a b m : Nat) (hm : 0 < m) (hb : m ≤ 2305843009213693952) (w : World) :
    Calls Tryd.prog 25 #[.int .u64 a, .int .u64 b, .int .u64 m] w fun e w' => e = .returned (.int .u64 (((a + b) % m : Nat) : Int)) ∧ ∃ n, w' = w.drewN n := by
  have h1 := Nat.mod_lt a hm
  have h2 := Nat.mod_lt b hm
  refine add_core a b m _ hm ?_ w (allowed_ok m hm hb)
  rw [← Int.natCast_emod, ← Int.natCast_emod, addN, wrapN _ (by omega), ← Int.ofNat_tmod, ← Nat.add_mod]

theorem mul_core (a b m p q r : Nat)
    (hc : ∀ W : World, Calls Tryd.prog 44 #[.int .u64 m] W fun e w' => e = .returned (.bool true) ∧ W = w')
    (hc2 : ∀ W : World, Calls Tryd.prog 66 #[.int .u64 a, .int .u64 b] W fun e w' => e = .returned (.tuple #[.int .u64 p, .int .u64 q]) ∧ W = w')
    (hc3 : ∀ W : World, Calls Tryd.prog 67 #[.int .u64 p, .int .u64 q, .int .u64 m] W fun e w' => e = .returned (.int .u64 (r : Int)) ∧ ∃ n, w' = W.drewN n) (w : World) :
    Calls Tryd.prog 31 #[.int .u64 a, .int .u64 b, .int .u64 m] w fun e w' => e = .returned (.int .u64 (r : Int)) ∧ ∃ n, w' = w.drewN n := by
  have HC := Lib.hid hc
  have HC2 := Lib.hid hc2
  have HC3 := Lib.hid hc3
  clear hc hc2 hc3
  go_enter Tryd.func31, Tryd.ntmps31
  go_wp2_with (first | (go_at_call 44; refine (HC.out _).mono ?_; rintro e w' ⟨rfl, rfl⟩) | (go_at_call 66; refine (HC2.out _).mono ?_; rintro e w' ⟨rfl, rfl⟩) | (go_at_call 67; refine (HC3.out _).mono ?_; rintro e w' ⟨rfl, n, rfl⟩))
  go_ret
  exact ⟨rfl, ⟨_, rfl⟩⟩

theorem mul_any (a b m : Nat) (hm : 0 < m) (hb : m ≤ 2305843009213693952) (ha : a < 18446744073709551616) (hb' : b < 18446744073709551616) (w : World) :
    Calls Tryd.prog 31 #[.int .u64 a, .int .u64 b, .int .u64 m] w fun e w' => e = .returned (.int .u64 ((a * b % m : Nat) : Int)) ∧ ∃ n, w' = w.drewN n := by
  have e : a * b = a * b / 18446744073709551616 * 18446744073709551616 + a * b % 18446744073709551616 := (Nat.div_add_mod' _ _).symm
  have h3 := rem64_any (a * b / 18446744073709551616) (a * b % 18446744073709551616) m hm hb (Nat.mod_lt _ (by omega))
  rw [← e] at h3
  exact mul_core a b m _ _ _ (allowed_ok m hm hb) (mul64_any a b ha hb') h3 w

theorem no_add (a b m : Nat) (h : m = 0 ∨ 2305843009213693952 < m) (w : World) :
    Calls Tryd.prog 25 #[.int .u64 a, .int .u64 b, .int .u64 m] w fun e w' => e = .returned (.int .u64 0) ∧ ∃ n, w' = w.drewN n := by
  have HC := Lib.hid (allowed_no m h)
  clear h
  go_enter Tryd.func25, Tryd.ntmps25
  go_wp2_with (go_at_call 44; refine (HC.out _).mono ?_; rintro e w' ⟨rfl, rfl⟩)
  go_ret
  exact ⟨rfl, ⟨0, rfl⟩⟩
theorem no_mul (a b m : Nat) (h : m = 0 ∨ 2305843009213693952 < m) (w : World) :
    Calls Tryd.prog 31 #[.int .u64 a, .int .u64 b, .int .u64 m] w fun e w' => e = .returned (.int .u64 0) ∧ ∃ n, w' = w.drewN n := by
  have HC := Lib.hid (allowed_no m h)
  clear h
  go_enter Tryd.func31, Tryd.ntmps31
  go_wp2_with (go_at_call 44; refine (HC.out _).mono ?_; rintro e w' ⟨rfl, rfl⟩)
  go_ret
  exact ⟨rfl, ⟨0, rfl⟩⟩
theorem no_pow (a b m : Nat) (h : m = 0 ∨ 2305843009213693952 < m) (w : World) :
    Calls Tryd.prog 71 #[.int .u64 a, .int .u64 b, .int .u64 m] w fun e w' => e = .returned (.int .u64 0) ∧ ∃ n, w' = w.drewN n := by
  have HC := Lib.hid (allowed_no m h)
  clear h
  go_enter Tryd.func71, Tryd.ntmps71
  go_wp2_with (go_at_call 44; refine (HC.out _).mono ?_; rintro e w' ⟨rfl, rfl⟩)
  go_ret
  exact ⟨rfl, ⟨0, rfl⟩⟩

set_option maxHeartbeats 400000 in
theorem pow_core (a0 e0 m : Nat) (hm : 0 < m) (hb : m ≤ 2305843009213693952) (ha : a0 < 18446744073709551616) (he : e0 < 18446744073709551616) (w : World) :
    Calls Tryd.prog 71 #[.int .u64 a0, .int .u64 e0, .int .u64 m] w fun e w' => e = .returned (.int .u64 ((MM.powm a0 e0 m : Nat) : Int)) ∧ ∃ n, w' = w.drewN n := by
  have HC := Lib.hid (allowed_ok m hm hb)
  have HM := Lib.hid (fun a b ha hb' => mul_any a b m hm hb ha hb')
  have HS := Lib.hid (MM.PowAt.start a0 e0 m hm)
  have HB := Lib.hid hb
  have HA := Lib.hid ha
  have HE := Lib.hid he
  clear hb ha he
  go_enter Tryd.func71, Tryd.ntmps71
  go_wp2_with (go_at_call 44; refine (HC.out _).mono ?_; rintro e w' ⟨rfl, rfl⟩)
  go_loopw [0, 1, 7] (fun s0 s1 s7 wx => ∃ a e p n : Nat, s0 = .int .u64 (a : Int) ∧ s1 = .int .u64 (e : Int) ∧ s7 = .int .u64 (p : Int) ∧ wx = w.drewN n ∧ Hid (a < 18446744073709551616) ∧ Hid (e < 18446744073709551616) ∧ MM.PowAt a0 e0 m p a e) (fun _ s1 _ _ => (RowKit.intOf s1).toNat)
  case atStart => exact ⟨_, _, _, 0, rfl, rfl, rfl, rfl, HA, HE, HS.out⟩
  case round =>
    obtain ⟨a, e, p, n, rfl, rfl, rfl, rfl, Ha, He, hp⟩ := hrel
    have HP := Lib.hid hp
    clear hp
    by_cases h0 : e = 0
    · have h0' : ¬ ((0 : Int) < (e : Int)) := by omega
      have HZ := Lib.hid h0
      clear h0
      go_wp2_with fail
      go_ret
      refine ⟨congrArg Ending.returned (int_eq ?_), ⟨_, rfl⟩⟩
      have h := HP.out
      rw [HZ.out] at h
      rw [h.done]
    · have h1 : (0 : Int) < (e : Int) := by omega
      have hand : bits BinOp.and IntKind.u64 (e : Int) 1 = (e : Int) % 2 := and_one_u64 (e : Int) (by omega) (by have := He.out; omega)
      have hlt := HP.out.lt
      have HLT : Hid (p < 18446744073709551616) := by have := HB.out; show p < 18446744073709551616; omega
      clear hlt
      rcases Nat.mod_two_eq_zero_or_one e with h2 | h2
      · have hb1 : (((e : Int) % 2) == 1) = false := by simp; omega
        have HN := Lib.hid (HP.out.even h2)
        have H2 := Lib.hid h2
        clear h2
        go_wp2_with (go_at_call 31; refine (HM.out _ _ Ha.out Ha.out _).mono ?_; rintro e w' ⟨rfl, n, rfl⟩)
        go_roundw
        case rel => exact ⟨_, _, _, _, rfl, int_eq (by omega), rfl, rfl, by have h := Nat.mod_lt (a * a) hm; have hB := HB.out; show a * a % m < 18446744073709551616; omega, by have h := He.out; show e / 2 < 18446744073709551616; omega, HN.out⟩
        case measure => simp [RowKit.intOf]; omega
      · have hb1 : (((e : Int) % 2) == 1) = true := by simp; omega
        have HN := Lib.hid (HP.out.odd h2)
        have H2 := Lib.hid h2
        clear h2
        go_wp2_with (first | (go_at_call_of 31 (Value.int IntKind.u64 (p : Int)); refine (HM.out p a HLT.out Ha.out _).mono ?_; rintro e w' ⟨rfl, n, rfl⟩) | (go_at_call_of 31 (Value.int IntKind.u64 (a : Int)); refine (HM.out a a Ha.out Ha.out _).mono ?_; rintro e w' ⟨rfl, n, rfl⟩))
        go_roundw
        case rel => exact ⟨_, _, _, _, rfl, int_eq (by omega), rfl, rfl, by have h := Nat.mod_lt (a * a) hm; have hB := HB.out; show a * a % m < 18446744073709551616; omega, by have h := He.out; show e / 2 < 18446744073709551616; omega, HN.out⟩
        case measure => simp [RowKit.intOf]; omega
end M
end Go.Proofs.YtlnlepadninnaaaDoor
/- Plain facts on inverses modulo a number, and on what Euclid's way with inverses beside it keeps. Nothing here speaks of the program. -/
namespace Go.Proofs.YtlnlepadninnaaaDoor
namespace MM

/-- Subtracting modulo m, as whole numbers. -/
theorem subm_int (a b m : Nat) (hm : 0 < m) : ∃ k : Int, (subm a b m : Int) = (a : Int) - b + m * k := by
  have h1 := Nat.mod_lt a hm
  have h2 := Nat.mod_lt b hm
  have ha := Nat.div_add_mod a m
  have hb := Nat.div_add_mod b m
  have hs := Nat.div_add_mod (a % m + m - b % m) m
  refine ⟨(b / m : Nat) - (a / m : Nat) + 1 - ((a % m + m - b % m) / m : Nat), ?_⟩
  unfold subm
  have ha' : (m : Int) * ((a / m : Nat) : Int) + ((a % m : Nat) : Int) = a := by rw [← Int.natCast_mul, ← Int.natCast_add, ha]
  have hb' : (m : Int) * ((b / m : Nat) : Int) + ((b % m : Nat) : Int) = b := by rw [← Int.natCast_mul, ← Int.natCast_add, hb]
  have hs' : (m : Int) * (((a % m + m - b % m) / m : Nat) : Int) + (((a % m + m - b % m) % m : Nat) : Int) = ((a % m : Nat) : Int) + m - ((b % m : Nat) : Int) := by
    rw [← Int.natCast_mul, ← Int.natCast_add, hs]; omega
  grind

theorem mod_int (a m : Nat) : ∃ k : Int, ((a % m : Nat) : Int) = (a : Int) + m * k := by
  have ha := Nat.div_add_mod a m
  refine ⟨-((a / m : Nat) : Int), ?_⟩
  have ha' : (m : Int) * ((a / m : Nat) : Int) + ((a % m : Nat) : Int) = a := by rw [← Int.natCast_mul, ← Int.natCast_add, ha]
  grind

/-- What the loop of the inverse keeps. -/
structure InvAt (a m rest next inv aft : Nat) : Prop where
  g : Nat.gcd rest next = Nat.gcd a m
  r0 : 0 < rest
  r1 : rest ≤ m
  n1 : next < rest
  i1 : inv < m
  a1 : aft ≤ m
  a2 : 0 < next → aft < m
  e1 : ∃ k : Int, (inv : Int) * a = rest + m * k
  e2 : ∃ k : Int, (aft : Int) * a = next + m * k

theorem InvAt.start (a m : Nat) (hm : 0 < m) : InvAt a m m (a % m) 0 1 := by
  have h := Nat.mod_lt a hm
  refine ⟨by rw [Nat.gcd_comm a m, Nat.gcd_rec m a, Nat.gcd_comm], hm, Nat.le_refl _, h, hm, hm, fun h' => by omega, ⟨-1, by grind⟩, ?_⟩
  obtain ⟨k, hk⟩ := mod_int a m
  exact ⟨-k, by rw [hk]; grind⟩

theorem InvAt.step {a m rest next inv aft : Nat} (h : InvAt a m rest next inv aft) (hn : 0 < next) :
    InvAt a m next (rest % next) aft (subm inv (rest / next * aft % m) m) := by
  have hm : 0 < m := by have := h.i1; omega
  have h1 := Nat.mod_lt rest hn
  have h2 := Nat.div_add_mod rest next
  refine ⟨?_, hn, by have := h.n1; have := h.r1; omega, h1, h.a2 hn, Nat.le_of_lt (Nat.mod_lt _ hm), fun _ => Nat.mod_lt _ hm, h.e2, ?_⟩
  · rw [← h.g, Nat.gcd_comm, ← Nat.gcd_rec, Nat.gcd_comm]
  · obtain ⟨k1, e1⟩ := h.e1
    obtain ⟨k2, e2⟩ := h.e2
    obtain ⟨k3, e3⟩ := subm_int inv (rest / next * aft % m) m hm
    obtain ⟨k4, e4⟩ := mod_int (rest / next * aft) m
    have e5 : ((rest / next * aft : Nat) : Int) = ((rest / next : Nat) : Int) * aft := Int.natCast_mul _ _
    have e6 : (next : Int) * ((rest / next : Nat) : Int) + ((rest % next : Nat) : Int) = rest := by rw [← Int.natCast_mul, ← Int.natCast_add, h2]
    generalize rest % next = r at *
    generalize hq : rest / next = q at *
    rw [e5] at e4
    rw [e4] at e3
    refine ⟨k1 - q * k2 - k4 * a + k3 * a, ?_⟩
    rw [e3]
    have : ((inv : Int) - ((q : Int) * aft + m * k4) + m * k3) * a = inv * a - q * (aft * a) - m * k4 * a + m * k3 * a := by grind
    rw [this, e1, e2]
    grind

/-- An inverse of a modulo m. -/
def IsInv (a m x : Nat) : Prop := x < m ∧ a * x % m = 1 % m
noncomputable def invm (a m : Nat) : Nat := @Classical.epsilon Nat ⟨0⟩ (IsInv a m)

theorem mod_of_int {x y m : Nat} (h : ∃ k : Int, (x : Int) = y + m * k) : x % m = y % m := by
  obtain ⟨k, hk⟩ := h
  have h2 : ((x % m : Nat) : Int) = ((y % m : Nat) : Int) := by
    rw [Int.natCast_emod, Int.natCast_emod, hk, Int.add_mul_emod_self_left]
  omega

theorem InvAt.done {a m rest inv aft : Nat} (h : InvAt a m rest 0 inv aft) : rest = Nat.gcd a m ∧ (rest = 1 → IsInv a m inv) := by
  refine ⟨by rw [← h.g, Nat.gcd_zero_right], fun e => ⟨h.i1, ?_⟩⟩
  subst e
  obtain ⟨k, hk⟩ := h.e1
  refine mod_of_int ⟨k, ?_⟩
  rw [Int.natCast_mul, Int.mul_comm, hk]

theorem int_of_mod {x y m : Nat} (h : x % m = y % m) : ∃ k : Int, (x : Int) = y + m * k := by
  obtain ⟨k1, e1⟩ := mod_int x m
  obtain ⟨k2, e2⟩ := mod_int y m
  rw [h] at e1
  exact ⟨k2 - k1, by grind⟩

theorem IsInv.gcd {a m x : Nat} (h : IsInv a m x) : Nat.gcd a m = 1 := by
  obtain ⟨k, hk⟩ := int_of_mod h.2
  have d1 : ((Nat.gcd a m : Nat) : Int) ∣ (a : Int) := Int.natCast_dvd_natCast.2 (Nat.gcd_dvd_left a m)
  have d2 : ((Nat.gcd a m : Nat) : Int) ∣ (m : Int) := Int.natCast_dvd_natCast.2 (Nat.gcd_dvd_right a m)
  have d : ((Nat.gcd a m : Nat) : Int) ∣ 1 := by
    have e : (1 : Int) = a * x - m * k := by rw [Int.natCast_mul] at hk; rw [hk]; simp
    rw [e]
    exact Int.dvd_sub (Int.dvd_mul_of_dvd_left d1) (Int.dvd_mul_of_dvd_left d2)
  have := Int.natCast_dvd_natCast.1 (show ((Nat.gcd a m : Nat) : Int) ∣ ((1 : Nat) : Int) from d)
  exact Nat.dvd_one.1 this

theorem IsInv.unique {a m x y : Nat} (hx : IsInv a m x) (hy : IsInv a m y) : x = y := by
  obtain ⟨k1, e1⟩ := int_of_mod hx.2
  obtain ⟨k2, e2⟩ := int_of_mod hy.2
  have : x % m = y % m := by
    refine mod_of_int ⟨k1 * y - k2 * x, ?_⟩
    rw [Int.natCast_mul] at e1 e2
    have h1 : (a : Int) * x * y = (1 + m * k1) * y := by rw [e1]; rfl
    have h2 : (a : Int) * y * x = (1 + m * k2) * x := by rw [e2]; rfl
    grind
  rwa [Nat.mod_eq_of_lt hx.1, Nat.mod_eq_of_lt hy.1] at this

theorem invm_is {a m : Nat} (h : ∃ x, IsInv a m x) : IsInv a m (invm a m) := Classical.epsilon_spec h
theorem invm_eq {a m x : Nat} (h : IsInv a m x) : invm a m = x := (invm_is ⟨x, h⟩).unique h

end MM
end Go.Proofs.YtlnlepadninnaaaDoor
/- The walk of mod.Inv: for m from 1 to 2^61 the inverse of a modulo m where a and m have no divisor in common but 1, else that there is none; for any other m that it may not be. -/
namespace Go.Proofs.YtlnlepadninnaaaDoor
open Go Go.RowKit Go.Lib
namespace M

/-- What mod.Inv answers for an m that may be. -/
def InvTold (a m : Nat) (w : World) (e : Ending) (w' : World) : Prop :=
  (∃ x c : Nat, e = .returned (.tuple #[.int .u64 (x : Int), .int .i64 (c : Int)]) ∧ ((Nat.gcd a m = 1 ∧ c = 0 ∧ MM.IsInv a m x) ∨ (Nat.gcd a m ≠ 1 ∧ c = 5 ∧ x = 0))) ∧ ∃ n, w' = w.drewN n

end M
end Go.Proofs.YtlnlepadninnaaaDoor
/- The test of primes that the program makes, as a function on numbers. Nothing here speaks of the program. -/
namespace Go.Proofs.YtlnlepadninnaaaDoor
namespace MM

/-- The numbers by which a prime is tested. -/
def wits : List Nat := [2, 3, 5, 7, 11, 13, 17, 19, 23]

/-- Squared again and again, k times at most: is n - 1 met? -/
def passB (n : Nat) : Nat → Nat → Bool
  | 0, _ => false
  | k + 1, x => x == n - 1 || passB n k (x * x % n)

/-- All the numbers of a list: n is one that divides it, or each passes. -/
def primeL (n d t : Nat) : List Nat → Bool
  | [] => true
  | v :: l => if n % v = 0 then n == v else if powm v d n == 1 || passB n t (powm v d n) then primeL n d t l else false

/-- What mod.Prime answers; t: how often 2 divides n - 1. -/
def primeB (t n : Nat) : Bool := if n < 2 ∨ 2305843009213693952 < n then false else primeL n ((n - 1) / 2 ^ t) t wits

theorem wits_pos : ∀ k, k < 9 → 2 ≤ wits.getD k 0 ∧ wits.getD k 0 < 24 := by decide
theorem wits_drop (k : Nat) (h : k < 9) : wits.drop k = wits.getD k 0 :: wits.drop (k + 1) := by
  rw [List.drop_eq_getElem_cons (show k < wits.length from h), List.getD_eq_getElem?_getD, List.getElem?_eq_getElem (show k < wits.length from h)]
  rfl
end MM
end Go.Proofs.YtlnlepadninnaaaDoor
/- The walks of bits.TrailingZeros64 and mod.Prime: what mod.Prime answers is the test of primes, for every number, where its two tables hold what the program's text lays into them. -/
namespace Go.Proofs.YtlnlepadninnaaaDoor
open Go Go.RowKit Go.Lib
namespace M

/-- The witnesses as they lie in their variable. -/
def witCells : Array Value := #[.int .u64 2, .int .u64 3, .int .u64 5, .int .u64 7, .int .u64 11, .int .u64 13, .int .u64 17, .int .u64 19, .int .u64 23]
/-- The program's two tables hold what its text lays into them. -/
def Laid (w : World) : Prop := (∃ t fr, w.heap[(0 : Nat)]? = some (.cells witCells t fr)) ∧ ∀ j, j < 64 → w.cell? ⟨1, j, none⟩ = some (.int .u8 ((Lib.deBruijn64tab.getD j 0 : Nat) : Int))

theorem Laid.drewN {w : World} (h : Laid w) (n : Nat) : Laid (w.drewN n) := ⟨h.1, fun j hj => by have := h.2 j hj; simpa using this⟩

set_option maxHeartbeats 400000 in
theorem tz_core (x k idx : Nat) (w : World) (hx0 : ((x : Int) == 0) = false)
    (key : IntKind.u64.wrap (bits BinOp.and IntKind.u64 (x : Int) (IntKind.u64.wrap (-(x : Int))) * 285870213051353865) / 288230376151711744 = (idx : Int))
    (hi : idx < 64) (hk : k < 64) (hcell : w.cell? ⟨1, idx, none⟩ = some (.int .u8 (k : Int))) :
    Calls Tryd.prog 78 #[.int .u64 x] w fun e w' => e = .returned (.int .i64 (k : Int)) ∧ w = w' := by
  go_enter Tryd.func78, Tryd.ntmps78
  go_wp2_with (simp only [key])
  go_ret
  exact ⟨rfl, rfl⟩

theorem tz_key (x a : Nat) (hx : x < 18446744073709551616) (hx0 : x ≠ 0) (hlow : x &&& (18446744073709551616 - x) = a) :
    IntKind.u64.wrap (bits BinOp.and IntKind.u64 (x : Int) (IntKind.u64.wrap (-(x : Int))) * 285870213051353865) / 288230376151711744 = ((a * 285870213051353865 % 18446744073709551616 / 288230376151711744 : Nat) : Int) := by
  have e1 : IntKind.u64.wrap (-(x : Int)) = ((18446744073709551616 - x : Nat) : Int) := by rw [IntKind.wrap_u64]; omega
  rw [e1, bits_and_u64_nat x _ hx (by omega), hlow, IntKind.wrap_u64]
  omega

theorem idx0 (W : World) : (Instr.index 96 (.agg witCells) (.int .i64 0)).run Tryd.prog W = .ok (.int .u64 2) W := by kernel_rfl
theorem idx1 (W : World) : (Instr.index 96 (.agg witCells) (.int .i64 1)).run Tryd.prog W = .ok (.int .u64 3) W := by kernel_rfl
theorem idx2 (W : World) : (Instr.index 96 (.agg witCells) (.int .i64 2)).run Tryd.prog W = .ok (.int .u64 5) W := by kernel_rfl
theorem idx3 (W : World) : (Instr.index 96 (.agg witCells) (.int .i64 3)).run Tryd.prog W = .ok (.int .u64 7) W := by kernel_rfl
theorem idx4 (W : World) : (Instr.index 96 (.agg witCells) (.int .i64 4)).run Tryd.prog W = .ok (.int .u64 11) W := by kernel_rfl
theorem idx5 (W : World) : (Instr.index 96 (.agg witCells) (.int .i64 5)).run Tryd.prog W = .ok (.int .u64 13) W := by kernel_rfl
theorem idx6 (W : World) : (Instr.index 96 (.agg witCells) (.int .i64 6)).run Tryd.prog W = .ok (.int .u64 17) W := by kernel_rfl
theorem idx7 (W : World) : (Instr.index 96 (.agg witCells) (.int .i64 7)).run Tryd.prog W = .ok (.int .u64 19) W := by kernel_rfl
theorem idx8 (W : World) : (Instr.index 96 (.agg witCells) (.int .i64 8)).run Tryd.prog W = .ok (.int .u64 23) W := by kernel_rfl
theorem idx_any (k : Nat) (hk : k < 9) (W : World) : (Instr.index 96 (.agg witCells) (.int .i64 (k : Int))).run Tryd.prog W = .ok (.int .u64 ((MM.wits.getD k 0 : Nat) : Int)) W := by
  match k, hk with
  | 0, _ => exact idx0 W
  | 1, _ => exact idx1 W
  | 2, _ => exact idx2 W
  | 3, _ => exact idx3 W
  | 4, _ => exact idx4 W
  | 5, _ => exact idx5 W
  | 6, _ => exact idx6 W
  | 7, _ => exact idx7 W
  | 8, _ => exact idx8 W
  | k + 9, h => exact absurd h (by omega)

theorem tz_any (x : Nat) (hx : x < 18446744073709551616) (hx0 : x ≠ 0) (w : World) (hl : Laid w) :
    Calls Tryd.prog 78 #[.int .u64 x] w fun e w' => e = .returned (.int .i64 ((Lib.ctz 64 x : Nat) : Int)) ∧ w = w' := by
  obtain ⟨hlow, hk⟩ := Lib.lowest_bit 64 x hx0 hx
  obtain ⟨hi, htab⟩ := Lib.deBruijn64_at _ hk
  have hcell := hl.2 _ hi
  rw [htab] at hcell
  exact tz_core x _ _ w (by simp; omega) (tz_key x _ hx hx0 hlow) hi hk hcell

set_option maxHeartbeats 1000000 in
theorem prime_core (n d t : Nat) (hn : 2 ≤ n) (hb : n ≤ 2305843009213693952) (ht : t < 64) (hd : ((n : Int) - 1) / 2 ^ t = (d : Int)) (hd2 : d < 18446744073709551616)
    (w : World) (hl : Laid w)
    (hc : Calls Tryd.prog 78 #[.int .u64 ((n : Int) - 1)] w fun e w' => e = .returned (.int .i64 (t : Int)) ∧ w = w') :
    Calls Tryd.prog 46 #[.int .u64 n] w fun e w' => e = .returned (.bool (MM.primeL n d t MM.wits)) ∧ ∃ n, w' = w.drewN n := by
  have h1 : ¬ ((n : Int) < 2) := by omega
  have h1d : decide ((n : Int) < 2) = false := decide_eq_false h1
  have h2 : decide ((2305843009213693952 : Int) < (n : Int)) = false := decide_eq_false (by omega)
  have h3 : (1 : Int) ≤ (n : Int) := by omega
  obtain ⟨t0, fr, hg⟩ := hl.1
  have HG := Lib.hid hg
  have HC := Lib.hid hc
  have HL := Lib.hid hl
  have HM := Lib.hid (fun a b ha hb' => mul_any a b n (by omega) hb ha hb')
  have HPo := Lib.hid (fun a e ha he => pow_core a e n (by omega) hb ha he)
  have HD2 := Lib.hid hd2
  clear hg hc hl hd2
  go_enter Tryd.func46, Tryd.ntmps46
  go_wp2_with fail
  go_step3
  go_wp2_with (first | (go_at_call 78; refine HC.out.mono ?_; rintro e w' ⟨rfl, rfl⟩) | (refine wpList_load_row rfl 96 _ rfl 0 rfl t0 _ fr _ HG.out Tryd.underlying96 rfl (by kernel_rfl) ?_))
  go_step3
  go_wp2_with (first | (go_at_call 78; refine HC.out.mono ?_; rintro e w' ⟨rfl, rfl⟩) | (refine wpList_load_row rfl 96 _ rfl 0 rfl t0 _ fr _ HG.out Tryd.underlying96 rfl (by kernel_rfl) ?_))
  go_loopg [22] 9 (fun g s22 wx => ∃ k m : Nat, k ≤ 9 ∧ s22 = .int .i64 (k : Int) ∧ g = 9 - k ∧ wx = w.drewN m ∧ MM.primeL n d t (MM.wits.drop k) = MM.primeL n d t MM.wits)
  case atStart => exact ⟨0, 0, by omega, rfl, rfl, rfl, rfl⟩
  case round =>
    obtain ⟨k, m, hk, rfl, rfl, rfl, hp⟩ := hrel
    have HP := Lib.hid hp
    clear hp
    by_cases hk9 : k < 9
    · have hix := idx_any k hk9
      obtain ⟨hv2, hv24⟩ := MM.wits_pos k hk9
      have hdr := MM.wits_drop k hk9
      have HDR := Lib.hid hdr
      clear hdr
      generalize MM.wits.getD k 0 = v at *
      have HF := Lib.hid (show MM.primeL n d t (v :: MM.wits.drop (k + 1)) = MM.primeL n d t MM.wits by rw [← HP.out, HDR.out])
      clear HP HDR
      by_cases hdiv : n % v = 0
      · have hdb : ((n : Int) % (v : Int) == 0) = true := by simp; omega
        obtain ⟨res, hres⟩ : ∃ res, ((n : Int) == (v : Int)) = res := ⟨_, rfl⟩
        have HRES := Lib.hid (show res = MM.primeL n d t MM.wits by
          rw [← HF.out, ← hres]; unfold MM.primeL; rw [if_pos hdiv, Bool.eq_iff_iff]; simp; omega)
        clear hdiv HF
        go_wp2_with fail
        try rw [Exit.noGoto_ret]
        go_ret
        exact ⟨congrArg Ending.returned (congrArg Value.bool HRES.out), ⟨_, rfl⟩⟩
      · have hdb : ((n : Int) % (v : Int) == 0) = false := by simp; omega
        have HF2 := Lib.hid (show (if MM.powm v d n == 1 || MM.passB n t (MM.powm v d n) then MM.primeL n d t (MM.wits.drop (k + 1)) else false) = MM.primeL n d t MM.wits by
          rw [← HF.out]; conv => rhs; unfold MM.primeL
          rw [if_neg hdiv])
        clear HF hdiv
        have hxl : Hid (MM.powm v d n < 18446744073709551616) := by
          have := Nat.mod_lt (v ^ d) (show 0 < n by omega); show v ^ d % n < _; omega
        have HPv := Lib.hid (HPo.out v d (by omega) HD2.out)
        generalize hx : MM.powm v d n = x at *
        clear hx
        by_cases hx1 : x = 1
        · have hxb : ((x : Int) == 1) = true := by simp; omega
          have HN := Lib.hid (show MM.primeL n d t (MM.wits.drop (k + 1)) = MM.primeL n d t MM.wits by rw [← HF2.out, hx1]; rfl)
          clear HF2 hx1
          go_wp2_with (go_at_call 71; refine (HPv.out _).mono ?_; rintro e w' ⟨rfl, n', rfl⟩)
          go_roundg (9 - (k + 1))
          case measure => omega
          case rel => exact ⟨k + 1, _, by omega, int_eq (by omega), rfl, rfl, HN.out⟩
        · have hxb : ((x : Int) == 1) = false := by simp; omega
          have HF3 := Lib.hid (show (if MM.passB n t x then MM.primeL n d t (MM.wits.drop (k + 1)) else false) = MM.primeL n d t MM.wits by
            rw [← HF2.out]; simp [hx1])
          clear HF2 hx1
          go_wp2_with (go_at_call 71; refine (HPv.out _).mono ?_; rintro e w' ⟨rfl, n', rfl⟩)
          go_loopg [39, 7] t (fun g s39 s7 wx => ∃ j y m' : Nat, j ≤ t ∧ s39 = .int .i64 (j : Int) ∧ s7 = .int .u64 (y : Int) ∧ g = t - j ∧ wx = w.drewN m' ∧ Hid (y < 18446744073709551616) ∧ MM.passB n (t - j) y = MM.passB n t x)
          case atStart => exact ⟨0, x, _, by omega, rfl, rfl, rfl, rfl, hxl, rfl⟩
          case round =>
            obtain ⟨j, y, m', hj, rfl, rfl, rfl, rfl, hyl, hpj⟩ := hrel
            have HPJ := Lib.hid hpj
            clear hpj
            by_cases hjt : j < t
            · obtain ⟨r, hr⟩ : ∃ r, t - j = r + 1 := ⟨t - j - 1, by omega⟩
              have HPJ2 := Lib.hid (show (y == n - 1 || MM.passB n r (y * y % n)) = MM.passB n t x by rw [← HPJ.out, hr]; rfl)
              have HR := Lib.hid hr
              clear HPJ hr
              by_cases hy : y = n - 1
              · have hyb : ((y : Int) == (n : Int) - 1) = true := by simp; omega
                have HN := Lib.hid (show MM.primeL n d t (MM.wits.drop (k + 1)) = MM.primeL n d t MM.wits by
                  rw [← HF3.out, ← HPJ2.out, hy]; simp)
                clear HF3 HPJ2 hy
                go_wp2_with fail
                go_roundg (9 - (k + 1))
                case measure => omega
                case rel => exact ⟨k + 1, _, by omega, int_eq (by omega), rfl, rfl, HN.out⟩
              · have hyb : ((y : Int) == (n : Int) - 1) = false := by simp; omega
                have HN := Lib.hid (show MM.passB n r (y * y % n) = MM.passB n t x by rw [← HPJ2.out]; simp [hy])
                clear HPJ2 hy
                go_wp2_with (go_at_call 31; refine (HM.out y y hyl.out hyl.out _).mono ?_; rintro e w' ⟨rfl, n'', rfl⟩)
                go_roundg (t - (j + 1))
                case measure => omega
                case rel => exact ⟨j + 1, y * y % n, _, by omega, int_eq (by omega), rfl, rfl, rfl, by have := Nat.mod_lt (y * y) (show 0 < n by omega); show y * y % n < _; omega, by rw [← HN.out, show t - (j + 1) = r by have := HR.out; omega]⟩
            · have hres : MM.primeL n d t MM.wits = false := by
                rw [← HF3.out, ← HPJ.out, show t - j = 0 by omega]; rfl
              have HRES := Lib.hid hres.symm
              clear HF3 HPJ hres
              go_wp2_with fail
              try rw [Exit.noGoto_ret]
              go_ret
              exact ⟨congrArg Ending.returned (congrArg Value.bool HRES.out), ⟨_, rfl⟩⟩
    · have hres : MM.primeL n d t MM.wits = true := by
        rw [← HP.out, show k = 9 by omega]; rfl
      have HRES := Lib.hid hres.symm
      clear HP hres
      go_wp2_with fail
      try rw [Exit.noGoto_ret]
      go_ret
      exact ⟨congrArg Ending.returned (congrArg Value.bool HRES.out), ⟨_, rfl⟩⟩
end M
end Go.Proofs.YtlnlepadninnaaaDoor
/- mod.Prime for every number: what it answers is the test of primes. -/
namespace Go.Proofs.YtlnlepadninnaaaDoor
open Go Go.RowKit Go.Lib
namespace MM
/-- What mod.Prime answers. -/
def primeOf (n : Nat) : Bool := primeB (Lib.ctz 64 (n - 1)) n
end MM
namespace M

theorem prime_out (n : Nat) (h : n < 2 ∨ 2305843009213693952 < n) (w : World) :
    Calls Tryd.prog 46 #[.int .u64 n] w fun e w' => e = .returned (.bool false) ∧ ∃ n, w' = w.drewN n := by
  rcases h with h | h
  · have h1d : decide ((n : Int) < 2) = true := decide_eq_true (by omega)
    have h1 : (n : Int) < 2 := by omega
    clear h
    go_enter Tryd.func46, Tryd.ntmps46
    go_wp2_with fail
    go_step3
    go_wp2_with fail
    try rw [Exit.noGoto_ret]
    go_ret
    exact ⟨rfl, ⟨0, rfl⟩⟩
  · have h1 : ¬ ((n : Int) < 2) := by omega
    have h1d : decide ((n : Int) < 2) = false := decide_eq_false h1
    have h2 : decide ((2305843009213693952 : Int) < (n : Int)) = true := decide_eq_true (by omega)
    clear h
    go_enter Tryd.func46, Tryd.ntmps46
    go_wp2_with fail
    go_step3
    go_wp2_with fail
    try rw [Exit.noGoto_ret]
    go_ret
    exact ⟨rfl, ⟨0, rfl⟩⟩

theorem prime_any (n : Nat) (w : World) (hl : Laid w) :
    Calls Tryd.prog 46 #[.int .u64 n] w fun e w' => e = .returned (.bool (MM.primeOf n)) ∧ ∃ n, w' = w.drewN n := by
  by_cases h : n < 2 ∨ 2305843009213693952 < n
  · have e : MM.primeOf n = false := by unfold MM.primeOf MM.primeB; rw [if_pos h]
    rw [e]; exact prime_out n h w
  · have e : MM.primeOf n = MM.primeL n ((n - 1) / 2 ^ Lib.ctz 64 (n - 1)) (Lib.ctz 64 (n - 1)) MM.wits := by unfold MM.primeOf MM.primeB; rw [if_neg h]
    have h0 : n - 1 ≠ 0 := by omega
    obtain ⟨_, hk⟩ := Lib.lowest_bit 64 (n - 1) h0 (by omega)
    have hc := tz_any (n - 1) (by omega) h0 w hl
    have e1 : ((n - 1 : Nat) : Int) = (n : Int) - 1 := by omega
    rw [e]
    rw [e1] at hc
    refine prime_core n _ _ (by omega) (by omega) hk ?_ ?_ w hl hc
    · rw [← e1, Int.natCast_ediv, Int.natCast_pow]; rfl
    · have := Nat.div_le_self (n - 1) (2 ^ Lib.ctz 64 (n - 1)); omega

end M
end Go.Proofs.YtlnlepadninnaaaDoor
