/- What bits.Div64 and bits.Rem64 leave over, in plain numbers: the remainder of hi * 2^64 + lo by y, for every y from 1 to 2^61. -/
import Derived.Test.YtdblijpoelcghaaModDiv
import Derived.Deep.QuietTactic
import Derived.BigQuiet
namespace Go.Proofs.Ytdblijpoelcghaa
open Go Go.RowKit Go.Lib
namespace MM

theorem bitLen_bounds : ∀ (k y : Nat), 0 < y → y < 2 ^ k → k ≤ 64 → y < 2 ^ Lib.bitLen y ∧ 2 ^ Lib.bitLen y ≤ 2 * y
  | 0, y, h, h1, _ => by simp at h1; omega
  | k + 1, y, h, h1, hk => by
    have h64 : y < 2 ^ 64 := Nat.lt_of_lt_of_le h1 (Nat.pow_le_pow_right (by omega) hk)
    rw [Lib.bitLen_half y (by omega) h64]
    rcases Nat.eq_zero_or_pos (y / 2) with e | e
    · rw [e]
      have hz : Lib.bitLen 0 = 0 := by decide
      rw [hz]
      constructor <;> simp <;> omega
    · have h2 : y / 2 < 2 ^ k := by rw [Nat.pow_succ] at h1; omega
      obtain ⟨a, b⟩ := bitLen_bounds k (y / 2) e h2 (by omega)
      rw [Nat.pow_add, Nat.pow_one]
      generalize 2 ^ Lib.bitLen (y / 2) = p at *
      constructor <;> omega

theorem shift_or (a b s : Nat) (h : b < 2 ^ s) : (a * 2 ^ s) ||| b = a * 2 ^ s + b := by
  rw [Nat.mul_comm]; exact (Nat.two_pow_add_eq_or_of_lt h a).symm

theorem split_shift (lo s t : Nat) (hst : s + t = 64) : lo * 2 ^ s / 18446744073709551616 = lo / 2 ^ t := by
  have e : (18446744073709551616 : Nat) = 2 ^ s * 2 ^ t := by rw [← Nat.pow_add, hst]
  rw [e, Nat.mul_comm lo, Nat.mul_div_mul_left _ _ (Nat.two_pow_pos s)]

theorem rem_all (hi lo y s U z1 z0 : Nat) (hU : U = hi * 2 ^ s + lo * 2 ^ s / 18446744073709551616) (h1 : z1 = lo * 2 ^ s % 18446744073709551616 / 4294967296) (h0 : z0 = lo * 2 ^ s % 18446744073709551616 % 4294967296) :
    ((U * 4294967296 + z1) % (y * 2 ^ s) * 4294967296 + z0) % (y * 2 ^ s) / 2 ^ s = (hi * 18446744073709551616 + lo) % y := by
  have e : (U * 4294967296 + z1) * 4294967296 + z0 = (hi * 18446744073709551616 + lo) * 2 ^ s := by
    rw [Nat.add_mul, Nat.add_mul (hi * 18446744073709551616), Nat.mul_right_comm hi]
    generalize lo * 2 ^ s = x at *
    generalize hi * 2 ^ s = g at *
    omega
  have e2 : ((U * 4294967296 + z1) % (y * 2 ^ s) * 4294967296 + z0) % (y * 2 ^ s) = ((U * 4294967296 + z1) * 4294967296 + z0) % (y * 2 ^ s) := by
    rw [Nat.add_mod, Nat.mul_mod, Nat.mod_mod, ← Nat.mul_mod, ← Nat.add_mod]
  rw [e2, e, Nat.mul_mod_mul_right, Nat.mul_div_cancel _ (Nat.two_pow_pos s)]
end MM

namespace M
theorem wrap_left (U D z T : Nat) (hU : U < D) (hD : D < 18446744073709551616) (hT : T = (U * 4294967296 + z) / D) :
    IntKind.u64.wrap (IntKind.u64.wrap (IntKind.u64.wrap ((U : Int) * 4294967296) + (z : Int)) - IntKind.u64.wrap ((T : Int) * (D : Int))) = (((U * 4294967296 + z) % D : Nat) : Int) := by
  have h := MM.left_round U D z T hU hD hT
  simp only [IntKind.wrap_u64]
  rw [← h]
  generalize (T : Int) * (D : Int) = p at *
  omega

theorem wrap_rest (U v : Nat) (hU : U < 18446744073709551616) (hv : 0 < v) :
    IntKind.u64.wrap ((U : Int) - IntKind.u64.wrap (((U / v : Nat) : Int) * (v : Int))) = ((U % v : Nat) : Int) := by
  have h := Nat.div_add_mod' U v
  have h2 := Nat.mod_lt U hv
  rw [mulN]
  generalize U % v = m at *
  generalize U / v * v = p at *
  rw [wrapN p (by omega), IntKind.wrap_u64]
  omega

theorem wrap_quo (U v : Nat) (hU : U < 18446744073709551616) : IntKind.u64.wrap ((U : Int) / (v : Int)) = ((U / v : Nat) : Int) := by
  have h : (U : Int) / (v : Int) = ((U / v : Nat) : Int) := by simp
  rw [h, wrapN]
  exact Nat.lt_of_le_of_lt (Nat.div_le_self _ _) hU

set_option maxHeartbeats 1000000 in
theorem div64_any (hi lo y : Nat) (hy : 0 < y) (hhi : hi < y) (hb : y ≤ 2305843009213693952) (hlo : lo < 18446744073709551616) (w : World) :
    Calls Try.prog 50 #[.int .u64 hi, .int .u64 lo, .int .u64 y] w fun e w' => (∃ q : Int, e = .returned (.tuple #[.int .u64 q, .int .u64 (((hi * 18446744073709551616 + lo) % y : Nat) : Int)])) ∧ ∃ n, w' = w.drewN n := by
  rcases Nat.eq_zero_or_pos hi with rfl | hpos
  · have h0 : ((y : Int) == 0) = false := by simp; omega
    have h1 : ¬ ((y : Int) ≤ 0) := by omega
    have hm := Nat.mod_lt lo hy
    have em : (0 * 18446744073709551616 + lo) % y = lo % y := by simp
    rw [em]
    go_enter Try.func50, Try.ntmps50
    go_wp2_with fail
    go_quiet (fail)
    go_wp2_with fail
    go_ret2
    exact ⟨⟨_, by first | rfl | simp⟩, ⟨_, rfl⟩⟩
  · obtain ⟨hb1, hb2⟩ := MM.bitLen_bounds 64 y hy (by omega) (by omega)
    have hL : Lib.bitLen y ≤ 62 := Lib.bitLen_le y 62 (by omega) (by omega)
    have hL2 : 2 ≤ Lib.bitLen y := by
      rcases Nat.lt_or_ge (Lib.bitLen y) 2 with h | h
      · have : 2 ^ Lib.bitLen y ≤ 2 ^ 1 := Nat.pow_le_pow_right (by omega) (by omega)
        omega
      · exact h
    obtain ⟨s, hs⟩ : ∃ s, s + Lib.bitLen y = 64 := ⟨64 - Lib.bitLen y, by omega⟩
    have hc : ∀ W : World, Calls Try.prog 51 #[.int .u64 y] W fun e w' => e = .returned (.int .i64 (s : Int)) ∧ W = w' := by
      intro W
      have h := lead64_any y W (by omega) (by omega)
      rw [Int.toNat_natCast, show (64 - (Lib.bitLen y : Int)) = (s : Int) by omega] at h
      exact h
    generalize hbl : Lib.bitLen y = t at *
    have hp : 2 ^ s * 2 ^ t = 18446744073709551616 := by rw [← Nat.pow_add, hs]
    have hpt := Nat.two_pow_pos t
    have hps := Nat.two_pow_pos s
    -- D
    have hD1 : y * 2 ^ s < 18446744073709551616 := by
      rw [← hp, Nat.mul_comm]; exact Nat.mul_lt_mul_of_pos_left hb1 hps
    have hD2 : 9223372036854775808 ≤ y * 2 ^ s := by
      have : 2 ^ t * 2 ^ s ≤ 2 * y * 2 ^ s := Nat.mul_le_mul_right _ hb2
      rw [Nat.mul_comm, hp, Nat.mul_assoc] at this
      omega
    have hspl := MM.split_shift lo s t hs
    have hH : hi * 2 ^ s + 2 ^ s ≤ y * 2 ^ s := by rw [← Nat.succ_mul]; exact Nat.mul_le_mul_right _ hhi
    have hlo2 : lo / 2 ^ t < 2 ^ s := by
      rw [Nat.div_lt_iff_lt_mul hpt, hp]; exact hlo
    have eU : (hi * 2 ^ s) ||| (lo / 2 ^ t) = hi * 2 ^ s + lo * 2 ^ s / 18446744073709551616 := by rw [MM.shift_or _ _ _ hlo2, hspl]
    have hUlt : hi * 2 ^ s + lo * 2 ^ s / 18446744073709551616 < y * 2 ^ s := by rw [hspl]; omega
    obtain ⟨U, hUe⟩ : ∃ U, U = hi * 2 ^ s + lo * 2 ^ s / 18446744073709551616 := ⟨_, rfl⟩
    rw [← hUe] at eU hUlt
    have hts : 64 - s = t := by omega
    have c2 : ∀ a : Nat, ((a : Int) * 2 ^ s) = ((a * 2 ^ s : Nat) : Int) := fun a => by rw [Int.natCast_mul, Int.natCast_pow]; rfl
    have c3 : ((lo : Int) / 2 ^ (64 - s)) = ((lo / 2 ^ t : Nat) : Int) := by rw [hts, Int.natCast_ediv, Int.natCast_pow]; rfl
    have hlt2 : lo / 2 ^ t < 18446744073709551616 := Nat.lt_of_le_of_lt (Nat.div_le_self _ _) hlo
    have hH2 : hi * 2 ^ s < 18446744073709551616 := by omega
    have R1 := Nat.mod_lt (U * 4294967296 + lo * 2 ^ s % 18446744073709551616 / 4294967296) (show 0 < y * 2 ^ s by omega)
    have hv1 : 2147483648 ≤ y * 2 ^ s / 4294967296 := by omega
    have hd1 : MM.Dig U (y * 2 ^ s) (y * 2 ^ s / 4294967296) (y * 2 ^ s % 4294967296) (lo * 2 ^ s % 18446744073709551616 / 4294967296) _ _ :=
      MM.dig_start U _ _ _ _ (by omega) hv1 (by omega) (by omega) hUlt (by omega)
    have hd2 : MM.Dig ((U * 4294967296 + lo * 2 ^ s % 18446744073709551616 / 4294967296) % (y * 2 ^ s)) (y * 2 ^ s) (y * 2 ^ s / 4294967296) (y * 2 ^ s % 4294967296) (lo * 2 ^ s % 18446744073709551616 % 4294967296) _ _ :=
      MM.dig_start _ _ _ _ _ (by omega) hv1 (by omega) (by omega) R1 (by omega)
    have hrem := MM.rem_all hi lo y s U _ _ hUe rfl rfl
    rw [← hrem]
    refine div64_core hi lo y s (y * 2 ^ s) U (lo * 2 ^ s % 18446744073709551616) _ _ _ _ _ _ _ _ _ _ _ _ _ hy hhi hpos
      (by rw [c2, wrapN _ hD1]) ?_ (by rw [c2, wrapM]) (divN _) (maskN _ hD1) (divN _) (maskN _ (by omega))
      (wrap_quo _ _ (by omega)) (wrap_rest _ _ (by omega) (by omega)) (wrap_left _ _ _ _ hUlt hD1 rfl) (wrap_quo _ _ (by omega)) (wrap_rest _ _ (by omega) (by omega))
      (wrap_left _ _ _ _ R1 hD1 rfl) ?_ (by omega) hd1 rfl hd2 rfl (by omega) (by omega) w hc
    · rw [c2, wrapN _ hH2, c3, bits_or_u64_nat _ _ hH2 hlt2, eU]
    · rw [Int.natCast_ediv, Int.natCast_pow]; rfl

theorem rem64_core (hi lo y h r : Nat) (hy : 0 < y) (e1 : ((hi : Int) % (y : Int)) = (h : Int))
    (hc : ∀ W : World, Calls Try.prog 50 #[.int .u64 h, .int .u64 lo, .int .u64 y] W fun e w' => (∃ q : Int, e = .returned (.tuple #[.int .u64 q, .int .u64 (r : Int)])) ∧ ∃ n, w' = W.drewN n) (w : World) :
    Calls Try.prog 48 #[.int .u64 hi, .int .u64 lo, .int .u64 y] w fun e w' => e = .returned (.int .u64 (r : Int)) ∧ ∃ n, w' = w.drewN n := by
  have HC := Lib.hid hc
  clear hc
  go_enter Try.func48, Try.ntmps48
  go_wp2_with (go_at_call 50; refine (HC.out _).mono ?_; rintro e w' ⟨⟨q, rfl⟩, n, rfl⟩)
  go_ret
  exact ⟨rfl, ⟨_, rfl⟩⟩

theorem rem64_any (hi lo y : Nat) (hy : 0 < y) (hb : y ≤ 2305843009213693952) (hlo : lo < 18446744073709551616) (w : World) :
    Calls Try.prog 48 #[.int .u64 hi, .int .u64 lo, .int .u64 y] w fun e w' => e = .returned (.int .u64 (((hi * 18446744073709551616 + lo) % y : Nat) : Int)) ∧ ∃ n, w' = w.drewN n := by
  have hm := Nat.mod_lt hi hy
  have e3 : (hi % y * 18446744073709551616 + lo) % y = (hi * 18446744073709551616 + lo) % y := by
    rw [Nat.add_mod, Nat.mul_mod, Nat.mod_mod, ← Nat.mul_mod, ← Nat.add_mod]
  rw [← e3]
  exact rem64_core hi lo y (hi % y) _ hy (Int.natCast_emod hi y).symm (div64_any (hi % y) lo y hy hm hb hlo) w
end M
end Go.Proofs.Ytdblijpoelcghaa
