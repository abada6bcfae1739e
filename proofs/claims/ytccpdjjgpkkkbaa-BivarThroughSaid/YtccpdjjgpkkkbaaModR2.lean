/- The walks of the document's own Inv and of Euclid's way behind it (consistoryref01.both): the inverse modulo m where there is one. -/
import Derived.Test.YtccpdjjgpkkkbaaModR1
namespace Go.Proofs.Ytccpdjjgpkkkbaa
open Go.ChangeShapes Go.WideShapes Go.ChangeAt Go.RowKit Go.Lib
namespace MM
/-- What Euclid's way tells of a and b: x times a and y times b come to their greatest common divisor; x and y are small. -/
structure Both (a b : Nat) (x y : Int) : Prop where
  sum : (a : Int) * x + b * y = (Nat.gcd a b : Nat)
  x0 : x ≤ b ∨ x ≤ 1
  x1 : -(b : Int) ≤ x ∨ -1 ≤ x
  y0 : y ≤ a ∨ y ≤ 1
  y1 : -(a : Int) ≤ y ∨ -1 ≤ y
  z : b = 0 → x = 1 ∧ y = 0
  o : b = 1 → x = 0
theorem Both.start (a : Nat) : Both a 0 1 0 := ⟨by simp, .inr (by omega), .inr (by omega), .inr (by omega), .inr (by omega), fun _ => ⟨rfl, rfl⟩, fun e => by omega⟩
theorem abs_mul (q b : Nat) (y : Int) (h0 : y ≤ b) (h1 : -(b : Int) ≤ y) : (q : Int) * y ≤ q * b ∧ -((q : Int) * b) ≤ q * y := by
  have hq : (0 : Int) ≤ q := by omega
  refine ⟨Int.mul_le_mul_of_nonneg_left h0 hq, ?_⟩
  have := Int.mul_le_mul_of_nonneg_left h1 hq
  rw [Int.mul_neg] at this
  exact this
theorem Both.prod {a b : Nat} {x y : Int} (hb : 0 < b) (h : Both b (a % b) x y) : ((a / b : Nat) : Int) * y ≤ a ∧ -(a : Int) ≤ ((a / b : Nat) : Int) * y := by
  have h0 : y ≤ b := by rcases h.y0 with h | h <;> omega
  have h1 : -(b : Int) ≤ y := by rcases h.y1 with h | h <;> omega
  obtain ⟨p1, p2⟩ := abs_mul (a / b) b y h0 h1
  have e : ((a / b : Nat) : Int) * b = ((a / b * b : Nat) : Int) := (Int.natCast_mul _ _).symm
  have hd := Nat.div_add_mod' a b
  rw [e] at p1 p2
  generalize ((a / b : Nat) : Int) * y = p at *
  generalize a / b * b = z at *
  constructor <;> omega
theorem Both.step {a b : Nat} {x y : Int} (hb : 0 < b) (h : Both b (a % b) x y) : Both a b y (x - ((a / b : Nat) : Int) * y) := by
  have h0 : y ≤ b := by rcases h.y0 with h | h <;> omega
  have h1 : -(b : Int) ≤ y := by rcases h.y1 with h | h <;> omega
  have hd := Nat.div_add_mod' a b
  have hlt := Nat.mod_lt a hb
  refine ⟨?_, .inl h0, .inl h1, ?_, ?_, fun e => by omega, fun e => (h.z (by subst e; exact Nat.mod_one a)).2⟩
  · have hs := h.sum
    have ed : (a : Int) = ((a / b : Nat) : Int) * b + ((a % b : Nat) : Int) := by rw [← Int.natCast_mul, ← Int.natCast_add, hd]
    have eg : Nat.gcd b (a % b) = Nat.gcd a b := by rw [Nat.gcd_comm, ← Nat.gcd_rec, Nat.gcd_comm]
    rw [eg] at hs
    rw [← hs]
    grind
  · obtain ⟨p1, p2⟩ := abs_mul (a / b) b y h0 h1
    have e : ((a / b : Nat) : Int) * b = ((a / b * b : Nat) : Int) := (Int.natCast_mul _ _).symm
    rw [e] at p1 p2
    by_cases hr : a % b = 0
    · obtain ⟨rfl, rfl⟩ := h.z hr
      exact .inr (by simp)
    · left
      have hx := h.x0
      generalize ((a / b : Nat) : Int) * y = p at *
      generalize a / b * b = z at *
      omega
  · obtain ⟨p1, p2⟩ := abs_mul (a / b) b y h0 h1
    have e : ((a / b : Nat) : Int) * b = ((a / b * b : Nat) : Int) := (Int.natCast_mul _ _).symm
    rw [e] at p1 p2
    by_cases hr : a % b = 0
    · obtain ⟨rfl, rfl⟩ := h.z hr
      exact .inr (by simp)
    · left
      have hx := h.x1
      generalize ((a / b : Nat) : Int) * y = p at *
      generalize a / b * b = z at *
      omega
end MM
namespace M

theorem both_zero (a : Nat) : Ret 62 #[.int .i64 (a : Int), .int .i64 0] (.tuple #[.int .i64 (a : Int), .int .i64 1, .int .i64 0]) := by
  intro w
  go_enter Try.func62, Try.ntmps62
  go_wp2_with fail
  go_ret3
  exact ⟨rfl, ⟨0, rfl⟩⟩

set_option maxHeartbeats 400000 in
theorem both_core (a b r q g : Nat) (x y p z : Int) (hb : 0 < b) (hr : (a : Int) % (b : Int) = (r : Int)) (hq : Int.tdiv (a : Int) (b : Int) = (q : Int)) (hq1 : IntKind.i64.wrap (q : Int) = (q : Int))
    (hp : IntKind.i64.wrap ((q : Int) * y) = p) (hz : IntKind.i64.wrap (x - p) = z)
    (hc : Ret 62 #[.int .i64 (b : Int), .int .i64 (r : Int)] (.tuple #[.int .i64 (g : Int), .int .i64 x, .int .i64 y])) :
    Ret 62 #[.int .i64 (a : Int), .int .i64 (b : Int)] (.tuple #[.int .i64 (g : Int), .int .i64 y, .int .i64 z]) := by
  intro w
  have h0 : ((b : Int) == 0) = false := by simp; omega
  go_enter Try.func62, Try.ntmps62
  go_wp2_with (go_at_call 62; (with_reducible refine (hc.at _).mono ?_); rintro e w' ⟨rfl, n, rfl⟩)
  go_quiet (fail)
  go_wp2_with fail
  go_ret3
  exact ⟨rfl, ⟨_, World.drewN_drewN _ _ _⟩⟩

theorem wrap_i64_in (n : Int) (h0 : -9223372036854775808 ≤ n) (h1 : n ≤ 9223372036854775807) : IntKind.i64.wrap n = n := by rw [IntKind.wrap_i64]; omega

theorem both_any : ∀ b a : Nat, a ≤ 2305843009213693952 → b ≤ 2305843009213693952 → ∃ x y : Int, MM.Both a b x y ∧
    Ret 62 #[.int .i64 (a : Int), .int .i64 (b : Int)] (.tuple #[.int .i64 ((Nat.gcd a b : Nat) : Int), .int .i64 x, .int .i64 y]) := by
  intro b
  induction b using Nat.strongRecOn with
  | _ b ih =>
    intro a ha hb
    rcases Nat.eq_zero_or_pos b with rfl | hpos
    · refine ⟨1, 0, MM.Both.start a, ?_⟩
      rw [Nat.gcd_zero_right]
      exact both_zero a
    · have hlt := Nat.mod_lt a hpos
      obtain ⟨x, y, h, hret⟩ := ih (a % b) hlt b hb (by omega)
      refine ⟨y, x - ((a / b : Nat) : Int) * y, h.step hpos, ?_⟩
      have eg : Nat.gcd b (a % b) = Nat.gcd a b := by rw [Nat.gcd_comm, ← Nat.gcd_rec, Nat.gcd_comm]
      rw [eg] at hret
      obtain ⟨p1, p2⟩ := h.prod hpos
      have hs := h.step hpos
      have hd := Nat.div_le_self a b
      have y0 := hs.y0
      have y1 := hs.y1
      have hq0 := (Int.ofNat_tdiv a b).symm
      clear hs
      generalize a / b = q at *
      exact both_core a b (a % b) q _ x y ((q : Int) * y) _ hpos (Int.natCast_emod a b).symm hq0 (wrap_i64_in _ (by omega) (by omega))
        (wrap_i64_in _ (by omega) (by omega)) (wrap_i64_in _ (by rcases y1 with h | h <;> omega) (by rcases y0 with h | h <;> omega)) hret

theorem rinv_no (a m : Nat) (h : m = 0 ∨ 2305843009213693952 < m) : Ret 48 #[.int .u64 (a : Int), .int .u64 (m : Int)] (.tuple #[.int .u64 0, .int .i64 1]) := by
  intro w
  rcases h with rfl | h
  · go_enter Try.func48, Try.ntmps48
    go_wp2_with fail
    go_ret2
    exact ⟨rfl, ⟨0, rfl⟩⟩
  · have hm0 : ((m : Int) == 0) = false := by simp; omega
    have hmb : decide ((2305843009213693952 : Int) < (m : Int)) = true := decide_eq_true (by omega)
    clear h
    go_enter Try.func48, Try.ntmps48
    go_wp2_with fail
    go_ret2
    exact ⟨rfl, ⟨0, rfl⟩⟩

set_option maxHeartbeats 400000 in
theorem rinv_core (a m A g : Nat) (x y : Int) (res code : Int) (hm : 0 < m) (hm0 : ((m : Int) == 0) = false) (hmb : decide ((2305843009213693952 : Int) < (m : Int)) = false)
    (hA : (a : Int) % (m : Int) = (A : Int)) (wA : IntKind.i64.wrap (A : Int) = (A : Int)) (wm : IntKind.i64.wrap (m : Int) = (m : Int))
    (hb : Ret 62 #[.int .i64 (A : Int), .int .i64 (m : Int)] (.tuple #[.int .i64 (g : Int), .int .i64 x, .int .i64 y]))
    (hc : (((g : Int) != 1) = true ∧ res = 0 ∧ code = 5) ∨ (((g : Int) != 1) = false ∧ x < 0 ∧ (∃ n1 n2 : Nat, IntKind.i64.wrap (-x) = (n1 : Int) ∧ IntKind.u64.wrap (n1 : Int) = (n1 : Int) ∧ (n1 : Int) % (m : Int) = (n2 : Int) ∧ IntKind.u64.wrap ((m : Int) - (n2 : Int)) = res) ∧ code = 0) ∨ (((g : Int) != 1) = false ∧ ¬ x < 0 ∧ IntKind.u64.wrap x = x ∧ x % (m : Int) = res ∧ code = 0)) :
    Ret 48 #[.int .u64 (a : Int), .int .u64 (m : Int)] (.tuple #[.int .u64 res, .int .i64 code]) := by
  intro w
  rcases hc with ⟨h1, rfl, rfl⟩ | ⟨h1, h2, ⟨n1, n2, h3, h4, h5, h6⟩, rfl⟩ | ⟨h1, h2, h3, h4, rfl⟩
  · go_enter Try.func48, Try.ntmps48
    go_wp2_with (go_at_call 62; (with_reducible refine (hb.at _).mono ?_); rintro e w' ⟨rfl, n, rfl⟩)
    go_ret2
    exact ⟨rfl, ⟨_, rfl⟩⟩
  · go_enter Try.func48, Try.ntmps48
    go_wp2_with (go_at_call 62; (with_reducible refine (hb.at _).mono ?_); rintro e w' ⟨rfl, n, rfl⟩)
    go_ret2
    exact ⟨rfl, ⟨_, rfl⟩⟩
  · go_enter Try.func48, Try.ntmps48
    go_wp2_with (go_at_call 62; (with_reducible refine (hb.at _).mono ?_); rintro e w' ⟨rfl, n, rfl⟩)
    go_ret2
    exact ⟨congrArg (fun r => Ending.returned (Value.tuple #[Value.int .u64 r, Value.int .i64 0])) h4, ⟨_, rfl⟩⟩

theorem rinv_none (a m : Nat) (hm : 0 < m) (hb : m ≤ 2305843009213693952) (hg : Nat.gcd a m ≠ 1) : Ret 48 #[.int .u64 (a : Int), .int .u64 (m : Int)] (.tuple #[.int .u64 0, .int .i64 5]) := by
  have hlt := Nat.mod_lt a hm
  obtain ⟨x, y, h, hret⟩ := both_any m (a % m) (by omega) hb
  rw [MM.gcd_mod] at hret
  exact rinv_core a m (a % m) _ x y 0 5 hm (good_eql m hm) (decide_eq_false (by omega)) (Int.natCast_emod a m).symm (wrap_i64_in _ (by omega) (by omega)) (wrap_i64_in _ (by omega) (by omega)) hret (.inl ⟨by simp; omega, rfl, rfl⟩)

theorem is_inv_of {a m X : Nat} {x y : Int} (hX : X < m) (hs : ((a % m : Nat) : Int) * x + m * y = 1) (he : ∃ k : Int, (X : Int) = x + m * k) : MM.IsInv a m X := by
  refine ⟨hX, ?_⟩
  obtain ⟨k, hk⟩ := he
  obtain ⟨k2, hk2⟩ := MM.mod_int a m
  refine MM.mod_of_int ⟨a * k - y - k2 * x, ?_⟩
  rw [Int.natCast_mul, hk]
  rw [hk2] at hs
  show (a : Int) * (x + m * k) = 1 + m * (a * k - y - k2 * x)
  grind

theorem rinv_yes (a m : Nat) (hm : 0 < m) (hb : m ≤ 2305843009213693952) (hg : Nat.gcd a m = 1) : ∃ X, MM.IsInv a m X ∧ Ret 48 #[.int .u64 (a : Int), .int .u64 (m : Int)] (.tuple #[.int .u64 (X : Int), .int .i64 0]) := by
  have hlt := Nat.mod_lt a hm
  obtain ⟨x, y, h, hret⟩ := both_any m (a % m) (by omega) hb
  have hs := h.sum
  rw [MM.gcd_mod, hg] at hs
  rw [MM.gcd_mod, hg] at hret
  have hg1 : (((1 : Nat) : Int) != 1) = false := by decide
  by_cases hx : x < 0
  · have hm1 : m ≠ 1 := fun e => by have := h.o e; omega
    have hx1 : -(m : Int) ≤ x := by rcases h.x1 with h1 | h1 <;> omega
    obtain ⟨n1, hn1⟩ : ∃ n1 : Nat, -x = (n1 : Int) := ⟨(-x).toNat, by omega⟩
    have hn1m : n1 < m := by
      rcases Nat.lt_or_ge n1 m with h | h
      · exact h
      · exfalso
        have e : x = -(m : Int) := by omega
        have d : (m : Int) ∣ 1 := ⟨y - ((a % m : Nat) : Int), by
          rw [e] at hs
          have : ((1 : Nat) : Int) = 1 := rfl
          grind⟩
        have := Int.natCast_dvd_natCast.1 (show (m : Int) ∣ ((1 : Nat) : Int) from d)
        exact hm1 (Nat.dvd_one.1 this)
    refine ⟨m - n1, is_inv_of (by omega) hs ⟨1, by omega⟩, ?_⟩
    refine rinv_core a m (a % m) 1 x y _ 0 hm (good_eql m hm) (decide_eq_false (by omega)) (Int.natCast_emod a m).symm (wrap_i64_in _ (by omega) (by omega)) (wrap_i64_in _ (by omega) (by omega)) hret (.inr (.inl ⟨hg1, hx, ⟨n1, n1, ?_, wrapN _ (by omega), ?_, ?_⟩, rfl⟩))
    · rw [hn1]; exact wrap_i64_in _ (by omega) (by omega)
    · rw [← Int.natCast_emod, Nat.mod_eq_of_lt hn1m]
    · rw [← Int.ofNat_sub (by omega), wrapN _ (by omega)]
  · have hx1 : x ≤ m := by rcases h.x0 with h1 | h1 <;> omega
    obtain ⟨n1, hn1⟩ : ∃ n1 : Nat, x = (n1 : Int) := ⟨x.toNat, by omega⟩
    subst hn1
    obtain ⟨k, hk⟩ := MM.mod_int n1 m
    refine ⟨n1 % m, is_inv_of (Nat.mod_lt _ hm) hs ⟨k, hk⟩, ?_⟩
    exact rinv_core a m (a % m) 1 _ y _ 0 hm (good_eql m hm) (decide_eq_false (by omega)) (Int.natCast_emod a m).symm (wrap_i64_in _ (by omega) (by omega)) (wrap_i64_in _ (by omega) (by omega)) hret (.inr (.inr ⟨hg1, hx, wrapN _ (by omega), (Int.natCast_emod n1 m).symm, rfl⟩))

end M
end Go.Proofs.Ytccpdjjgpkkkbaa
