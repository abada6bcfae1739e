/- The walk of the document's own Pow (consistoryref01): the power modulo m, for m from 1 to 2^61; for any other m 0. -/
import Derived.Test.YtccpdjjgpkkkbaaModR1
namespace Go.Proofs.Ytccpdjjgpkkkbaa
open Go.ChangeShapes Go.WideShapes Go.ChangeAt Go.RowKit Go.Lib
namespace M

set_option maxHeartbeats 400000 in
/-- The power, over whatever the document's Mul and Add answer. -/
theorem rpow_core (a m : Nat) (g : Nat → Nat) (fM : Nat → Nat → Nat)
    (hA : Ret 31 #[.int .u64 1, .int .u64 0, .int .u64 (m : Int)] (.int .u64 ((g 0 : Nat) : Int)))
    (hM : ∀ x y : Nat, y < 18446744073709551616 → Ret 29 #[.int .u64 (x : Int), .int .u64 (y : Int), .int .u64 (m : Int)] (.int .u64 ((fM x y : Nat) : Int)))
    (ha : a < 18446744073709551616) (hg : ∀ e, g e < 18446744073709551616)
    (hE : ∀ e, 0 < e → e % 2 = 0 → fM (g (e / 2)) (g (e / 2)) = g e) (hO : ∀ e, e % 2 = 1 → fM (fM (g (e / 2)) (g (e / 2))) a = g e) :
    ∀ k e : Nat, e < 2 ^ k → e < 18446744073709551616 → Ret 63 #[.int .u64 (a : Int), .int .u64 (e : Int), .int .u64 (m : Int)] (.int .u64 ((g e : Nat) : Int)) := by
  have zero : Ret 63 #[.int .u64 (a : Int), .int .u64 0, .int .u64 (m : Int)] (.int .u64 ((g 0 : Nat) : Int)) := by
    intro w
    clear hM hE hO hg ha
    generalize g 0 = g0 at *
    go_enter Try.func63, Try.ntmps63
    go_wp2_with (go_at_call 31; (with_reducible refine (hA.at _).mono ?_); rintro e w' ⟨rfl, n, rfl⟩)
    go_ret
    exact ⟨rfl, ⟨_, rfl⟩⟩
  intro k
  induction k with
  | zero =>
    intro e he _
    obtain rfl : e = 0 := by simp at he; exact he
    exact zero
  | succ k ih =>
    intro e he he64
    rcases Nat.eq_zero_or_pos e with rfl | hpos
    · exact zero
    · have hrec := ih (e / 2) (by rw [Nat.pow_succ] at he; omega) (by omega)
      intro w
      have h1 := hM (g (e / 2)) (g (e / 2)) (hg _)
      have h2 := hM (fM (g (e / 2)) (g (e / 2))) a ha
      have e0 : ((e : Int) == 0) = false := by simp; omega
      obtain ⟨e2, he2⟩ : ∃ e2, e / 2 = e2 := ⟨_, rfl⟩
      have q1 : (e : Int) / 2 = (e2 : Int) := by omega
      have q2 : IntKind.u64.wrap (e2 : Int) = (e2 : Int) := wrapN _ (by omega)
      have hE' := hE e hpos
      have hO' := hO e
      rw [he2] at hrec h1 h2 hE' hO'
      clear hM hE hO hg ha zero ih he hA he64
      generalize g e2 = x at *
      generalize fM x x = y at *
      generalize fM y a = z at *
      generalize g e = r at *
      rcases Nat.mod_two_eq_zero_or_one e with hp | hp
      · have hb1 : (((e : Int) % 2) == 1) = false := by simp; omega
        obtain rfl := hE' hp
        clear hE' hO' hp he2 hpos
        go_enter Try.func63, Try.ntmps63
        go_wp2_with (first | (go_at_call 63; (with_reducible refine (hrec.at _).mono ?_); rintro e w' ⟨rfl, n, rfl⟩) | (go_at_call 29; (with_reducible refine (h1.at _).mono ?_); rintro e w' ⟨rfl, n, rfl⟩))
        go_ret
        exact ⟨rfl, ⟨_, rfl⟩⟩
      · have hb1 : (((e : Int) % 2) == 1) = true := by simp; omega
        obtain rfl := hO' hp
        clear hE' hO' hp he2 hpos
        go_enter Try.func63, Try.ntmps63
        go_wp2_with (first | (go_at_call 63; (with_reducible refine (hrec.at _).mono ?_); rintro e w' ⟨rfl, n, rfl⟩) | (go_at_call 29; first | ((with_reducible refine (h1.at _).mono ?_); rintro e w' ⟨rfl, n, rfl⟩) | ((with_reducible refine (h2.at _).mono ?_); rintro e w' ⟨rfl, n, rfl⟩)))
        go_ret
        exact ⟨rfl, ⟨_, rfl⟩⟩

theorem rpow (a e m r : Nat) (hm : 0 < m) (hb : m ≤ 2305843009213693952) (ha : a < 18446744073709551616) (he : e < 18446744073709551616) (h : MM.powm a e m = r) :
    Ret 63 #[.int .u64 (a : Int), .int .u64 (e : Int), .int .u64 (m : Int)] (.int .u64 (r : Int)) := by
  rw [← h]
  refine rpow_core a m (fun e => MM.powm a e m) (fun x y => x * y % m) (radd 1 0 m _ hm hb (by unfold MM.powm; rw [Nat.pow_zero])) (fun x y hy => rmul x y m _ hm hb hy rfl) ha
    (fun e => by have := Nat.mod_lt (a ^ e) hm; show a ^ e % m < _; omega) ?_ ?_ 64 e he he
  · intro e _ h2
    show MM.powm a (e / 2) m * MM.powm a (e / 2) m % m = MM.powm a e m
    unfold MM.powm
    rw [← Nat.mul_mod, ← Nat.pow_add, show e / 2 + e / 2 = e by omega]
  · intro e h2
    show (MM.powm a (e / 2) m * MM.powm a (e / 2) m % m) * a % m = MM.powm a e m
    unfold MM.powm
    rw [← Nat.mul_mod, ← Nat.pow_add, MM.mul_mod_left', ← Nat.pow_succ, show (e / 2 + e / 2).succ = e by omega]

theorem rpow_no (a e m : Nat) (h : m = 0 ∨ 2305843009213693952 < m) (ha : a < 18446744073709551616) (he : e < 18446744073709551616) :
    Ret 63 #[.int .u64 (a : Int), .int .u64 (e : Int), .int .u64 (m : Int)] (.int .u64 0) :=
  rpow_core a m (fun _ => 0) (fun _ _ => 0) (radd_no 1 0 m h) (fun x y hy => rmul_no x y m h hy) ha (fun _ => by omega) (fun _ _ _ => rfl) (fun _ _ => rfl) 64 e he he
end M
end Go.Proofs.Ytccpdjjgpkkkbaa
