/- The texts TapMath2, one behind the other. -/
import Derived.Test.YtbappohnljlchaaWB5
/- More maths of tapes: numbers that were told ahead, draws of any number, how a draw hangs on its bound. -/
namespace Go.Proofs.Ytbappohnljlchaa
namespace MM
open M
/-- A tape whose count is another one. -/
def Tp.as (t : Tp) (m : Nat) : Tp := ⟨t.fs, t.st, m⟩
theorem Tp.as_val (t : Tp) (m q : Nat) : (t.as m).val q = t.val q := by
  obtain ⟨fs, st, n⟩ := t
  cases fs with
  | nil => show (Tp.mk [] st m).val q = _; rw [Tp.val_nil, Tp.val_nil]
  | cons x r => rfl
theorem Tp.as_mk (l : List Nat) (s n m : Nat) : (Tp.mk l s n).as m = ⟨l, s, m⟩ := rfl
theorem Tp.as_next (t : Tp) (m q : Nat) : (t.as m).next q = (t.next q).as (m + 1) := by
  obtain ⟨fs, st, n⟩ := t
  cases fs with
  | nil => rw [Tp.as_mk, Tp.next_nil, Tp.next_nil, Tp.as_mk]
  | cons x r => rfl
theorem Tp.as_run (t : Tp) (m : Nat) (q : Nat → Nat) : ∀ k, (t.as m).run q k = (t.run q k).as (m + k)
  | 0 => rfl
  | k + 1 => by
    show ((t.as m).run q k).next (q k) = ((t.run q k).next (q k)).as (m + k + 1)
    rw [Tp.as_run t m q k, Tp.as_next]
theorem Tp.as_get (t : Tp) (m : Nat) (q : Nat → Nat) (k : Nat) : (t.as m).get q k = t.get q k := by
  show ((t.as m).run q k).val (q k) = _
  rw [Tp.as_run, Tp.as_val]
  rfl
/-- While numbers are there that were told ahead. -/
theorem run_of (l : List Nat) (s : Nat) (q : Nat → Nat) : ∀ k, k ≤ l.length → (Tp.of l s).run q k = ⟨l.drop k, s, k⟩
  | 0, _ => rfl
  | k + 1, h => by
    show ((Tp.of l s).run q k).next (q k) = _
    rw [run_of l s q k (by omega), List.drop_eq_getElem_cons (show k < l.length by omega), Tp.next_cons]
theorem get_of (l : List Nat) (s : Nat) (q : Nat → Nat) {k x : Nat} (h : l[k]? = some x) : (Tp.of l s).get q k = red x (q k) := by
  have hk := (List.getElem?_eq_some_iff.1 h).1
  show ((Tp.of l s).run q k).val (q k) = _
  rw [run_of l s q k (by omega), List.drop_eq_getElem_cons hk, Tp.val_cons]
  rw [List.getElem?_eq_getElem hk] at h
  rw [Option.some.inj h]
/-- Draws of any number. -/
theorem run_free (s : Nat) (hs : s < 18446744073709551616) : ∀ k, (Tp.new s).run (fun _ => 0) k = ⟨[], (s + k * 11400714819323198485) % 18446744073709551616, k⟩
  | 0 => by rw [Nat.zero_mul, Nat.add_zero, Nat.mod_eq_of_lt hs]; rfl
  | k + 1 => by
    show ((Tp.new s).run (fun _ => 0) k).next 0 = _
    rw [run_free s hs k, next_free]
    unfold nxt
    rw [Nat.mod_add_mod, Nat.add_mul, Nat.one_mul, Nat.add_assoc]
/-- A number below a multiple of q is taken. -/
theorem taken_mult {q z a : Nat} (hq : 0 < q) (ha : q * a ≤ 18446744073709551616) (hz : z < q * a) : taken q z = true := by
  unfold taken
  have h2 : 18446744073709551616 = q * (18446744073709551616 / q) + 18446744073709551616 % q := (Nat.div_add_mod _ q).symm
  have h1 : a ≤ 18446744073709551616 / q := (Nat.le_div_iff_mul_le hq).2 (by rw [Nat.mul_comm]; exact ha)
  have h3 := Nat.mul_le_mul_left q h1
  have h4 : z ≤ 18446744073709551615 - 18446744073709551616 % q := by
    generalize 18446744073709551616 % q = r at *
    generalize q * (18446744073709551616 / q) = p at *
    omega
  rw [decide_eq_true h4, Bool.or_true]
/-- The draw where the next number is taken. -/
theorem val_taken {s q : Nat} (h : taken q (mix (nxt s)) = true) : (Tp.new s).val q = red (mix (nxt s)) q := by
  show (Tp.mk [] s 0).val q = _
  rw [Tp.val_nil, acc_yes h]
theorem val_pow {s b : Nat} (hb : b < 64) : (Tp.new s).val (2 ^ b) = mix (nxt s) % 2 ^ b := by
  have h1 : 0 < 2 ^ b := Nat.two_pow_pos b
  have h2 : 2 ^ b * 2 ^ (64 - b) = 18446744073709551616 := by rw [← Nat.pow_add, show b + (64 - b) = 64 by omega]
  rw [val_taken (taken_mult h1 (Nat.le_of_eq h2) (by rw [h2]; exact mix_lt _))]
  unfold red
  rw [if_neg (by omega)]
end MM
end Go.Proofs.Ytbappohnljlchaa
