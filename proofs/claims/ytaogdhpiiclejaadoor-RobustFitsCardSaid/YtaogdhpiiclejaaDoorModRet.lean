/- What each call of package mod answers, as a fact that a walk meets: sum, difference, product, power, inverse modulo m, for m from 1 to 2^61. -/
import Derived.Test.YtaogdhpiiclejaaDoorModFrame
namespace Go.Proofs.YtaogdhpiiclejaaDoor
open Go.ChangeShapes Go.WideShapes Go.ChangeAt Go.RowKit
namespace M
theorem ret_add (a b m r : Nat) (hm : 0 < m) (hb : m ≤ 2305843009213693952) (h : (a + b) % m = r) : Ret 35 #[.int .u64 (a : Int), .int .u64 (b : Int), .int .u64 (m : Int)] (.int .u64 (r : Int)) := fun W => by rw [← h]; exact add_any a b m hm hb W
theorem ret_sub (a b m r : Nat) (hm : 0 < m) (hb : m ≤ 2305843009213693952) (h : MM.subm a b m = r) : Ret 29 #[.int .u64 (a : Int), .int .u64 (b : Int), .int .u64 (m : Int)] (.int .u64 (r : Int)) := fun W => by rw [← h]; exact sub_any a b m hm hb W
theorem ret_mul (a b m r : Nat) (hm : 0 < m) (hb : m ≤ 2305843009213693952) (ha : a < 18446744073709551616) (hb' : b < 18446744073709551616) (h : a * b % m = r) : Ret 23 #[.int .u64 (a : Int), .int .u64 (b : Int), .int .u64 (m : Int)] (.int .u64 (r : Int)) := fun W => by rw [← h]; exact mul_any a b m hm hb ha hb' W
theorem ret_pow (a e m r : Nat) (hm : 0 < m) (hb : m ≤ 2305843009213693952) (ha : a < 18446744073709551616) (he : e < 18446744073709551616) (h : MM.powm a e m = r) : Ret 22 #[.int .u64 (a : Int), .int .u64 (e : Int), .int .u64 (m : Int)] (.int .u64 (r : Int)) := fun W => by rw [← h]; exact pow_core a e m hm hb ha he W
theorem ret_no_add (a b m : Nat) (h : m = 0 ∨ 2305843009213693952 < m) : Ret 35 #[.int .u64 (a : Int), .int .u64 (b : Int), .int .u64 (m : Int)] (.int .u64 0) := no_add a b m h
theorem ret_no_sub (a b m : Nat) (h : m = 0 ∨ 2305843009213693952 < m) : Ret 29 #[.int .u64 (a : Int), .int .u64 (b : Int), .int .u64 (m : Int)] (.int .u64 0) := no_sub a b m h
theorem ret_no_mul (a b m : Nat) (h : m = 0 ∨ 2305843009213693952 < m) : Ret 23 #[.int .u64 (a : Int), .int .u64 (b : Int), .int .u64 (m : Int)] (.int .u64 0) := no_mul a b m h
theorem ret_no_pow (a b m : Nat) (h : m = 0 ∨ 2305843009213693952 < m) : Ret 22 #[.int .u64 (a : Int), .int .u64 (b : Int), .int .u64 (m : Int)] (.int .u64 0) := no_pow a b m h
theorem ret_inv (a m x : Nat) (hm : 0 < m) (hb : m ≤ 2305843009213693952) (h : MM.IsInv a m x) : Ret 28 #[.int .u64 (a : Int), .int .u64 (m : Int)] (.tuple #[.int .u64 (x : Int), .int .i64 0]) := fun W => by
  have h2 := inv_yes a m hm hb h.gcd W
  rwa [MM.invm_eq h] at h2
theorem ret_inv_none (a m : Nat) (hm : 0 < m) (hb : m ≤ 2305843009213693952) (h : Nat.gcd a m ≠ 1) : Ret 28 #[.int .u64 (a : Int), .int .u64 (m : Int)] (.tuple #[.int .u64 0, .int .i64 5]) := inv_none a m hm hb h
theorem ret_inv_no (a m : Nat) (h : m = 0 ∨ 2305843009213693952 < m) : Ret 28 #[.int .u64 (a : Int), .int .u64 (m : Int)] (.tuple #[.int .u64 0, .int .i64 1]) := inv_no a m h
theorem ret_prime (n : Nat) (r : Bool) (h : MM.primeOf n = r) : RetL 11 #[.int .u64 (n : Int)] (.bool r) := fun W hW => by rw [← h]; exact prime_any n W hW
end M
end Go.Proofs.YtaogdhpiiclejaaDoor
