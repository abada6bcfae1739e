/- What each call of package mod answers, as a fact that a walk meets: sum, difference, product, power, inverse modulo m, for m from 1 to 2^61. -/
import Derived.Test.YtmeaiindbkkkiaaModFrame
namespace Go.Proofs.Ytmeaiindbkkkiaa
open Go.ChangeShapes Go.WideShapes Go.ChangeAt Go.RowKit
namespace M
theorem ret_add (a b m r : Nat) (hm : 0 < m) (hb : m ≤ 2305843009213693952) (h : (a + b) % m = r) : Ret 14 #[.int .u64 (a : Int), .int .u64 (b : Int), .int .u64 (m : Int)] (.int .u64 (r : Int)) := fun W => by rw [← h]; exact add_any a b m hm hb W
theorem ret_mul (a b m r : Nat) (hm : 0 < m) (hb : m ≤ 2305843009213693952) (ha : a < 18446744073709551616) (hb' : b < 18446744073709551616) (h : a * b % m = r) : Ret 15 #[.int .u64 (a : Int), .int .u64 (b : Int), .int .u64 (m : Int)] (.int .u64 (r : Int)) := fun W => by rw [← h]; exact mul_any a b m hm hb ha hb' W
theorem ret_pow (a e m r : Nat) (hm : 0 < m) (hb : m ≤ 2305843009213693952) (ha : a < 18446744073709551616) (he : e < 18446744073709551616) (h : MM.powm a e m = r) : Ret 17 #[.int .u64 (a : Int), .int .u64 (e : Int), .int .u64 (m : Int)] (.int .u64 (r : Int)) := fun W => by rw [← h]; exact pow_core a e m hm hb ha he W
theorem ret_no_add (a b m : Nat) (h : m = 0 ∨ 2305843009213693952 < m) : Ret 14 #[.int .u64 (a : Int), .int .u64 (b : Int), .int .u64 (m : Int)] (.int .u64 0) := no_add a b m h
theorem ret_no_mul (a b m : Nat) (h : m = 0 ∨ 2305843009213693952 < m) : Ret 15 #[.int .u64 (a : Int), .int .u64 (b : Int), .int .u64 (m : Int)] (.int .u64 0) := no_mul a b m h
theorem ret_no_pow (a b m : Nat) (h : m = 0 ∨ 2305843009213693952 < m) : Ret 17 #[.int .u64 (a : Int), .int .u64 (b : Int), .int .u64 (m : Int)] (.int .u64 0) := no_pow a b m h
end M
end Go.Proofs.Ytmeaiindbkkkiaa
