/- What each call of package mod answers, as a fact that a walk meets: sum, difference, product, power, inverse modulo m, for m from 1 to 2^61. -/
import Derived.Test.YtdblijpoelcghaaModFrame
namespace Go.Proofs.Ytdblijpoelcghaa
open Go.ChangeShapes Go.WideShapes Go.ChangeAt Go.RowKit
namespace M
theorem ret_add (a b m r : Nat) (hm : 0 < m) (hb : m ≤ 2305843009213693952) (h : (a + b) % m = r) : Ret 34 #[.int .u64 (a : Int), .int .u64 (b : Int), .int .u64 (m : Int)] (.int .u64 (r : Int)) := fun W => by rw [← h]; exact add_any a b m hm hb W
theorem ret_sub (a b m r : Nat) (hm : 0 < m) (hb : m ≤ 2305843009213693952) (h : MM.subm a b m = r) : Ret 36 #[.int .u64 (a : Int), .int .u64 (b : Int), .int .u64 (m : Int)] (.int .u64 (r : Int)) := fun W => by rw [← h]; exact sub_any a b m hm hb W
theorem ret_mul (a b m r : Nat) (hm : 0 < m) (hb : m ≤ 2305843009213693952) (ha : a < 18446744073709551616) (hb' : b < 18446744073709551616) (h : a * b % m = r) : Ret 35 #[.int .u64 (a : Int), .int .u64 (b : Int), .int .u64 (m : Int)] (.int .u64 (r : Int)) := fun W => by rw [← h]; exact mul_any a b m hm hb ha hb' W
theorem ret_no_add (a b m : Nat) (h : m = 0 ∨ 2305843009213693952 < m) : Ret 34 #[.int .u64 (a : Int), .int .u64 (b : Int), .int .u64 (m : Int)] (.int .u64 0) := no_add a b m h
theorem ret_no_sub (a b m : Nat) (h : m = 0 ∨ 2305843009213693952 < m) : Ret 36 #[.int .u64 (a : Int), .int .u64 (b : Int), .int .u64 (m : Int)] (.int .u64 0) := no_sub a b m h
theorem ret_no_mul (a b m : Nat) (h : m = 0 ∨ 2305843009213693952 < m) : Ret 35 #[.int .u64 (a : Int), .int .u64 (b : Int), .int .u64 (m : Int)] (.int .u64 0) := no_mul a b m h
end M
end Go.Proofs.Ytdblijpoelcghaa
