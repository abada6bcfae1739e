/- The walk of the document's own Sub (consistoryref01): the difference modulo m, for m from 1 to 2^61; for any other m 0. -/
import Derived.Test.YtdblijpoelcghaaModR1
namespace Go.Proofs.Ytdblijpoelcghaa
open Go.ChangeShapes Go.WideShapes Go.ChangeAt Go.RowKit Go.Lib
namespace M

theorem sub_val1 (x y m : Nat) (hx : x < m) (h : y ≤ x) : (x + m - y) % m = x - y := by
  rw [show x + m - y = (x - y) + m by omega, Nat.add_mod_right, Nat.mod_eq_of_lt (by omega)]
theorem sub_val2 (x y m : Nat) (hy : y < m) (h : x < y) : (x + m - y) % m = m - (y - x) := by
  rw [Nat.mod_eq_of_lt (by omega)]; omega

end M
end Go.Proofs.Ytdblijpoelcghaa
