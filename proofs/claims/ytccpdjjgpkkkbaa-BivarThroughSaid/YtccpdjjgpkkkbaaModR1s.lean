/- The walk of the document's own Sub (consistoryref01): the difference modulo m, for m from 1 to 2^61; for any other m 0. -/
import Derived.Test.YtccpdjjgpkkkbaaModR1
namespace Go.Proofs.Ytccpdjjgpkkkbaa
open Go.ChangeShapes Go.WideShapes Go.ChangeAt Go.RowKit Go.Lib
namespace M

theorem rsub_no (a b m : Nat) (h : m = 0 ∨ 2305843009213693952 < m) :
    Ret 50 #[.int .u64 (a : Int), .int .u64 (b : Int), .int .u64 (m : Int)] (.int .u64 0) := by
  intro w
  rcases h with rfl | h
  · go_enter Try.func50, Try.ntmps50
    go_wp2_with fail
    go_ret
    exact ⟨rfl, ⟨0, rfl⟩⟩
  · have hm0 : ((m : Int) == 0) = false := by simp; omega
    have hmb : decide ((2305843009213693952 : Int) < (m : Int)) = true := decide_eq_true (by omega)
    clear h
    go_enter Try.func50, Try.ntmps50
    go_wp2_with fail
    go_ret
    exact ⟨rfl, ⟨0, rfl⟩⟩

theorem rsub_core (a b m x y r : Nat) (hm : 0 < m) (hm0 : ((m : Int) == 0) = false) (hmb : decide ((2305843009213693952 : Int) < (m : Int)) = false)
    (hx : (a : Int) % (m : Int) = (x : Int)) (hy : (b : Int) % (m : Int) = (y : Int))
    (hc : (y ≤ x ∧ IntKind.u64.wrap ((x : Int) - (y : Int)) = (r : Int)) ∨ (x < y ∧ IntKind.u64.wrap ((m : Int) - IntKind.u64.wrap ((y : Int) - (x : Int))) = (r : Int))) :
    Ret 50 #[.int .u64 (a : Int), .int .u64 (b : Int), .int .u64 (m : Int)] (.int .u64 (r : Int)) := by
  intro w
  rcases hc with ⟨h, e⟩ | ⟨h, e⟩
  · have hle : (y : Int) ≤ (x : Int) := by omega
    go_enter Try.func50, Try.ntmps50
    go_wp2_with fail
    go_quiet (fail)
    go_wp2_with fail
    go_quiet (fail)
    go_wp2_with fail
    go_ret
    exact ⟨rfl, ⟨_, World.drewN_drewN _ _ _⟩⟩
  · have hle : ¬ ((y : Int) ≤ (x : Int)) := by omega
    go_enter Try.func50, Try.ntmps50
    go_wp2_with fail
    go_quiet (fail)
    go_wp2_with fail
    go_quiet (fail)
    go_wp2_with fail
    go_ret
    exact ⟨rfl, ⟨_, World.drewN_drewN _ _ _⟩⟩

theorem sub_val1 (x y m : Nat) (hx : x < m) (h : y ≤ x) : (x + m - y) % m = x - y := by
  rw [show x + m - y = (x - y) + m by omega, Nat.add_mod_right, Nat.mod_eq_of_lt (by omega)]
theorem sub_val2 (x y m : Nat) (hy : y < m) (h : x < y) : (x + m - y) % m = m - (y - x) := by
  rw [Nat.mod_eq_of_lt (by omega)]; omega

theorem rsub (a b m r : Nat) (hm : 0 < m) (hb : m ≤ 2305843009213693952) (h : MM.subm a b m = r) :
    Ret 50 #[.int .u64 (a : Int), .int .u64 (b : Int), .int .u64 (m : Int)] (.int .u64 (r : Int)) := by
  have h1 := Nat.mod_lt a hm
  have h2 := Nat.mod_lt b hm
  refine rsub_core a b m (a % m) (b % m) r hm (good_eql m hm) (decide_eq_false (by omega)) (Int.natCast_emod a m).symm (Int.natCast_emod b m).symm ?_
  rw [← h]
  unfold MM.subm
  by_cases hlt : b % m ≤ a % m
  · refine .inl ⟨hlt, ?_⟩
    rw [← Int.ofNat_sub hlt, wrapN _ (by omega), sub_val1 _ _ _ h1 hlt]
  · refine .inr ⟨by omega, ?_⟩
    rw [← Int.ofNat_sub (by omega), wrapN _ (by omega), ← Int.ofNat_sub (by omega), wrapN _ (by omega), sub_val2 _ _ _ h2 (by omega)]

end M
end Go.Proofs.Ytccpdjjgpkkkbaa
