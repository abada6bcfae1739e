/- The walks of the document's own wrong, whatever places, and Weights (consistoryref03): what each answers. -/
import Derived.Test.YtccpdjjgpkkkbaaPolyR4
namespace Go.Proofs.Ytccpdjjgpkkkbaa
open Go Go.RowKit Go.Lib
namespace M
set_option maxHeartbeats 400000 in
theorem rwrong_bad (ao : Option Addr) (n cap q : Nat) (hq : ¬ MM.Good q) (W : World) :
    Calls Try.prog 47 #[.slice ao n cap, .int .u64 (q : Int)] W fun e w' => e = .returned (.int .i64 1) ∧ ∃ m, w' = W.drewN m := by
  have HY := rmay_no q hq
  clear hq
  go_enter Try.func47, Try.ntmps47
  go_wp2_with (go_at_call 46; (with_reducible refine (HY.at _).mono ?_); rintro e w' ⟨rfl, nd, rfl⟩)
  go_ret
  exact ⟨rfl, _, rfl⟩
set_option maxHeartbeats 400000 in
theorem rwrong_many (ao : Option Addr) (n cap q : Nat) (hq : MM.Good q) (hn : 1024 < n) (W : World) :
    Calls Try.prog 47 #[.slice ao n cap, .int .u64 (q : Int)] W fun e w' => e = .returned (.int .i64 40) ∧ ∃ m, w' = W.drewN m := by
  have HY := rmay_yes q hq
  have h1 : (1024 : Int) < (n : Int) := by omega
  clear hq
  go_enter Try.func47, Try.ntmps47
  go_wp2_with (go_at_call 46; (with_reducible refine (HY.at _).mono ?_); rintro e w' ⟨rfl, nd, rfl⟩)
  go_ret
  exact ⟨rfl, _, rfl⟩
theorem rwrong_any (ao : Option Addr) (n cap q : Nat) (z : Nat → Nat) (W : World) (hr : Rd W ao n z) :
    Calls Try.prog 47 #[.slice ao n cap, .int .u64 (q : Int)] W fun e w' => e = .returned (.int .i64 (MM.wrongU q n z)) ∧ ∃ m, w' = W.drewN m := by
  unfold MM.wrongU
  by_cases hq : MM.Good q
  · rw [if_neg (fun h => h hq)]
    by_cases hn : 1024 < n
    · rw [if_pos hn]; exact rwrong_many ao n cap q hq hn W
    · rw [if_neg hn]; exact rwrong_walk ao n cap q z (by omega) hq W hr
  · rw [if_pos hq]; exact rwrong_bad ao n cap q hq W
theorem wrongU_zero {q n : Nat} {z : Nat → Nat} (h : MM.wrongU q n z = 0) : MM.Good q ∧ n ≤ 1024 := by
  unfold MM.wrongU at h
  by_cases hq : MM.Good q
  · rw [if_neg (fun h => h hq)] at h
    by_cases hn : 1024 < n
    · rw [if_pos hn] at h; omega
    · exact ⟨hq, by omega⟩
  · rw [if_pos hq] at h; omega
/-- A call that hands back a row of its own, and a number beside it. -/
def Gives2 (W : World) (n : Nat) (z : Nat → Nat) (c : Int) (e : Ending) (w' : World) : Prop := ∃ v, e = .returned (.tuple #[v, .int .i64 c]) ∧ w'.ownsRow W.heap.size 22 1 v n (zlist n z) ∧ Below W.heap.size W w'
theorem Own.gives2 {w0 w : World} {B k : Nat} {v : Value} {z : Nat → Nat} (h : Own w0 B v k z w) (c : Int) : Gives2 w0 k z c (.returned (.tuple #[v, .int .i64 c])) w := by
  obtain ⟨v', e, h1, h2⟩ := h.gives
  obtain rfl : v = v' := by simpa using e
  exact ⟨v, rfl, h1, h2⟩
end M
end Go.Proofs.Ytccpdjjgpkkkbaa
