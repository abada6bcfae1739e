/- The document's polynomial through pairs: what it refuses. -/
import Derived.Test.YtccpdjjgpkkkbaaPolyR6
namespace Go.Proofs.Ytccpdjjgpkkkbaa
open Go Go.RowKit Go.Lib
namespace M
set_option maxHeartbeats 1000000 in
theorem rthrough_len (xo yo : Option Addr) (n m cx cy q : Nat) (y : Nat → Nat) (hne : n ≠ m) (W : World) :
    Calls Try.prog 32 #[.slice xo n cx, .slice yo m cy, .int .u64 (q : Int)] W (Gives2 W 0 y 1) := by
  have HS := Lib.hid (Own.start W y)
  have b0 : ((n : Int) == (m : Int)) = false := by simp; omega
  have b1 : ((n : Int) != (m : Int)) = true := by rw [bne, b0]; rfl
  by_cases hq : MM.Good q
  · have HY := rmay_yes q hq
    clear hq
    go_enter Try.func32, Try.ntmps32
    go_wp2_with (go_at_call 46; (with_reducible refine (HY.at _).mono ?_); rintro e w' ⟨rfl, nd, rfl⟩)
    go_ret2
    exact (HS.out.drewN _).gives2 1
  · have HY := rmay_no q hq
    clear hq
    go_enter Try.func32, Try.ntmps32
    go_wp2_with (go_at_call 46; (with_reducible refine (HY.at _).mono ?_); rintro e w' ⟨rfl, nd, rfl⟩)
    go_ret2
    exact (HS.out.drewN _).gives2 1
set_option maxHeartbeats 1000000 in
theorem rthrough_bad (xo yo : Option Addr) (n m cx cy q : Nat) (y : Nat → Nat) (hq : ¬ MM.Good q) (W : World) :
    Calls Try.prog 32 #[.slice xo n cx, .slice yo m cy, .int .u64 (q : Int)] W (Gives2 W 0 y 1) := by
  have HS := Lib.hid (Own.start W y)
  have HY := rmay_no q hq
  clear hq
  go_enter Try.func32, Try.ntmps32
  go_wp2_with (go_at_call 46; (with_reducible refine (HY.at _).mono ?_); rintro e w' ⟨rfl, nd, rfl⟩)
  go_ret2
  exact (HS.out.drewN _).gives2 1
set_option maxHeartbeats 1000000 in
theorem rthrough_no (xo yo : Option Addr) (n cx cy q : Nat) (z y : Nat → Nat) (hq : MM.Good q) (W : World) (hr : Rd W xo n z) (hw : MM.wrongU q n z ≠ 0) :
    Calls Try.prog 32 #[.slice xo n cx, .slice yo n cy, .int .u64 (q : Int)] W (Gives2 W 0 y (MM.wrongU q n z)) := by
  have HWr := Lib.hid (fun (W' : World) (hb : Below W.heap.size W W') => rwrong_any xo n cx q z W' (hr.below hb))
  have HS := Lib.hid (Own.start W y)
  have HY := rmay_yes q hq
  obtain ⟨c, hc⟩ : ∃ c, MM.wrongU q n z = c := ⟨_, rfl⟩
  rw [hc] at HWr hw ⊢
  have b0 : (c == 0) = false := by simpa using hw
  have b1 : (c != 0) = true := by rw [bne, b0]; rfl
  have b2 : ((n : Int) == (n : Int)) = true := by simp
  clear hr hw hc hq
  go_enter Try.func32, Try.ntmps32
  go_wp2_with (first | (go_at_call 46; (with_reducible refine (HY.at _).mono ?_); rintro e w' ⟨rfl, nd, rfl⟩) | (go_at_call 47; (refine (HWr.out _ (by first | exact below_drewN' _ _ _ | exact Below.refl _ _)).mono ?_); rintro e w' ⟨rfl, nd, rfl⟩))
  go_ret2
  exact (HS.out.drewN _).gives2 c
end M
end Go.Proofs.Ytccpdjjgpkkkbaa
