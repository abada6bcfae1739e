/- The walks of the document's own may, at, Eval, Degree, Scale, Sum, Numbers (consistoryref03): what each answers. -/
import Derived.Test.YtccpdjjgpkkkbaaOwn
import Derived.Test.YtccpdjjgpkkkbaaPolyMath
import Derived.Test.YtccpdjjgpkkkbaaModR1p
import Derived.Test.YtccpdjjgpkkkbaaModR1s
import Derived.Deep.Cut
import Derived.Deep.AppendLies
import Derived.IntWalk
namespace Go.Proofs.Ytccpdjjgpkkkbaa
open Go Go.RowKit Go.Lib
namespace M
theorem raddU (a b m : Nat) : Ret 31 #[.int .u64 (a : Int), .int .u64 (b : Int), .int .u64 (m : Int)] (.int .u64 ((MM.addU a b m : Nat) : Int)) := by
  unfold MM.addU
  by_cases h : MM.Good m
  · rw [if_pos h]; exact radd a b m _ h.1 h.2 rfl
  · rw [if_neg h]; exact radd_no a b m (MM.good_not h)
theorem rmulU (a b m : Nat) (hb : b < 18446744073709551616) : Ret 29 #[.int .u64 (a : Int), .int .u64 (b : Int), .int .u64 (m : Int)] (.int .u64 ((MM.mulU a b m : Nat) : Int)) := by
  unfold MM.mulU
  by_cases h : MM.Good m
  · rw [if_pos h]; exact rmul a b m _ h.1 h.2 hb rfl
  · rw [if_neg h]; exact rmul_no a b m (MM.good_not h) hb
theorem rpowU (a e m : Nat) (ha : a < 18446744073709551616) (he : e < 18446744073709551616) : Ret 63 #[.int .u64 (a : Int), .int .u64 (e : Int), .int .u64 (m : Int)] (.int .u64 ((MM.powU a e m : Nat) : Int)) := by
  unfold MM.powU
  by_cases h : MM.Good m
  · rw [if_pos h]; exact rpow a e m _ h.1 h.2 ha he rfl
  · rw [if_neg h]; exact rpow_no a e m (MM.good_not h) ha he

theorem rmay_yes (q : Nat) (h : MM.Good q) : Ret 46 #[.int .u64 (q : Int)] (.bool true) := by
  intro w
  have h0 : (0 : Int) < (q : Int) := by have := h.1; omega
  have h1 : decide ((q : Int) ≤ 2305843009213693952) = true := decide_eq_true (by have := h.2; omega)
  clear h
  go_enter Try.func46, Try.ntmps46
  go_wp2_with fail
  go_ret
  exact ⟨rfl, 0, rfl⟩
theorem rmay_no (q : Nat) (h : ¬ MM.Good q) : Ret 46 #[.int .u64 (q : Int)] (.bool false) := by
  intro w
  rcases MM.good_not h with h0 | h0
  · have h1 : ¬ (0 : Int) < (q : Int) := by omega
    clear h h0
    go_enter Try.func46, Try.ntmps46
    go_wp2_with fail
    go_ret
    exact ⟨rfl, 0, rfl⟩
  · have h1 : (0 : Int) < (q : Int) := by omega
    have h2 : decide ((q : Int) ≤ 2305843009213693952) = false := decide_eq_false (by omega)
    clear h h0
    go_enter Try.func46, Try.ntmps46
    go_wp2_with fail
    go_ret
    exact ⟨rfl, 0, rfl⟩

/-- The coefficient at a place. -/
theorem rcoef_any (ao : Option Addr) (n cap i q : Nat) (z : Nat → Nat) (hq : 0 < q) (W : World) (hr : Rd W ao n z) :
    Calls Try.prog 64 #[.slice ao n cap, .int .i64 (i : Int), .int .u64 (q : Int)] W fun e w' => e = .returned (.int .u64 ((MM.atU n q z i : Nat) : Int)) ∧ ∃ m, w' = W.drewN m := by
  by_cases hlt : i < n
  · obtain ⟨ad, rfl, hc⟩ := hr.at_ hlt
    have e : Hid (MM.atU n q z i = z i % q) := Lib.hid (by unfold MM.atU; rw [if_pos hlt])
    rw [e.out]
    have hq0 : (0 : Int) < (q : Int) := by omega
    have hle : ¬ ((n : Int) ≤ (i : Int)) := by omega
    clear hr
    go_enter Try.func64, Try.ntmps64
    go_wp2_with fail
    go_ret
    exact ⟨rfl, 0, rfl⟩
  · have e : Hid (MM.atU n q z i = 0) := Lib.hid (by unfold MM.atU; rw [if_neg hlt])
    rw [e.out]
    have hle : (n : Int) ≤ (i : Int) := by omega
    clear hr hlt
    go_enter Try.func64, Try.ntmps64
    go_wp2_with fail
    go_ret
    exact ⟨rfl, 0, rfl⟩

set_option maxHeartbeats 1000000 in
/-- The value of a polynomial. -/
theorem reval_any (ao : Option Addr) (n cap x q : Nat) (z : Nat → Nat) (hn : n ≤ 9223372036854775807) (hx : x < 18446744073709551616) (W : World) (hr : Rd W ao n z) :
    Calls Try.prog 49 #[.slice ao n cap, .int .u64 (x : Int), .int .u64 (q : Int)] W fun e w' => e = .returned (.int .u64 ((MM.evalU z x q n : Nat) : Int)) ∧ ∃ m, w' = W.drewN m := by
  have HR := Lib.hid hr
  clear hr
  go_enter Try.func49, Try.ntmps49
  go_wp2_with fail
  go_loopw [7, 8] (fun s7 s8 wx => ∃ k m : Nat, k ≤ n ∧ s8 = .int .i64 (k : Int) ∧ s7 = .int .u64 ((MM.evalU z x q k : Nat) : Int) ∧ wx = W.drewN m) (fun _ s8 _ => n - (RowKit.intOf s8).toNat)
  case atStart => exact ⟨0, 0, Nat.zero_le _, rfl, rfl, rfl⟩
  case round =>
    obtain ⟨k, m, hk, rfl, rfl, rfl⟩ := hrel
    by_cases hlt : k < n
    · obtain ⟨ad, rfl, hc⟩ := HR.out.at_ hlt
      have HP := rpowU x k q hx (by omega)
      have HM := rmulU (z k) (MM.powU x k q) q (MM.powU_lt _ _ _)
      have HA := raddU (MM.evalU z x q k) (MM.mulU (z k) (MM.powU x k q) q) q
      have HS : Hid (MM.evalU z x q (k + 1) = MM.addU (MM.evalU z x q k) (MM.mulU (z k) (MM.powU x k q) q) q) := Lib.hid rfl
      generalize MM.powU x k q = u1 at *
      generalize MM.mulU (z k) u1 q = u2 at *
      generalize MM.addU (MM.evalU z x q k) u2 q = u3 at *
      generalize MM.evalU z x q k = u0 at *
      go_upto_region 5 with fail
      generalize hwr : W.drewN m = wr
      have hcell : wr.cell? (ad.add k) = some (.int .u64 ((z k : Nat) : Int)) := by rw [← hwr]; exact hc
      have HWR := Lib.hid hwr
      clear hwr hc
      have hwk : IntKind.u64.wrap (k : Int) = (k : Int) := wrapN _ (by omega)
      have hk0 : (0 : Int) ≤ (k : Int) := Int.natCast_nonneg _
      have hk1 : (k : Int) < (n : Int) := by omega
      go_quiet ((first | (go_at_call 63; exact HP.quiet) | (go_at_call 29; exact HM.quiet) | (go_at_call 31; exact HA.quiet)))
      clear hwk
      go_wp2_with fail
      go_roundw
      case rel => exact ⟨k + 1, _, by omega, by go_num, by rw [HS.out], by rw [← HWR.out]; exact World.drewN_drewN _ _ _⟩
      case measure => simp [RowKit.intOf]; omega
    · obtain rfl : k = n := by omega
      go_wp2_with fail
      go_ret
      exact ⟨rfl, _, rfl⟩
end M
end Go.Proofs.Ytccpdjjgpkkkbaa
