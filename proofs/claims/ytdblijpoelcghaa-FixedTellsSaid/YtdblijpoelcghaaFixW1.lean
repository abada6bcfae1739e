/- The walks of the number of a whole number, the whole number of a number, whether parameters fit, whether lists are within bounds. -/
import Derived.Test.YtdblijpoelcghaaFixOwn
import Derived.Test.YtdblijpoelcghaaModMath3
import Derived.IntWalk
namespace Go.Proofs.Ytdblijpoelcghaa
open Go Go.RowKit Go.Lib
namespace MM
theorem sub_numU (m q : Nat) : (if Good q then subm 0 m q else 0) = numU (-(m : Int)) q := by
  by_cases h : Good q
  · rw [if_pos h]
    have h1 := numU_int (n := -(m : Int)) h
    obtain ⟨k, hk⟩ := subm_int 0 m q h.1
    have h2 : subm 0 m q < q := Nat.mod_lt _ h.1
    have h3 : ((subm 0 m q : Nat) : Int) % (q : Int) = -(m : Int) % (q : Int) := by
      rw [hk]
      have : ((0 : Nat) : Int) - (m : Int) + (q : Int) * k = -(m : Int) + (q : Int) * k := by omega
      rw [this, Int.add_mul_emod_self_left]
    rw [Int.emod_eq_of_lt (by omega) (by omega)] at h3
    omega
  · rw [if_neg h, numU_bad h]
theorem add_numU (m q : Nat) : addU m 0 q = numU (m : Int) q := by
  by_cases h : Good q
  · rw [addU_of h, numU_nat h]; rfl
  · unfold addU; rw [if_neg h, numU_bad h]
end MM
namespace M
theorem fsub (a b m : Nat) : Ret 36 #[.int .u64 (a : Int), .int .u64 (b : Int), .int .u64 (m : Int)] (.int .u64 ((if MM.Good m then MM.subm a b m else 0 : Nat) : Int)) := by
  by_cases h : MM.Good m
  · rw [if_pos h]; exact ret_sub a b m _ h.1 h.2 rfl
  · rw [if_neg h]; exact ret_no_sub a b m (MM.good_not h)
set_option maxHeartbeats 1000000 in
theorem num_any (n : Int) (q : Nat) (hn : -9223372036854775808 ≤ n ∧ n ≤ 9223372036854775807) : Ret 11 #[.int .i64 n, .int .u64 (q : Int)] (.int .u64 ((MM.numU n q : Nat) : Int)) := by
  intro W
  by_cases h0 : n < 0
  · obtain ⟨m, hm⟩ : ∃ m : Nat, n = -(m : Int) := ⟨n.natAbs, by omega⟩
    have hw : IntKind.u64.wrap (wrap64 (-n)) = (m : Int) := by unfold wrap64; rw [IntKind.wrap_u64]; omega
    have H : Ret 36 #[.int .u64 0, .int .u64 (m : Int), .int .u64 (q : Int)] (.int .u64 ((if MM.Good q then MM.subm 0 m q else 0 : Nat) : Int)) := fsub 0 m q
    rw [MM.sub_numU, ← hm] at H
    generalize MM.numU n q = r at *
    clear hm
    go_enter Try.func11, Try.ntmps11
    go_wp2_with (go_at_call 36; (with_reducible refine (H.at _).mono ?_); rintro e w' ⟨rfl, nd, rfl⟩)
    go_ret
    exact ⟨rfl, _, rfl⟩
  · obtain ⟨m, rfl⟩ : ∃ m : Nat, n = (m : Int) := ⟨n.toNat, by omega⟩
    have hw : IntKind.u64.wrap (m : Int) = (m : Int) := IntWalk.u64_in _ (by omega)
    have H : Ret 34 #[.int .u64 (m : Int), .int .u64 0, .int .u64 (q : Int)] (.int .u64 ((MM.addU m 0 q : Nat) : Int)) := ret_addU m 0 q
    rw [MM.add_numU] at H
    generalize MM.numU (m : Int) q = r at *
    go_enter Try.func11, Try.ntmps11
    go_wp2_with (go_at_call 34; (with_reducible refine (H.at _).mono ?_); rintro e w' ⟨rfl, nd, rfl⟩)
    go_ret
    exact ⟨rfl, _, rfl⟩
set_option maxHeartbeats 1000000 in
theorem int_any (x q : Nat) (hq : q < 18446744073709551616) : Ret 12 #[.int .u64 (x : Int), .int .u64 (q : Int)] (.int .i64 (MM.intU x q)) := by
  intro W
  have H : Ret 34 #[.int .u64 (x : Int), .int .u64 0, .int .u64 (q : Int)] (.int .u64 ((MM.addU x 0 q : Nat) : Int)) := ret_addU x 0 q
  by_cases hg : MM.Good q
  · rw [MM.addU_of hg, Nat.add_zero] at H
    have hlt := Nat.mod_lt x hg.1
    have hg1 := hg.1
    have hg2 := hg.2
    have hI : MM.intU x q = if x % q ≤ (q - 1) / 2 then ((x % q : Nat) : Int) else ((x % q : Nat) : Int) - q := if_pos hg
    rw [hI]
    clear hI
    generalize x % q = y at *
    have hs : IntKind.u64.wrap ((q : Int) - 1) = ((q - 1 : Nat) : Int) := by rw [IntWalk.u64_in _ (by omega)]; omega
    have hwq : wrap64 (q : Int) = (q : Int) := IntWalk.wrap64_in _ (by omega)
    have hwy : wrap64 (y : Int) = (y : Int) := IntWalk.wrap64_in _ (by omega)
    generalize hh : q - 1 = h1 at *
    by_cases hc : y ≤ h1 / 2
    · rw [if_pos hc]
      go_enter Try.func12, Try.ntmps12
      go_wp2_with (go_at_call 34; (with_reducible refine (H.at _).mono ?_); rintro e w' ⟨rfl, nd, rfl⟩)
      go_ret
      exact ⟨rfl, _, rfl⟩
    · rw [if_neg hc]
      go_enter Try.func12, Try.ntmps12
      go_wp2_with (go_at_call 34; (with_reducible refine (H.at _).mono ?_); rintro e w' ⟨rfl, nd, rfl⟩)
      go_ret
      exact ⟨rfl, _, rfl⟩
  · have e : MM.addU x 0 q = 0 := by unfold MM.addU; rw [if_neg hg]
    have e2 : MM.intU x q = 0 := by unfold MM.intU; rw [if_neg hg]
    rw [e] at H
    rw [e2]
    obtain ⟨h1, hs⟩ : ∃ h1 : Nat, IntKind.u64.wrap ((q : Int) - 1) = (h1 : Int) := ⟨(IntKind.u64.wrap ((q : Int) - 1)).toNat, by rw [IntKind.wrap_u64]; omega⟩
    go_enter Try.func12, Try.ntmps12
    go_wp2_with (go_at_call 34; (with_reducible refine (H.at _).mono ?_); rintro e w' ⟨rfl, nd, rfl⟩)
    go_ret
    exact ⟨rfl, _, rfl⟩
end M
end Go.Proofs.Ytdblijpoelcghaa
