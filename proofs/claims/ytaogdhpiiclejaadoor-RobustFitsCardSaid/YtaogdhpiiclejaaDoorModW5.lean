/- mod.Prime for every number: what it answers is the test of primes. -/
import Derived.Test.YtaogdhpiiclejaaDoorModW4
namespace Go.Proofs.YtaogdhpiiclejaaDoor
open Go Go.RowKit Go.Lib
namespace MM
/-- What mod.Prime answers. -/
def primeOf (n : Nat) : Bool := primeB (Lib.ctz 64 (n - 1)) n
end MM
namespace M

theorem prime_out (n : Nat) (h : n < 2 ∨ 2305843009213693952 < n) (w : World) :
    Calls Tryd.prog 11 #[.int .u64 n] w fun e w' => e = .returned (.bool false) ∧ ∃ n, w' = w.drewN n := by
  rcases h with h | h
  · have h1d : decide ((n : Int) < 2) = true := decide_eq_true (by omega)
    have h1 : (n : Int) < 2 := by omega
    clear h
    go_enter Tryd.func11, Tryd.ntmps11
    go_wp2_with fail
    go_step3
    go_wp2_with fail
    try rw [Exit.noGoto_ret]
    go_ret
    exact ⟨rfl, ⟨0, rfl⟩⟩
  · have h1 : ¬ ((n : Int) < 2) := by omega
    have h1d : decide ((n : Int) < 2) = false := decide_eq_false h1
    have h2 : decide ((2305843009213693952 : Int) < (n : Int)) = true := decide_eq_true (by omega)
    clear h
    go_enter Tryd.func11, Tryd.ntmps11
    go_wp2_with fail
    go_step3
    go_wp2_with fail
    try rw [Exit.noGoto_ret]
    go_ret
    exact ⟨rfl, ⟨0, rfl⟩⟩

theorem prime_any (n : Nat) (w : World) (hl : Laid w) :
    Calls Tryd.prog 11 #[.int .u64 n] w fun e w' => e = .returned (.bool (MM.primeOf n)) ∧ ∃ n, w' = w.drewN n := by
  by_cases h : n < 2 ∨ 2305843009213693952 < n
  · have e : MM.primeOf n = false := by unfold MM.primeOf MM.primeB; rw [if_pos h]
    rw [e]; exact prime_out n h w
  · have e : MM.primeOf n = MM.primeL n ((n - 1) / 2 ^ Lib.ctz 64 (n - 1)) (Lib.ctz 64 (n - 1)) MM.wits := by unfold MM.primeOf MM.primeB; rw [if_neg h]
    have h0 : n - 1 ≠ 0 := by omega
    obtain ⟨_, hk⟩ := Lib.lowest_bit 64 (n - 1) h0 (by omega)
    have hc := tz_any (n - 1) (by omega) h0 w hl
    have e1 : ((n - 1 : Nat) : Int) = (n : Int) - 1 := by omega
    rw [e]
    rw [e1] at hc
    refine prime_core n _ _ (by omega) (by omega) hk ?_ ?_ w hl hc
    · rw [← e1, Int.natCast_ediv, Int.natCast_pow]; rfl
    · have := Nat.div_le_self (n - 1) (2 ^ Lib.ctz 64 (n - 1)); omega

end M
end Go.Proofs.YtaogdhpiiclejaaDoor
