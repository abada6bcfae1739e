/- mod.Prime for every number; the examples (awake), which every statement of this layer asks; within; common. -/
import Derived.Test.YtojekblcdokjjaaDoorModW4
namespace Go.Proofs.YtojekblcdokjjaaDoor
open Go Go.RowKit Go.Lib
namespace MM
/-- What mod.Prime answers. -/
def primeOf (n : Nat) : Bool := primeB (Lib.ctz 64 (n - 1)) n
end MM
namespace M

theorem prime_out (n : Nat) (h : n < 2 ∨ 2305843009213693952 < n) (w : World) :
    Calls Tryd.prog 17 #[.int .u64 n] w fun e w' => e = .returned (.bool false) ∧ ∃ n, w' = w.drewN n := by
  rcases h with h | h
  · have h1d : decide ((n : Int) < 2) = true := decide_eq_true (by omega)
    have h1 : (n : Int) < 2 := by omega
    clear h
    go_enter Tryd.func17, Tryd.ntmps17
    go_wp2_with fail
    go_step3
    go_wp2_with fail
    try rw [Exit.noGoto_ret]
    go_ret
    exact ⟨rfl, ⟨0, rfl⟩⟩
  · have h1 : ¬ ((n : Int) < 2) := by omega
    have h1d : decide ((n : Int) < 2) = false := decide_eq_false h1
    have h2 : decide ((2305843009213693952 : Int) < (n : Int)) = true := decide_eq_true (by omega)
    clear h
    go_enter Tryd.func17, Tryd.ntmps17
    go_wp2_with fail
    go_step3
    go_wp2_with fail
    try rw [Exit.noGoto_ret]
    go_ret
    exact ⟨rfl, ⟨0, rfl⟩⟩

theorem prime_any (n : Nat) (w : World) (hl : Laid w) :
    Calls Tryd.prog 17 #[.int .u64 n] w fun e w' => e = .returned (.bool (MM.primeOf n)) ∧ ∃ n, w' = w.drewN n := by
  by_cases h : n < 2 ∨ 2305843009213693952 < n
  · have e : MM.primeOf n = false := by unfold MM.primeOf MM.primeB; rw [if_pos h]
    rw [e]; exact prime_out n h w
  · have e : MM.primeOf n = MM.primeL n ((n - 1) / 2 ^ Lib.ctz 64 (n - 1)) (Lib.ctz 64 (n - 1)) MM.wits := by unfold MM.primeOf MM.primeB; rw [if_neg h]
    have h0 : n - 1 ≠ 0 := by omega
    obtain ⟨_, hk⟩ := Lib.lowest_bit 64 (n - 1) h0 (by omega)
    have hc := tz_any (n - 1) (by omega) h0 w hl
    have e1 : ((n - 1 : Nat) : Int) = (n : Int) - 1 := by omega
    rw [e]
    rw [e1] at hc
    refine prime_core n _ _ (by omega) (by omega) hk ?_ ?_ w hl hc
    · rw [← e1, Int.natCast_ediv, Int.natCast_pow]; rfl
    · have := Nat.div_le_self (n - 1) (2 ^ Lib.ctz 64 (n - 1)); omega

theorem within_any (n : Nat) (w : World) :
    Calls Tryd.prog 24 #[.int .u64 n] w fun e w' => e = .returned (.int .u64 ((1 + n % 2305843009213693952 : Nat) : Int)) ∧ w = w' := by
  go_enter Tryd.func24, Tryd.ntmps24
  go_wp2_with fail
  go_ret
  exact ⟨congrArg Ending.returned (int_eq (by omega)), rfl⟩

set_option maxHeartbeats 400000 in
theorem common_any (a0 b0 : Nat) (w : World) :
    Calls Tryd.prog 25 #[.int .u64 a0, .int .u64 b0] w fun e w' => e = .returned (.int .u64 ((Nat.gcd a0 b0 : Nat) : Int)) ∧ ∃ n, w' = w.drewN n := by
  go_enter Tryd.func25, Tryd.ntmps25
  go_wp2_with fail
  go_loopw [0, 1] (fun s0 s1 wx => ∃ a b n : Nat, s0 = .int .u64 (a : Int) ∧ s1 = .int .u64 (b : Int) ∧ wx = w.drewN n ∧ Nat.gcd a b = Nat.gcd a0 b0) (fun _ s1 _ => (RowKit.intOf s1).toNat)
  case atStart => exact ⟨_, _, 0, rfl, rfl, rfl, rfl⟩
  case round =>
    obtain ⟨a, b, n, rfl, rfl, rfl, hg⟩ := hrel
    have HG := Lib.hid hg
    clear hg
    by_cases hb : b = 0
    · have hb' : ¬ ((0 : Int) < (b : Int)) := by omega
      have HB := Lib.hid hb
      clear hb
      go_wp2_with fail
      go_ret
      exact ⟨congrArg Ending.returned (int_eq (by rw [← HG.out, HB.out, Nat.gcd_zero_right])), ⟨_, rfl⟩⟩
    · have hb1 : (0 : Int) < (b : Int) := by omega
      have hb2 : 0 < b := by omega
      have HN := Lib.hid (show Nat.gcd b (a % b) = Nat.gcd a0 b0 by rw [← HG.out, Nat.gcd_comm, ← Nat.gcd_rec, Nat.gcd_comm])
      have HLT := Lib.hid (Nat.mod_lt a hb2)
      clear HG
      go_wp2_with fail
      go_quiet (fail)
      go_wp2_with fail
      go_roundw
      case rel => exact ⟨_, _, _, rfl, rfl, World.drewN_drewN _ _ _, HN.out⟩
      case measure => have := HLT.out; simp [RowKit.intOf]; omega

set_option maxHeartbeats 1000000 in
theorem awake_any (w : World) (hl : Laid w) :
    Calls Tryd.prog 11 #[] w fun e w' => e = .returned (.bool true) ∧ ∃ n, w' = w.drewN n := by
  have h1 : ∀ W : World, Calls Tryd.prog 12 #[.int .u64 7, .int .u64 11] W fun e w' => e = .returned (.tuple #[.int .u64 8, .int .i64 0]) ∧ ∃ n, w' = W.drewN n := fun W => by
    have h := inv_yes 7 11 (by omega) (by omega) (by decide) W
    rw [MM.invm_eq (a := 7) (m := 11) (x := 8) ⟨by decide, by decide⟩] at h
    exact h
  have h2 : ∀ W : World, Calls Tryd.prog 12 #[.int .u64 6, .int .u64 9] W fun e w' => e = .returned (.tuple #[.int .u64 0, .int .i64 5]) ∧ ∃ n, w' = W.drewN n := fun W => inv_none 6 9 (by omega) (by omega) (by decide) W
  have h3 : ∀ W : World, Calls Tryd.prog 13 #[.int .u64 5, .int .u64 9, .int .u64 11] W fun e w' => e = .returned (.int .u64 3) ∧ ∃ n, w' = W.drewN n := fun W => add_any 5 9 11 (by omega) (by omega) W
  have h4 : ∀ W : World, Calls Tryd.prog 14 #[.int .u64 2, .int .u64 5, .int .u64 11] W fun e w' => e = .returned (.int .u64 8) ∧ ∃ n, w' = W.drewN n := fun W => sub_any 2 5 11 (by omega) (by omega) W
  have h5 : ∀ W : World, Calls Tryd.prog 15 #[.int .u64 7, .int .u64 8, .int .u64 11] W fun e w' => e = .returned (.int .u64 1) ∧ ∃ n, w' = W.drewN n := fun W => mul_any 7 8 11 (by omega) (by omega) (by omega) (by omega) W
  have h6 : ∀ W : World, Calls Tryd.prog 16 #[.int .u64 2, .int .u64 10, .int .u64 11] W fun e w' => e = .returned (.int .u64 1) ∧ ∃ n, w' = W.drewN n := fun W => pow_core 2 10 11 (by omega) (by omega) (by omega) (by omega) W
  have h7 : ∀ W : World, Laid W → Calls Tryd.prog 17 #[.int .u64 97] W fun e w' => e = .returned (.bool true) ∧ ∃ n, w' = W.drewN n := fun W hW => by
    have h := prime_any 97 W hW
    rw [show MM.primeOf 97 = true by decide +kernel] at h
    exact h
  have h8 : ∀ W : World, Laid W → Calls Tryd.prog 17 #[.int .u64 561] W fun e w' => e = .returned (.bool false) ∧ ∃ n, w' = W.drewN n := fun W hW => by
    have h := prime_any 561 W hW
    rw [show MM.primeOf 561 = false by decide +kernel] at h
    exact h
  have H1 := Lib.hid h1
  have H2 := Lib.hid h2
  have H3 := Lib.hid h3
  have H4 := Lib.hid h4
  have H5 := Lib.hid h5
  have H6 := Lib.hid h6
  have H7 := Lib.hid h7
  have H8 := Lib.hid h8
  have HL := Lib.hid hl
  clear h1 h2 h3 h4 h5 h6 h7 h8 hl
  go_enter Tryd.func11, Tryd.ntmps11
  go_wp2_with (first
    | (go_at_call 12; first | ((with_reducible refine (H1.out _).mono ?_); rintro e w' ⟨rfl, n, rfl⟩) | ((with_reducible refine (H2.out _).mono ?_); rintro e w' ⟨rfl, n, rfl⟩))
    | (go_at_call 13; (with_reducible refine (H3.out _).mono ?_); rintro e w' ⟨rfl, n, rfl⟩)
    | (go_at_call 14; (with_reducible refine (H4.out _).mono ?_); rintro e w' ⟨rfl, n, rfl⟩)
    | (go_at_call 15; (with_reducible refine (H5.out _).mono ?_); rintro e w' ⟨rfl, n, rfl⟩)
    | (go_at_call 16; (with_reducible refine (H6.out _).mono ?_); rintro e w' ⟨rfl, n, rfl⟩)
    | (go_at_call 17; first | ((with_reducible refine (H7.out _ (HL.out.drewN _)).mono ?_); rintro e w' ⟨rfl, n, rfl⟩) | ((with_reducible refine (H8.out _ (HL.out.drewN _)).mono ?_); rintro e w' ⟨rfl, n, rfl⟩)))
  go_ret
  exact ⟨rfl, ⟨_, rfl⟩⟩

end M
end Go.Proofs.YtojekblcdokjjaaDoor
