/- The walks of the document's own Add and Mul (consistoryref01): the sum and the product modulo m, for m from 1 to 2^61; for any other m 0. -/
import Derived.Test.YtdblijpoelcghaaModRet
import Derived.Test.YtdblijpoelcghaaModMath5
namespace Go.Proofs.Ytdblijpoelcghaa
open Go.ChangeShapes Go.WideShapes Go.ChangeAt Go.RowKit Go.Lib
namespace M

theorem radd_core (a b m s r : Nat) (hm : 0 < m) (hm0 : ((m : Int) == 0) = false) (hmb : decide ((2305843009213693952 : Int) < (m : Int)) = false)
    (hs : IntKind.u64.wrap ((a : Int) % (m : Int) + (b : Int) % (m : Int)) = (s : Int)) (hrw : IntKind.u64.wrap (r : Int) = (r : Int)) (hc : (m ≤ s ∧ r = s - m) ∨ (s < m ∧ r = s)) :
    Ret 43 #[.int .u64 (a : Int), .int .u64 (b : Int), .int .u64 (m : Int)] (.int .u64 (r : Int)) := by
  intro w
  rcases hc with ⟨h, e⟩ | ⟨h, e⟩
  · have e' : (s : Int) - (m : Int) = (r : Int) := by omega
    clear e
    have hle : (m : Int) ≤ (s : Int) := by omega
    go_enter Try.func43, Try.ntmps43
    go_wp2_with fail
    go_quiet (fail)
    go_wp2_with fail
    go_ret
    exact ⟨rfl, ⟨_, rfl⟩⟩
  · subst e
    have hle : ¬ ((m : Int) ≤ (r : Int)) := by omega
    go_enter Try.func43, Try.ntmps43
    go_wp2_with fail
    go_quiet (fail)
    go_wp2_with fail
    go_ret
    exact ⟨rfl, ⟨_, rfl⟩⟩

theorem radd_no (a b m : Nat) (h : m = 0 ∨ 2305843009213693952 < m) :
    Ret 43 #[.int .u64 (a : Int), .int .u64 (b : Int), .int .u64 (m : Int)] (.int .u64 0) := by
  intro w
  rcases h with rfl | h
  · go_enter Try.func43, Try.ntmps43
    go_wp2_with fail
    go_ret
    exact ⟨rfl, ⟨0, rfl⟩⟩
  · have hm0 : ((m : Int) == 0) = false := by simp; omega
    have hmb : decide ((2305843009213693952 : Int) < (m : Int)) = true := decide_eq_true (by omega)
    clear h
    go_enter Try.func43, Try.ntmps43
    go_wp2_with fail
    go_ret
    exact ⟨rfl, ⟨0, rfl⟩⟩


theorem bad_or (m : Nat) : (m = 0 ∨ 2305843009213693952 < m) ∨ (0 < m ∧ m ≤ 2305843009213693952) := by omega
theorem good_eql (m : Nat) (hm : 0 < m) : ((m : Int) == 0) = false := by simp; omega

theorem radd (a b m r : Nat) (hm : 0 < m) (hb : m ≤ 2305843009213693952) (h : (a + b) % m = r) :
    Ret 43 #[.int .u64 (a : Int), .int .u64 (b : Int), .int .u64 (m : Int)] (.int .u64 (r : Int)) := by
  have h1 := Nat.mod_lt a hm
  have h2 := Nat.mod_lt b hm
  have h3 := Nat.mod_lt (a + b) hm
  refine radd_core a b m (a % m + b % m) r hm (good_eql m hm) (decide_eq_false (by omega)) ?_ (wrapN _ (by omega)) ?_
  · rw [← Int.natCast_emod, ← Int.natCast_emod, addN, wrapN _ (by omega)]
  · rw [← h, Nat.add_mod]
    by_cases hlt : a % m + b % m < m
    · exact .inr ⟨hlt, Nat.mod_eq_of_lt hlt⟩
    · exact .inl ⟨by omega, by rw [Nat.mod_eq_sub_mod (by omega), Nat.mod_eq_of_lt (by omega)]⟩

set_option maxHeartbeats 400000 in
/-- The doubling, over whatever the document's Add answers. -/
theorem rmul_core (m r : Nat) (f : Nat → Nat → Nat) (hA : ∀ x y : Nat, Ret 43 #[.int .u64 (x : Int), .int .u64 (y : Int), .int .u64 (m : Int)] (.int .u64 ((f x y : Nat) : Int)))
    (P : Nat → Nat → Nat → Prop) (hodd : ∀ o a b, P o a b → b % 2 = 1 → P (f o a) (f a a) (b / 2)) (heven : ∀ o a b, P o a b → b % 2 = 0 → P o (f a a) (b / 2)) (hend : ∀ o a, P o a 0 → o = r)
    (a0 b0 : Nat) (hb0 : b0 < 18446744073709551616) (h0 : P 0 a0 b0) :
    Ret 44 #[.int .u64 (a0 : Int), .int .u64 (b0 : Int), .int .u64 (m : Int)] (.int .u64 (r : Int)) := by
  intro w
  have HA := Lib.hid hA
  have HO := Lib.hid hodd
  have HE := Lib.hid heven
  have HN := Lib.hid hend
  have H0 := Lib.hid h0
  have HB := Lib.hid hb0
  clear hA hodd heven hend h0 hb0
  go_enter Try.func44, Try.ntmps44
  go_wp2_with fail
  go_loopw [0, 1, 7] (fun s0 s1 s7 wx => ∃ a b o n : Nat, s0 = .int .u64 (a : Int) ∧ s1 = .int .u64 (b : Int) ∧ s7 = .int .u64 (o : Int) ∧ wx = w.drewN n ∧ Hid (b < 18446744073709551616) ∧ Hid (P o a b)) (fun _ s1 _ _ => (RowKit.intOf s1).toNat)
  case atStart => exact ⟨_, _, 0, 0, rfl, rfl, rfl, rfl, HB, H0⟩
  case round =>
    obtain ⟨a, b, o, n, rfl, rfl, rfl, rfl, Hb, HP⟩ := hrel
    by_cases h0 : b = 0
    · have h0' : ¬ ((0 : Int) < (b : Int)) := by omega
      have HZ := Lib.hid h0
      clear h0
      go_wp2_with fail
      go_ret
      refine ⟨congrArg Ending.returned (int_eq ?_), ⟨_, rfl⟩⟩
      have h := HP.out
      rw [HZ.out] at h
      rw [HN.out _ _ h]
    · have h1 : (0 : Int) < (b : Int) := by omega
      have Hb2 : Hid (b / 2 < 18446744073709551616) := by have := Hb.out; show b / 2 < _; omega
      have HLT : Hid (b / 2 < b) := by show b / 2 < b; omega
      rcases Nat.mod_two_eq_zero_or_one b with h2 | h2
      · have hb1 : (((b : Int) % 2) == 1) = false := by simp; omega
        have HNX := Lib.hid (HE.out _ _ _ HP.out h2)
        obtain ⟨b2, hb2⟩ : ∃ b2, b / 2 = b2 := ⟨_, rfl⟩
        have q1 : (b : Int) / 2 = (b2 : Int) := by omega
        have q2 : IntKind.u64.wrap (b2 : Int) = (b2 : Int) := wrapN _ (by have := Hb2.out; omega)
        rw [hb2] at HNX Hb2 HLT
        obtain ⟨a2, ha2⟩ : ∃ a2, f a a = a2 := ⟨_, rfl⟩
        have HAa := HA.out a a
        rw [ha2] at HNX HAa
        clear h2 hb2 ha2
        go_wp2_with (go_at_call 43; (with_reducible refine (HAa.at _).mono ?_); rintro e w' ⟨rfl, n, rfl⟩)
        go_roundw
        case rel => exact ⟨_, _, _, _, rfl, rfl, rfl, rfl, Hb2, HNX⟩
        case measure => have := HLT.out; simp [RowKit.intOf]; omega
      · have hb1 : (((b : Int) % 2) == 1) = true := by simp; omega
        have HNX := Lib.hid (HO.out _ _ _ HP.out h2)
        obtain ⟨b2, hb2⟩ : ∃ b2, b / 2 = b2 := ⟨_, rfl⟩
        have q1 : (b : Int) / 2 = (b2 : Int) := by omega
        have q2 : IntKind.u64.wrap (b2 : Int) = (b2 : Int) := wrapN _ (by have := Hb2.out; omega)
        rw [hb2] at HNX Hb2 HLT
        obtain ⟨a2, ha2⟩ : ∃ a2, f a a = a2 := ⟨_, rfl⟩
        obtain ⟨o2, ho2⟩ : ∃ o2, f o a = o2 := ⟨_, rfl⟩
        have HAa := HA.out a a
        have HAo := HA.out o a
        rw [ha2] at HNX HAa
        rw [ho2] at HNX HAo
        clear h2 hb2 ha2 ho2
        go_wp2_with (go_at_call 43; first | ((with_reducible refine (HAo.at _).mono ?_); rintro e w' ⟨rfl, n, rfl⟩) | ((with_reducible refine (HAa.at _).mono ?_); rintro e w' ⟨rfl, n, rfl⟩))
        go_roundw
        case rel => exact ⟨_, _, _, _, rfl, rfl, rfl, rfl, Hb2, HNX⟩
        case measure => have := HLT.out; simp [RowKit.intOf]; omega

theorem rmul (a b m r : Nat) (hm : 0 < m) (hb : m ≤ 2305843009213693952) (hb' : b < 18446744073709551616) (h : a * b % m = r) :
    Ret 44 #[.int .u64 (a : Int), .int .u64 (b : Int), .int .u64 (m : Int)] (.int .u64 (r : Int)) := by
  refine rmul_core m r (fun x y => (x + y) % m) (fun x y => radd x y m _ hm hb rfl) (fun o x y => o < m ∧ (o + x * y) % m = r) ?_ ?_ ?_ a b hb' ⟨hm, by rw [Nat.zero_add, h]⟩
  · rintro o x y ⟨h1, h2⟩ hy
    refine ⟨Nat.mod_lt _ hm, ?_⟩
    rw [← h2, Nat.mod_add_mod, ← Nat.add_mod_mod (o + x), MM.mul_mod_left', Nat.add_mod_mod, Nat.add_assoc]
    congr 2
    have e : y = 2 * (y / 2) + 1 := by omega
    conv => rhs; rw [e]
    rw [Nat.mul_add, Nat.mul_one, ← Nat.mul_assoc, show (x + x) = x * 2 by omega]; omega
  · rintro o x y ⟨h1, h2⟩ hy
    refine ⟨h1, ?_⟩
    rw [← h2, ← Nat.add_mod_mod o, MM.mul_mod_left', Nat.add_mod_mod]
    congr 2
    have e : y = 2 * (y / 2) := by omega
    conv => rhs; rw [e]
    rw [← Nat.mul_assoc, show (x + x) = x * 2 by omega]
  · rintro o x ⟨h1, h2⟩
    rw [Nat.mul_zero, Nat.add_zero, Nat.mod_eq_of_lt h1] at h2
    exact h2

theorem rmul_no (a b m : Nat) (h : m = 0 ∨ 2305843009213693952 < m) (hb' : b < 18446744073709551616) :
    Ret 44 #[.int .u64 (a : Int), .int .u64 (b : Int), .int .u64 (m : Int)] (.int .u64 0) :=
  rmul_core m 0 (fun _ _ => 0) (fun x y => radd_no x y m h) (fun o _ _ => o = 0) (fun _ _ _ _ _ => rfl) (fun _ _ _ e _ => e) (fun _ _ e => e) a b hb' rfl

end M
end Go.Proofs.Ytdblijpoelcghaa
