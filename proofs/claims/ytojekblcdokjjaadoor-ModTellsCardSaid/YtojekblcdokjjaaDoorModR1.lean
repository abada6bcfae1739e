/- The walks of the document's own Add, Sub, Mul and Pow (consistoryref01): what they answer is the sum, the difference, the product and the power modulo m, for m from 1 to 2^61; for any other m 0. -/
import Derived.Test.YtojekblcdokjjaaDoorModRet
import Derived.Test.YtojekblcdokjjaaDoorModMath5
namespace Go.Proofs.YtojekblcdokjjaaDoor
open Go.ChangeShapes Go.WideShapes Go.ChangeAt Go.RowKit Go.Lib
namespace M

theorem radd_core (a b m s r : Nat) (hm : 0 < m) (hm0 : ((m : Int) == 0) = false) (hmb : decide ((2305843009213693952 : Int) < (m : Int)) = false)
    (hs : IntKind.u64.wrap ((a : Int) % (m : Int) + (b : Int) % (m : Int)) = (s : Int)) (hrw : IntKind.u64.wrap (r : Int) = (r : Int)) (hc : (m ≤ s ∧ r = s - m) ∨ (s < m ∧ r = s)) :
    Ret 19 #[.int .u64 (a : Int), .int .u64 (b : Int), .int .u64 (m : Int)] (.int .u64 (r : Int)) := by
  intro w
  rcases hc with ⟨h, e⟩ | ⟨h, e⟩
  · have e' : (s : Int) - (m : Int) = (r : Int) := by omega
    clear e
    have hle : (m : Int) ≤ (s : Int) := by omega
    go_enter Tryd.func19, Tryd.ntmps19
    go_wp2_with fail
    go_quiet (fail)
    go_wp2_with fail
    go_ret
    exact ⟨rfl, ⟨_, rfl⟩⟩
  · subst e
    have hle : ¬ ((m : Int) ≤ (r : Int)) := by omega
    go_enter Tryd.func19, Tryd.ntmps19
    go_wp2_with fail
    go_quiet (fail)
    go_wp2_with fail
    go_ret
    exact ⟨rfl, ⟨_, rfl⟩⟩

theorem rno_core (f : Nat) (hf : f = 19 ∨ f = 20) (a b m : Nat) (h : m = 0 ∨ 2305843009213693952 < m) :
    Ret f #[.int .u64 (a : Int), .int .u64 (b : Int), .int .u64 (m : Int)] (.int .u64 0) := by
  intro w
  rcases hf with rfl | rfl
  · rcases h with rfl | h
    · go_enter Tryd.func19, Tryd.ntmps19
      go_wp2_with fail
      go_ret
      exact ⟨rfl, ⟨0, rfl⟩⟩
    · have hm0 : ((m : Int) == 0) = false := by simp; omega
      have hmb : decide ((2305843009213693952 : Int) < (m : Int)) = true := decide_eq_true (by omega)
      clear h
      go_enter Tryd.func19, Tryd.ntmps19
      go_wp2_with fail
      go_ret
      exact ⟨rfl, ⟨0, rfl⟩⟩
  · rcases h with rfl | h
    · go_enter Tryd.func20, Tryd.ntmps20
      go_wp2_with fail
      go_ret
      exact ⟨rfl, ⟨0, rfl⟩⟩
    · have hm0 : ((m : Int) == 0) = false := by simp; omega
      have hmb : decide ((2305843009213693952 : Int) < (m : Int)) = true := decide_eq_true (by omega)
      clear h
      go_enter Tryd.func20, Tryd.ntmps20
      go_wp2_with fail
      go_ret
      exact ⟨rfl, ⟨0, rfl⟩⟩

theorem rsub_core (a b m x y r : Nat) (hm : 0 < m) (hm0 : ((m : Int) == 0) = false) (hmb : decide ((2305843009213693952 : Int) < (m : Int)) = false)
    (hx : (a : Int) % (m : Int) = (x : Int)) (hy : (b : Int) % (m : Int) = (y : Int))
    (hc : (y ≤ x ∧ IntKind.u64.wrap ((x : Int) - (y : Int)) = (r : Int)) ∨ (x < y ∧ IntKind.u64.wrap ((m : Int) - IntKind.u64.wrap ((y : Int) - (x : Int))) = (r : Int))) :
    Ret 20 #[.int .u64 (a : Int), .int .u64 (b : Int), .int .u64 (m : Int)] (.int .u64 (r : Int)) := by
  intro w
  rcases hc with ⟨h, e⟩ | ⟨h, e⟩
  · have hle : (y : Int) ≤ (x : Int) := by omega
    go_enter Tryd.func20, Tryd.ntmps20
    go_wp2_with fail
    go_quiet (fail)
    go_wp2_with fail
    go_quiet (fail)
    go_wp2_with fail
    go_ret
    exact ⟨rfl, ⟨_, World.drewN_drewN _ _ _⟩⟩
  · have hle : ¬ ((y : Int) ≤ (x : Int)) := by omega
    go_enter Tryd.func20, Tryd.ntmps20
    go_wp2_with fail
    go_quiet (fail)
    go_wp2_with fail
    go_quiet (fail)
    go_wp2_with fail
    go_ret
    exact ⟨rfl, ⟨_, World.drewN_drewN _ _ _⟩⟩

theorem bad_or (m : Nat) : (m = 0 ∨ 2305843009213693952 < m) ∨ (0 < m ∧ m ≤ 2305843009213693952) := by omega
theorem good_eql (m : Nat) (hm : 0 < m) : ((m : Int) == 0) = false := by simp; omega

theorem radd (a b m r : Nat) (hm : 0 < m) (hb : m ≤ 2305843009213693952) (h : (a + b) % m = r) :
    Ret 19 #[.int .u64 (a : Int), .int .u64 (b : Int), .int .u64 (m : Int)] (.int .u64 (r : Int)) := by
  have h1 := Nat.mod_lt a hm
  have h2 := Nat.mod_lt b hm
  have h3 := Nat.mod_lt (a + b) hm
  refine radd_core a b m (a % m + b % m) r hm (good_eql m hm) (decide_eq_false (by omega)) ?_ (wrapN _ (by omega)) ?_
  · rw [← Int.natCast_emod, ← Int.natCast_emod, addN, wrapN _ (by omega)]
  · rw [← h, Nat.add_mod]
    by_cases hlt : a % m + b % m < m
    · exact .inr ⟨hlt, Nat.mod_eq_of_lt hlt⟩
    · exact .inl ⟨by omega, by rw [Nat.mod_eq_sub_mod (by omega), Nat.mod_eq_of_lt (by omega)]⟩

theorem sub_val1 (x y m : Nat) (hx : x < m) (h : y ≤ x) : (x + m - y) % m = x - y := by
  rw [show x + m - y = (x - y) + m by omega, Nat.add_mod_right, Nat.mod_eq_of_lt (by omega)]
theorem sub_val2 (x y m : Nat) (hy : y < m) (h : x < y) : (x + m - y) % m = m - (y - x) := by
  rw [Nat.mod_eq_of_lt (by omega)]; omega

theorem rsub (a b m r : Nat) (hm : 0 < m) (hb : m ≤ 2305843009213693952) (h : MM.subm a b m = r) :
    Ret 20 #[.int .u64 (a : Int), .int .u64 (b : Int), .int .u64 (m : Int)] (.int .u64 (r : Int)) := by
  have h1 := Nat.mod_lt a hm
  have h2 := Nat.mod_lt b hm
  refine rsub_core a b m (a % m) (b % m) r hm (good_eql m hm) (decide_eq_false (by omega)) (Int.natCast_emod a m).symm (Int.natCast_emod b m).symm ?_
  rw [← h]
  unfold MM.subm
  by_cases hlt : b % m ≤ a % m
  · refine .inl ⟨hlt, ?_⟩
    rw [← Int.ofNat_sub hlt, wrapN _ (by omega), sub_val1 _ _ _ h1 hlt]
  · refine .inr ⟨by omega, ?_⟩
    rw [← Int.ofNat_sub (by omega), wrapN _ (by omega), ← Int.ofNat_sub (by omega), wrapN _ (by omega), sub_val2 _ _ _ h2 (by omega)]

set_option maxHeartbeats 400000 in
/-- The doubling, over whatever the document's Add answers. -/
theorem rmul_core (m r : Nat) (f : Nat → Nat → Nat) (hA : ∀ x y : Nat, Ret 19 #[.int .u64 (x : Int), .int .u64 (y : Int), .int .u64 (m : Int)] (.int .u64 ((f x y : Nat) : Int)))
    (P : Nat → Nat → Nat → Prop) (hodd : ∀ o a b, P o a b → b % 2 = 1 → P (f o a) (f a a) (b / 2)) (heven : ∀ o a b, P o a b → b % 2 = 0 → P o (f a a) (b / 2)) (hend : ∀ o a, P o a 0 → o = r)
    (a0 b0 : Nat) (hb0 : b0 < 18446744073709551616) (h0 : P 0 a0 b0) :
    Ret 21 #[.int .u64 (a0 : Int), .int .u64 (b0 : Int), .int .u64 (m : Int)] (.int .u64 (r : Int)) := by
  intro w
  have HA := Lib.hid hA
  have HO := Lib.hid hodd
  have HE := Lib.hid heven
  have HN := Lib.hid hend
  have H0 := Lib.hid h0
  have HB := Lib.hid hb0
  clear hA hodd heven hend h0 hb0
  go_enter Tryd.func21, Tryd.ntmps21
  go_wp2_with fail
  go_loopw [0, 1, 7] (fun s0 s1 s7 wx => ∃ a b o n : Nat, s0 = .int .u64 (a : Int) ∧ s1 = .int .u64 (b : Int) ∧ s7 = .int .u64 (o : Int) ∧ wx = w.drewN n ∧ Hid (b < 18446744073709551616) ∧ Hid (P o a b)) (fun _ s1 _ _ => (RowKit.intOf s1).toNat)
  case atStart => exact ⟨_, _, 0, 0, rfl, rfl, rfl, rfl, HB, H0⟩
  case round =>
    obtain ⟨a, b, o, n, rfl, rfl, rfl, rfl, Hb, HP⟩ := hrel
    by_cases h0 : b = 0
    · have h0' : ¬ ((0 : Int) < (b : Int)) := by omega
      have HZ := Lib.hid h0
      clear h0
      go_wp2_with fail
      go_ret
      refine ⟨congrArg Ending.returned (int_eq ?_), ⟨_, rfl⟩⟩
      have h := HP.out
      rw [HZ.out] at h
      rw [HN.out _ _ h]
    · have h1 : (0 : Int) < (b : Int) := by omega
      have Hb2 : Hid (b / 2 < 18446744073709551616) := by have := Hb.out; show b / 2 < _; omega
      have HLT : Hid (b / 2 < b) := by show b / 2 < b; omega
      rcases Nat.mod_two_eq_zero_or_one b with h2 | h2
      · have hb1 : (((b : Int) % 2) == 1) = false := by simp; omega
        have HNX := Lib.hid (HE.out _ _ _ HP.out h2)
        obtain ⟨b2, hb2⟩ : ∃ b2, b / 2 = b2 := ⟨_, rfl⟩
        have q1 : (b : Int) / 2 = (b2 : Int) := by omega
        have q2 : IntKind.u64.wrap (b2 : Int) = (b2 : Int) := wrapN _ (by have := Hb2.out; omega)
        rw [hb2] at HNX Hb2 HLT
        obtain ⟨a2, ha2⟩ : ∃ a2, f a a = a2 := ⟨_, rfl⟩
        have HAa := HA.out a a
        rw [ha2] at HNX HAa
        clear h2 hb2 ha2
        go_wp2_with (go_at_call 19; (with_reducible refine (HAa.at _).mono ?_); rintro e w' ⟨rfl, n, rfl⟩)
        go_roundw
        case rel => exact ⟨_, _, _, _, rfl, rfl, rfl, rfl, Hb2, HNX⟩
        case measure => have := HLT.out; simp [RowKit.intOf]; omega
      · have hb1 : (((b : Int) % 2) == 1) = true := by simp; omega
        have HNX := Lib.hid (HO.out _ _ _ HP.out h2)
        obtain ⟨b2, hb2⟩ : ∃ b2, b / 2 = b2 := ⟨_, rfl⟩
        have q1 : (b : Int) / 2 = (b2 : Int) := by omega
        have q2 : IntKind.u64.wrap (b2 : Int) = (b2 : Int) := wrapN _ (by have := Hb2.out; omega)
        rw [hb2] at HNX Hb2 HLT
        obtain ⟨a2, ha2⟩ : ∃ a2, f a a = a2 := ⟨_, rfl⟩
        obtain ⟨o2, ho2⟩ : ∃ o2, f o a = o2 := ⟨_, rfl⟩
        have HAa := HA.out a a
        have HAo := HA.out o a
        rw [ha2] at HNX HAa
        rw [ho2] at HNX HAo
        clear h2 hb2 ha2 ho2
        go_wp2_with (go_at_call 19; first | ((with_reducible refine (HAo.at _).mono ?_); rintro e w' ⟨rfl, n, rfl⟩) | ((with_reducible refine (HAa.at _).mono ?_); rintro e w' ⟨rfl, n, rfl⟩))
        go_roundw
        case rel => exact ⟨_, _, _, _, rfl, rfl, rfl, rfl, Hb2, HNX⟩
        case measure => have := HLT.out; simp [RowKit.intOf]; omega

theorem rmul (a b m r : Nat) (hm : 0 < m) (hb : m ≤ 2305843009213693952) (hb' : b < 18446744073709551616) (h : a * b % m = r) :
    Ret 21 #[.int .u64 (a : Int), .int .u64 (b : Int), .int .u64 (m : Int)] (.int .u64 (r : Int)) := by
  refine rmul_core m r (fun x y => (x + y) % m) (fun x y => radd x y m _ hm hb rfl) (fun o x y => o < m ∧ (o + x * y) % m = r) ?_ ?_ ?_ a b hb' ⟨hm, by rw [Nat.zero_add, h]⟩
  · rintro o x y ⟨h1, h2⟩ hy
    refine ⟨Nat.mod_lt _ hm, ?_⟩
    rw [← h2, Nat.mod_add_mod, ← Nat.add_mod_mod (o + x), MM.mul_mod_left', Nat.add_mod_mod, Nat.add_assoc]
    congr 2
    have e : y = 2 * (y / 2) + 1 := by omega
    conv => rhs; rw [e]
    rw [Nat.mul_add, Nat.mul_one, ← Nat.mul_assoc, show (x + x) = x * 2 by omega]; omega
  · rintro o x y ⟨h1, h2⟩ hy
    refine ⟨h1, ?_⟩
    rw [← h2, ← Nat.add_mod_mod o, MM.mul_mod_left', Nat.add_mod_mod]
    congr 2
    have e : y = 2 * (y / 2) := by omega
    conv => rhs; rw [e]
    rw [← Nat.mul_assoc, show (x + x) = x * 2 by omega]
  · rintro o x ⟨h1, h2⟩
    rw [Nat.mul_zero, Nat.add_zero, Nat.mod_eq_of_lt h1] at h2
    exact h2

theorem rmul_no (a b m : Nat) (h : m = 0 ∨ 2305843009213693952 < m) (hb' : b < 18446744073709551616) :
    Ret 21 #[.int .u64 (a : Int), .int .u64 (b : Int), .int .u64 (m : Int)] (.int .u64 0) :=
  rmul_core m 0 (fun _ _ => 0) (fun x y => rno_core _ (.inl rfl) x y m h) (fun o _ _ => o = 0) (fun _ _ _ _ _ => rfl) (fun _ _ _ e _ => e) (fun _ _ e => e) a b hb' rfl

set_option maxHeartbeats 400000 in
/-- The power, over whatever the document's Mul and Add answer. -/
theorem rpow_core (a m : Nat) (g : Nat → Nat) (fM : Nat → Nat → Nat)
    (hA : Ret 19 #[.int .u64 1, .int .u64 0, .int .u64 (m : Int)] (.int .u64 ((g 0 : Nat) : Int)))
    (hM : ∀ x y : Nat, y < 18446744073709551616 → Ret 21 #[.int .u64 (x : Int), .int .u64 (y : Int), .int .u64 (m : Int)] (.int .u64 ((fM x y : Nat) : Int)))
    (ha : a < 18446744073709551616) (hg : ∀ e, g e < 18446744073709551616)
    (hE : ∀ e, 0 < e → e % 2 = 0 → fM (g (e / 2)) (g (e / 2)) = g e) (hO : ∀ e, e % 2 = 1 → fM (fM (g (e / 2)) (g (e / 2))) a = g e) :
    ∀ k e : Nat, e < 2 ^ k → e < 18446744073709551616 → Ret 22 #[.int .u64 (a : Int), .int .u64 (e : Int), .int .u64 (m : Int)] (.int .u64 ((g e : Nat) : Int)) := by
  have zero : Ret 22 #[.int .u64 (a : Int), .int .u64 0, .int .u64 (m : Int)] (.int .u64 ((g 0 : Nat) : Int)) := by
    intro w
    clear hM hE hO hg ha
    generalize g 0 = g0 at *
    go_enter Tryd.func22, Tryd.ntmps22
    go_wp2_with (go_at_call 19; (with_reducible refine (hA.at _).mono ?_); rintro e w' ⟨rfl, n, rfl⟩)
    go_ret
    exact ⟨rfl, ⟨_, rfl⟩⟩
  intro k
  induction k with
  | zero =>
    intro e he _
    obtain rfl : e = 0 := by simp at he; exact he
    exact zero
  | succ k ih =>
    intro e he he64
    rcases Nat.eq_zero_or_pos e with rfl | hpos
    · exact zero
    · have hrec := ih (e / 2) (by rw [Nat.pow_succ] at he; omega) (by omega)
      intro w
      have h1 := hM (g (e / 2)) (g (e / 2)) (hg _)
      have h2 := hM (fM (g (e / 2)) (g (e / 2))) a ha
      have e0 : ((e : Int) == 0) = false := by simp; omega
      obtain ⟨e2, he2⟩ : ∃ e2, e / 2 = e2 := ⟨_, rfl⟩
      have q1 : (e : Int) / 2 = (e2 : Int) := by omega
      have q2 : IntKind.u64.wrap (e2 : Int) = (e2 : Int) := wrapN _ (by omega)
      have hE' := hE e hpos
      have hO' := hO e
      rw [he2] at hrec h1 h2 hE' hO'
      clear hM hE hO hg ha zero ih he hA he64
      generalize g e2 = x at *
      generalize fM x x = y at *
      generalize fM y a = z at *
      generalize g e = r at *
      rcases Nat.mod_two_eq_zero_or_one e with hp | hp
      · have hb1 : (((e : Int) % 2) == 1) = false := by simp; omega
        obtain rfl := hE' hp
        clear hE' hO' hp he2 hpos
        go_enter Tryd.func22, Tryd.ntmps22
        go_wp2_with (first | (go_at_call 22; (with_reducible refine (hrec.at _).mono ?_); rintro e w' ⟨rfl, n, rfl⟩) | (go_at_call 21; (with_reducible refine (h1.at _).mono ?_); rintro e w' ⟨rfl, n, rfl⟩))
        go_ret
        exact ⟨rfl, ⟨_, rfl⟩⟩
      · have hb1 : (((e : Int) % 2) == 1) = true := by simp; omega
        obtain rfl := hO' hp
        clear hE' hO' hp he2 hpos
        go_enter Tryd.func22, Tryd.ntmps22
        go_wp2_with (first | (go_at_call 22; (with_reducible refine (hrec.at _).mono ?_); rintro e w' ⟨rfl, n, rfl⟩) | (go_at_call 21; first | ((with_reducible refine (h1.at _).mono ?_); rintro e w' ⟨rfl, n, rfl⟩) | ((with_reducible refine (h2.at _).mono ?_); rintro e w' ⟨rfl, n, rfl⟩)))
        go_ret
        exact ⟨rfl, ⟨_, rfl⟩⟩

theorem rpow (a e m r : Nat) (hm : 0 < m) (hb : m ≤ 2305843009213693952) (ha : a < 18446744073709551616) (he : e < 18446744073709551616) (h : MM.powm a e m = r) :
    Ret 22 #[.int .u64 (a : Int), .int .u64 (e : Int), .int .u64 (m : Int)] (.int .u64 (r : Int)) := by
  rw [← h]
  refine rpow_core a m (fun e => MM.powm a e m) (fun x y => x * y % m) (radd 1 0 m _ hm hb (by unfold MM.powm; rw [Nat.pow_zero])) (fun x y hy => rmul x y m _ hm hb hy rfl) ha
    (fun e => by have := Nat.mod_lt (a ^ e) hm; show a ^ e % m < _; omega) ?_ ?_ 64 e he he
  · intro e _ h2
    show MM.powm a (e / 2) m * MM.powm a (e / 2) m % m = MM.powm a e m
    unfold MM.powm
    rw [← Nat.mul_mod, ← Nat.pow_add, show e / 2 + e / 2 = e by omega]
  · intro e h2
    show (MM.powm a (e / 2) m * MM.powm a (e / 2) m % m) * a % m = MM.powm a e m
    unfold MM.powm
    rw [← Nat.mul_mod, ← Nat.pow_add, MM.mul_mod_left', ← Nat.pow_succ, show (e / 2 + e / 2).succ = e by omega]

theorem rpow_no (a e m : Nat) (h : m = 0 ∨ 2305843009213693952 < m) (ha : a < 18446744073709551616) (he : e < 18446744073709551616) :
    Ret 22 #[.int .u64 (a : Int), .int .u64 (e : Int), .int .u64 (m : Int)] (.int .u64 0) :=
  rpow_core a m (fun _ => 0) (fun _ _ => 0) (rno_core _ (.inl rfl) 1 0 m h) (fun x y hy => rmul_no x y m h hy) ha (fun _ => by omega) (fun _ _ _ => rfl) (fun _ _ => rfl) 64 e he he
end M
end Go.Proofs.YtojekblcdokjjaaDoor
