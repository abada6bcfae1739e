/- The walk of mod.Inv: for m from 1 to 2^61 the inverse of a modulo m where a and m have no divisor in common but 1, else that there is none; for any other m that it may not be. -/
import Derived.Test.YtaogdhpiiclejaaDoorModW2
import Derived.Test.YtaogdhpiiclejaaDoorModMath3
namespace Go.Proofs.YtaogdhpiiclejaaDoor
open Go Go.RowKit Go.Lib
namespace M

/-- What mod.Inv answers for an m that may be. -/
def InvTold (a m : Nat) (w : World) (e : Ending) (w' : World) : Prop :=
  (∃ x c : Nat, e = .returned (.tuple #[.int .u64 (x : Int), .int .i64 (c : Int)]) ∧ ((Nat.gcd a m = 1 ∧ c = 0 ∧ MM.IsInv a m x) ∨ (Nat.gcd a m ≠ 1 ∧ c = 5 ∧ x = 0))) ∧ ∃ n, w' = w.drewN n

set_option maxHeartbeats 400000 in
theorem inv_core (a m : Nat) (hm : 0 < m) (hb : m ≤ 2305843009213693952) (w : World) :
    Calls Tryd.prog 28 #[.int .u64 a, .int .u64 m] w fun e w' => InvTold a m w e w' := by
  have HC := Lib.hid (allowed_ok m hm hb)
  have HM := Lib.hid (fun a b ha hb' => mul_any a b m hm hb ha hb')
  have HSub := Lib.hid (fun a b => sub_any a b m hm hb)
  have HS := Lib.hid (MM.InvAt.start a m hm)
  have HB := Lib.hid hb
  clear hb
  go_enter Tryd.func28, Tryd.ntmps28
  go_wp2_with (go_at_call 36; refine (HC.out _).mono ?_; rintro e w' ⟨rfl, rfl⟩)
  go_quiet (fail)
  go_wp2_with fail
  go_loopw [6, 7, 8, 9, 10] (fun s6 s7 s8 s9 _ wx => ∃ r x i f n : Nat, s6 = .int .u64 (r : Int) ∧ s7 = .int .u64 (x : Int) ∧ s8 = .int .u64 (i : Int) ∧ s9 = .int .u64 (f : Int) ∧ wx = w.drewN n ∧ MM.InvAt a m r x i f) (fun _ s7 _ _ _ _ => (RowKit.intOf s7).toNat)
  case atStart => exact ⟨_, _, _, _, _, rfl, rfl, rfl, rfl, rfl, HS.out⟩
  case round =>
    obtain ⟨r, x, i, f, n, rfl, rfl, rfl, rfl, rfl, hp⟩ := hrel
    have HP := Lib.hid hp
    have b1 := hp.r0
    have b2 := hp.r1
    have b3 := hp.n1
    clear hp
    have HB1 := Lib.hid b1
    clear b1
    by_cases h0 : x = 0
    · have h0' : ¬ ((0 : Int) < (x : Int)) := by omega
      have HZ := Lib.hid h0
      clear h0
      by_cases h1 : r = 1
      · have h1' : ((r : Int) != 1) = false := by simp; omega
        have H1 := Lib.hid h1
        clear h1
        go_wp2_with fail
        go_ret2
        have h := HP.out
        rw [HZ.out] at h
        obtain ⟨d1, d2⟩ := h.done
        exact ⟨⟨i, 0, rfl, .inl ⟨by rw [← d1]; exact H1.out, rfl, d2 H1.out⟩⟩, ⟨_, rfl⟩⟩
      · have h1' : ((r : Int) != 1) = true := by simp; omega
        have H1 := Lib.hid h1
        clear h1
        go_wp2_with fail
        go_ret2
        have h := HP.out
        rw [HZ.out] at h
        obtain ⟨d1, d2⟩ := h.done
        exact ⟨⟨0, 5, rfl, .inr ⟨by rw [← d1]; exact H1.out, rfl, rfl⟩⟩, ⟨_, rfl⟩⟩
    · have hx : 0 < x := by omega
      have hx' : (0 : Int) < (x : Int) := by omega
      have HN := Lib.hid (HP.out.step hx)
      have eq1 := wrap_quo r x (by have := HB.out; omega)
      have hf : Hid (f < 18446744073709551616) := by have h := HP.out.a1; have hB := HB.out; show f < 18446744073709551616; omega
      have hq : Hid (r / x < 18446744073709551616) := by have h := Nat.div_le_self r x; have hB := HB.out; show r / x < 18446744073709551616; omega
      have hlt := Nat.mod_lt r hx
      have HLT := Lib.hid hlt
      clear hlt
      go_wp2_with fail
      go_quiet (fail)
      go_wp2_with (first | (go_at_call 23; refine (HM.out _ _ hq.out hf.out _).mono ?_; rintro e w' ⟨rfl, n, rfl⟩) | (go_at_call 29; refine (HSub.out _ _ _).mono ?_; rintro e w' ⟨rfl, n, rfl⟩))
      go_roundw
      case rel => exact ⟨_, _, _, _, _, rfl, rfl, rfl, rfl, rfl, HN.out⟩
      case measure => have := HLT.out; simp [RowKit.intOf]; omega

theorem inv_no (a m : Nat) (h : m = 0 ∨ 2305843009213693952 < m) (w : World) :
    Calls Tryd.prog 28 #[.int .u64 a, .int .u64 m] w fun e w' => e = .returned (.tuple #[.int .u64 0, .int .i64 1]) ∧ ∃ n, w' = w.drewN n := by
  have HC := Lib.hid (allowed_no m h)
  clear h
  go_enter Tryd.func28, Tryd.ntmps28
  go_wp2_with (go_at_call 36; refine (HC.out _).mono ?_; rintro e w' ⟨rfl, rfl⟩)
  go_ret2
  exact ⟨rfl, ⟨0, rfl⟩⟩

/-- mod.Inv where there is an inverse. -/
theorem inv_yes (a m : Nat) (hm : 0 < m) (hb : m ≤ 2305843009213693952) (hg : Nat.gcd a m = 1) (w : World) :
    Calls Tryd.prog 28 #[.int .u64 a, .int .u64 m] w fun e w' => e = .returned (.tuple #[.int .u64 ((MM.invm a m : Nat) : Int), .int .i64 0]) ∧ ∃ n, w' = w.drewN n := by
  refine (inv_core a m hm hb w).mono ?_
  rintro e w' ⟨⟨x, c, rfl, h | h⟩, n, rfl⟩
  · obtain ⟨_, rfl, hx⟩ := h
    rw [MM.invm_eq hx]
    exact ⟨rfl, _, rfl⟩
  · exact absurd hg h.1
/-- mod.Inv where there is none. -/
theorem inv_none (a m : Nat) (hm : 0 < m) (hb : m ≤ 2305843009213693952) (hg : Nat.gcd a m ≠ 1) (w : World) :
    Calls Tryd.prog 28 #[.int .u64 a, .int .u64 m] w fun e w' => e = .returned (.tuple #[.int .u64 0, .int .i64 5]) ∧ ∃ n, w' = w.drewN n := by
  refine (inv_core a m hm hb w).mono ?_
  rintro e w' ⟨⟨x, c, rfl, h | h⟩, n, rfl⟩
  · exact absurd h.1 hg
  · obtain ⟨_, rfl, rfl⟩ := h
    exact ⟨rfl, _, rfl⟩

end M
end Go.Proofs.YtaogdhpiiclejaaDoor
