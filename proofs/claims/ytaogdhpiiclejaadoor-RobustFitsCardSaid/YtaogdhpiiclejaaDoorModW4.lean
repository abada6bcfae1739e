/- The walks of bits.TrailingZeros64 and mod.Prime: what mod.Prime answers is the test of primes, for every number, where its two tables hold what the program's text lays into them. -/
import Derived.Test.YtaogdhpiiclejaaDoorModW3
import Derived.Test.YtaogdhpiiclejaaDoorModMath4
import Derived.Laws.Rows
import Derived.Outline
namespace Go.Proofs.YtaogdhpiiclejaaDoor
open Go Go.RowKit Go.Lib
namespace M

/-- The witnesses as they lie in their variable. -/
def witCells : Array Value := #[.int .u64 2, .int .u64 3, .int .u64 5, .int .u64 7, .int .u64 11, .int .u64 13, .int .u64 17, .int .u64 19, .int .u64 23]
/-- The program's two tables hold what its text lays into them. -/
def Laid (w : World) : Prop := (∃ t fr, w.heap[(0 : Nat)]? = some (.cells witCells t fr)) ∧ ∀ j, j < 64 → w.cell? ⟨1, j, none⟩ = some (.int .u8 ((Lib.deBruijn64tab.getD j 0 : Nat) : Int))

theorem Laid.drewN {w : World} (h : Laid w) (n : Nat) : Laid (w.drewN n) := ⟨h.1, fun j hj => by have := h.2 j hj; simpa using this⟩

set_option maxHeartbeats 400000 in
theorem tz_core (x k idx : Nat) (w : World) (hx0 : ((x : Int) == 0) = false)
    (key : IntKind.u64.wrap (bits BinOp.and IntKind.u64 (x : Int) (IntKind.u64.wrap (-(x : Int))) * 285870213051353865) / 288230376151711744 = (idx : Int))
    (hi : idx < 64) (hk : k < 64) (hcell : w.cell? ⟨1, idx, none⟩ = some (.int .u8 (k : Int))) :
    Calls Tryd.prog 21 #[.int .u64 x] w fun e w' => e = .returned (.int .i64 (k : Int)) ∧ w = w' := by
  go_enter Tryd.func21, Tryd.ntmps21
  go_wp2_with (simp only [key])
  go_ret
  exact ⟨rfl, rfl⟩

theorem tz_key (x a : Nat) (hx : x < 18446744073709551616) (hx0 : x ≠ 0) (hlow : x &&& (18446744073709551616 - x) = a) :
    IntKind.u64.wrap (bits BinOp.and IntKind.u64 (x : Int) (IntKind.u64.wrap (-(x : Int))) * 285870213051353865) / 288230376151711744 = ((a * 285870213051353865 % 18446744073709551616 / 288230376151711744 : Nat) : Int) := by
  have e1 : IntKind.u64.wrap (-(x : Int)) = ((18446744073709551616 - x : Nat) : Int) := by rw [IntKind.wrap_u64]; omega
  rw [e1, bits_and_u64_nat x _ hx (by omega), hlow, IntKind.wrap_u64]
  omega

theorem idx0 (W : World) : (Instr.index 50 (.agg witCells) (.int .i64 0)).run Tryd.prog W = .ok (.int .u64 2) W := by kernel_rfl
theorem idx1 (W : World) : (Instr.index 50 (.agg witCells) (.int .i64 1)).run Tryd.prog W = .ok (.int .u64 3) W := by kernel_rfl
theorem idx2 (W : World) : (Instr.index 50 (.agg witCells) (.int .i64 2)).run Tryd.prog W = .ok (.int .u64 5) W := by kernel_rfl
theorem idx3 (W : World) : (Instr.index 50 (.agg witCells) (.int .i64 3)).run Tryd.prog W = .ok (.int .u64 7) W := by kernel_rfl
theorem idx4 (W : World) : (Instr.index 50 (.agg witCells) (.int .i64 4)).run Tryd.prog W = .ok (.int .u64 11) W := by kernel_rfl
theorem idx5 (W : World) : (Instr.index 50 (.agg witCells) (.int .i64 5)).run Tryd.prog W = .ok (.int .u64 13) W := by kernel_rfl
theorem idx6 (W : World) : (Instr.index 50 (.agg witCells) (.int .i64 6)).run Tryd.prog W = .ok (.int .u64 17) W := by kernel_rfl
theorem idx7 (W : World) : (Instr.index 50 (.agg witCells) (.int .i64 7)).run Tryd.prog W = .ok (.int .u64 19) W := by kernel_rfl
theorem idx8 (W : World) : (Instr.index 50 (.agg witCells) (.int .i64 8)).run Tryd.prog W = .ok (.int .u64 23) W := by kernel_rfl
theorem idx_any (k : Nat) (hk : k < 9) (W : World) : (Instr.index 50 (.agg witCells) (.int .i64 (k : Int))).run Tryd.prog W = .ok (.int .u64 ((MM.wits.getD k 0 : Nat) : Int)) W := by
  match k, hk with
  | 0, _ => exact idx0 W
  | 1, _ => exact idx1 W
  | 2, _ => exact idx2 W
  | 3, _ => exact idx3 W
  | 4, _ => exact idx4 W
  | 5, _ => exact idx5 W
  | 6, _ => exact idx6 W
  | 7, _ => exact idx7 W
  | 8, _ => exact idx8 W
  | k + 9, h => exact absurd h (by omega)

theorem tz_any (x : Nat) (hx : x < 18446744073709551616) (hx0 : x ≠ 0) (w : World) (hl : Laid w) :
    Calls Tryd.prog 21 #[.int .u64 x] w fun e w' => e = .returned (.int .i64 ((Lib.ctz 64 x : Nat) : Int)) ∧ w = w' := by
  obtain ⟨hlow, hk⟩ := Lib.lowest_bit 64 x hx0 hx
  obtain ⟨hi, htab⟩ := Lib.deBruijn64_at _ hk
  have hcell := hl.2 _ hi
  rw [htab] at hcell
  exact tz_core x _ _ w (by simp; omega) (tz_key x _ hx hx0 hlow) hi hk hcell

set_option maxHeartbeats 1000000 in
theorem prime_core (n d t : Nat) (hn : 2 ≤ n) (hb : n ≤ 2305843009213693952) (ht : t < 64) (hd : ((n : Int) - 1) / 2 ^ t = (d : Int)) (hd2 : d < 18446744073709551616)
    (w : World) (hl : Laid w)
    (hc : Calls Tryd.prog 21 #[.int .u64 ((n : Int) - 1)] w fun e w' => e = .returned (.int .i64 (t : Int)) ∧ w = w') :
    Calls Tryd.prog 11 #[.int .u64 n] w fun e w' => e = .returned (.bool (MM.primeL n d t MM.wits)) ∧ ∃ n, w' = w.drewN n := by
  have h1 : ¬ ((n : Int) < 2) := by omega
  have h1d : decide ((n : Int) < 2) = false := decide_eq_false h1
  have h2 : decide ((2305843009213693952 : Int) < (n : Int)) = false := decide_eq_false (by omega)
  have h3 : (1 : Int) ≤ (n : Int) := by omega
  obtain ⟨t0, fr, hg⟩ := hl.1
  have HG := Lib.hid hg
  have HC := Lib.hid hc
  have HL := Lib.hid hl
  have HM := Lib.hid (fun a b ha hb' => mul_any a b n (by omega) hb ha hb')
  have HPo := Lib.hid (fun a e ha he => pow_core a e n (by omega) hb ha he)
  have HD2 := Lib.hid hd2
  clear hg hc hl hd2
  go_enter Tryd.func11, Tryd.ntmps11
  go_wp2_with fail
  go_step3
  go_wp2_with (first | (go_at_call 21; refine HC.out.mono ?_; rintro e w' ⟨rfl, rfl⟩) | (refine wpList_load_row rfl 50 _ rfl 0 rfl t0 _ fr _ HG.out Tryd.underlying50 rfl (by kernel_rfl) ?_))
  go_step3
  go_wp2_with (first | (go_at_call 21; refine HC.out.mono ?_; rintro e w' ⟨rfl, rfl⟩) | (refine wpList_load_row rfl 50 _ rfl 0 rfl t0 _ fr _ HG.out Tryd.underlying50 rfl (by kernel_rfl) ?_))
  go_loopg [22] 9 (fun g s22 wx => ∃ k m : Nat, k ≤ 9 ∧ s22 = .int .i64 (k : Int) ∧ g = 9 - k ∧ wx = w.drewN m ∧ MM.primeL n d t (MM.wits.drop k) = MM.primeL n d t MM.wits)
  case atStart => exact ⟨0, 0, by omega, rfl, rfl, rfl, rfl⟩
  case round =>
    obtain ⟨k, m, hk, rfl, rfl, rfl, hp⟩ := hrel
    have HP := Lib.hid hp
    clear hp
    by_cases hk9 : k < 9
    · have hix := idx_any k hk9
      obtain ⟨hv2, hv24⟩ := MM.wits_pos k hk9
      have hdr := MM.wits_drop k hk9
      have HDR := Lib.hid hdr
      clear hdr
      generalize MM.wits.getD k 0 = v at *
      have HF := Lib.hid (show MM.primeL n d t (v :: MM.wits.drop (k + 1)) = MM.primeL n d t MM.wits by rw [← HP.out, HDR.out])
      clear HP HDR
      by_cases hdiv : n % v = 0
      · have hdb : ((n : Int) % (v : Int) == 0) = true := by simp; omega
        obtain ⟨res, hres⟩ : ∃ res, ((n : Int) == (v : Int)) = res := ⟨_, rfl⟩
        have HRES := Lib.hid (show res = MM.primeL n d t MM.wits by
          rw [← HF.out, ← hres]; unfold MM.primeL; rw [if_pos hdiv, Bool.eq_iff_iff]; simp; omega)
        clear hdiv HF
        go_wp2_with fail
        try rw [Exit.noGoto_ret]
        go_ret
        exact ⟨congrArg Ending.returned (congrArg Value.bool HRES.out), ⟨_, rfl⟩⟩
      · have hdb : ((n : Int) % (v : Int) == 0) = false := by simp; omega
        have HF2 := Lib.hid (show (if MM.powm v d n == 1 || MM.passB n t (MM.powm v d n) then MM.primeL n d t (MM.wits.drop (k + 1)) else false) = MM.primeL n d t MM.wits by
          rw [← HF.out]; conv => rhs; unfold MM.primeL
          rw [if_neg hdiv])
        clear HF hdiv
        have hxl : Hid (MM.powm v d n < 18446744073709551616) := by
          have := Nat.mod_lt (v ^ d) (show 0 < n by omega); show v ^ d % n < _; omega
        have HPv := Lib.hid (HPo.out v d (by omega) HD2.out)
        generalize hx : MM.powm v d n = x at *
        clear hx
        by_cases hx1 : x = 1
        · have hxb : ((x : Int) == 1) = true := by simp; omega
          have HN := Lib.hid (show MM.primeL n d t (MM.wits.drop (k + 1)) = MM.primeL n d t MM.wits by rw [← HF2.out, hx1]; rfl)
          clear HF2 hx1
          go_wp2_with (go_at_call 22; refine (HPv.out _).mono ?_; rintro e w' ⟨rfl, n', rfl⟩)
          go_roundg (9 - (k + 1))
          case measure => omega
          case rel => exact ⟨k + 1, _, by omega, int_eq (by omega), rfl, rfl, HN.out⟩
        · have hxb : ((x : Int) == 1) = false := by simp; omega
          have HF3 := Lib.hid (show (if MM.passB n t x then MM.primeL n d t (MM.wits.drop (k + 1)) else false) = MM.primeL n d t MM.wits by
            rw [← HF2.out]; simp [hx1])
          clear HF2 hx1
          go_wp2_with (go_at_call 22; refine (HPv.out _).mono ?_; rintro e w' ⟨rfl, n', rfl⟩)
          go_loopg [39, 7] t (fun g s39 s7 wx => ∃ j y m' : Nat, j ≤ t ∧ s39 = .int .i64 (j : Int) ∧ s7 = .int .u64 (y : Int) ∧ g = t - j ∧ wx = w.drewN m' ∧ Hid (y < 18446744073709551616) ∧ MM.passB n (t - j) y = MM.passB n t x)
          case atStart => exact ⟨0, x, _, by omega, rfl, rfl, rfl, rfl, hxl, rfl⟩
          case round =>
            obtain ⟨j, y, m', hj, rfl, rfl, rfl, rfl, hyl, hpj⟩ := hrel
            have HPJ := Lib.hid hpj
            clear hpj
            by_cases hjt : j < t
            · obtain ⟨r, hr⟩ : ∃ r, t - j = r + 1 := ⟨t - j - 1, by omega⟩
              have HPJ2 := Lib.hid (show (y == n - 1 || MM.passB n r (y * y % n)) = MM.passB n t x by rw [← HPJ.out, hr]; rfl)
              have HR := Lib.hid hr
              clear HPJ hr
              by_cases hy : y = n - 1
              · have hyb : ((y : Int) == (n : Int) - 1) = true := by simp; omega
                have HN := Lib.hid (show MM.primeL n d t (MM.wits.drop (k + 1)) = MM.primeL n d t MM.wits by
                  rw [← HF3.out, ← HPJ2.out, hy]; simp)
                clear HF3 HPJ2 hy
                go_wp2_with fail
                go_roundg (9 - (k + 1))
                case measure => omega
                case rel => exact ⟨k + 1, _, by omega, int_eq (by omega), rfl, rfl, HN.out⟩
              · have hyb : ((y : Int) == (n : Int) - 1) = false := by simp; omega
                have HN := Lib.hid (show MM.passB n r (y * y % n) = MM.passB n t x by rw [← HPJ2.out]; simp [hy])
                clear HPJ2 hy
                go_wp2_with (go_at_call 23; refine (HM.out y y hyl.out hyl.out _).mono ?_; rintro e w' ⟨rfl, n'', rfl⟩)
                go_roundg (t - (j + 1))
                case measure => omega
                case rel => exact ⟨j + 1, y * y % n, _, by omega, int_eq (by omega), rfl, rfl, rfl, by have := Nat.mod_lt (y * y) (show 0 < n by omega); show y * y % n < _; omega, by rw [← HN.out, show t - (j + 1) = r by have := HR.out; omega]⟩
            · have hres : MM.primeL n d t MM.wits = false := by
                rw [← HF3.out, ← HPJ.out, show t - j = 0 by omega]; rfl
              have HRES := Lib.hid hres.symm
              clear HF3 HPJ hres
              go_wp2_with fail
              try rw [Exit.noGoto_ret]
              go_ret
              exact ⟨congrArg Ending.returned (congrArg Value.bool HRES.out), ⟨_, rfl⟩⟩
    · have hres : MM.primeL n d t MM.wits = true := by
        rw [← HP.out, show k = 9 by omega]; rfl
      have HRES := Lib.hid hres.symm
      clear HP hres
      go_wp2_with fail
      try rw [Exit.noGoto_ret]
      go_ret
      exact ⟨congrArg Ending.returned (congrArg Value.bool HRES.out), ⟨_, rfl⟩⟩
end M
end Go.Proofs.YtaogdhpiiclejaaDoor
