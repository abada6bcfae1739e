/- The walk of the library's insertion sort of a row of numbers. -/
import Derived.Test.YtaogdhpiiclejaaDoorSort1
import Derived.Test.YtaogdhpiiclejaaDoorModShelf
namespace Go.Proofs.YtaogdhpiiclejaaDoor
open Go Go.RowKit Go.Lib
namespace M
/-- The row as it is while it is sorted: what came of z by exchanges, in the call's own block. -/
def Srt (W0 : World) (B n a b : Nat) (z : Nat → Nat) (P : (Nat → Nat) → Prop) (w : World) : Prop := ∃ y, Mine W0 B n y w ∧ MM.Sw a b z y ∧ P y
theorem Srt.drewN {W0 : World} {B n a b : Nat} {z : Nat → Nat} {P : (Nat → Nat) → Prop} {w : World} (h : Srt W0 B n a b z P w) (m : Nat) : Srt W0 B n a b z P (w.drewN m) := let ⟨y, h1, h2⟩ := h; ⟨y, h1.drewN m, h2⟩
theorem Mine.drew {w0 w : World} {B n : Nat} {z : Nat → Nat} (h : Mine w0 B n z w) : Mine w0 B n z w.drew := h.drewN 1
/-- Two cells are exchanged. -/
theorem Mine.swap {w0 w : World} {B n : Nat} {z : Nat → Nat} (h : Mine w0 B n z w) {i j : Nat} (hi : i < n) (hj : j < n) :
    Mine w0 B n (MM.swapU i j z) ((w.setCell ⟨B, i, none⟩ (.int .u64 ((z j : Nat) : Int))).setCell ⟨B, j, none⟩ (.int .u64 ((z i : Nat) : Int))) := by
  by_cases e : i = j
  · subst e
    refine (h.set (y := z) i (z i) (fun k _ => ?_)).set i (z i) (fun k _ => ?_)
    · by_cases h2 : k = i
      · rw [if_pos h2, h2]
      · rw [if_neg h2]
    · unfold MM.swapU
      by_cases h2 : k = i
      · rw [if_pos h2, if_pos h2]
      · simp [h2]
  · refine (h.set (y := fun k => if k = i then z j else z k) i (z j) (fun k _ => rfl)).set j (z i) (fun k _ => ?_)
    unfold MM.swapU
    by_cases h2 : k = i
    · subst h2; rw [if_pos rfl, if_neg e, if_pos rfl]
    · by_cases h3 : k = j
      · rw [if_neg h2, if_pos h3, if_pos h3]
      · rw [if_neg h2, if_neg h3, if_neg h3, if_neg h2]

set_option maxHeartbeats 8000000 in
theorem insert_any (W0 : World) (B n cap a b : Nat) (z : Nat → Nat) (hn : n ≤ 1000000) (hb : b ≤ n) (hab : a ≤ b) (w : World) (hM : Mine W0 B n z w) :
    Calls Tryd.prog 49 #[.slice (some ⟨B, 0, none⟩) n cap, .int .i64 (a : Int), .int .i64 (b : Int)] w fun e w' => e = .returned (.tuple #[]) ∧ Srt W0 B n a b z (MM.Asc a b) w' := by
  have HM := Lib.hid hM
  clear hM
  go_enter Tryd.func49, Tryd.ntmps49
  go_wp2_with fail
  go_loopw [6] (fun s6 wx => ∃ k : Nat, a + 1 ≤ k ∧ k ≤ b + 1 ∧ s6 = .int .i64 (k : Int) ∧ Hid (Srt W0 B n a b z (MM.Asc a k) wx)) (fun s6 _ => b - (RowKit.intOf s6).toNat)
  case atStart => exact ⟨a + 1, Nat.le_refl _, by omega, by go_num, Lib.hid ⟨z, HM.out, .refl, fun p q h1 h2 h3 => absurd h3 (by omega)⟩⟩
  case round =>
    clear HM
    obtain ⟨k, hk1, hk2, rfl, HJ⟩ := hrel
    obtain ⟨wo, hwo⟩ : ∃ wo : World, wo = wr := ⟨_, rfl⟩
    subst hwo
    by_cases hlt : k < b
    · go_wp2_with fail
      go_loopw [7] (fun s7 wx => ∃ j : Nat, a ≤ j ∧ j ≤ k ∧ s7 = .int .i64 (j : Int) ∧ Hid (Srt W0 B n a b z (MM.AscBut a k j) wx)) (fun s7 _ => (RowKit.intOf s7).toNat)
      case atStart => exact ⟨k, by omega, Nat.le_refl _, rfl, Lib.hid (by obtain ⟨y, h1, h2, h3⟩ := HJ.out; exact ⟨y, h1, h2, MM.AscBut.start h3⟩)⟩
      case round =>
        clear HJ
        obtain ⟨J, hj1, hj2, rfl, HI⟩ := hrel
        by_cases hja : a = J
        · have h0 : decide (a < J) = false := by simp; omega
          go_upto_region 4 with fail
          go_quiet (fail)
          go_wp2_with fail
          go_roundw
          case rel => exact ⟨k + 1, by omega, by omega, by go_num, Lib.hid ((show Srt W0 B n a b z (MM.Asc a (k + 1)) wr by obtain ⟨y, h1, h2, h3⟩ := HI.out; exact ⟨y, h1, h2, MM.AscBut.first (hja ▸ h3)⟩).drewN _)⟩
          case measure => simp [RowKit.intOf]; omega
        · obtain ⟨y, hm, hsw, hbut⟩ := HI.out
          obtain ⟨j, hj⟩ : ∃ j, J = j + 1 := ⟨J - 1, by omega⟩
          have h0 : decide (a < J) = true := by simp; omega
          have hL := less_any (y J) (y j)
          have c1 := hm.cell (k := J) (by omega)
          have c2 := hm.cell (k := j) (by omega)
          have f1 := hm.free J
          have f2 := hm.free j
          have e1 : (J : Int) - 1 = (j : Int) := by omega
          have e2 : IntKind.i64.wrap (j : Int) = (j : Int) := IntWalk.i64_in _ (by omega)
          have p1 : (0 : Int) ≤ (J : Int) := Int.natCast_nonneg _
          have p2 : (0 : Int) ≤ (j : Int) := Int.natCast_nonneg _
          have p3 : (J : Int) < (n : Int) := by omega
          have p4 : (j : Int) < (n : Int) := by omega
          have HSW := Lib.hid (And.intro hm (And.intro hsw hbut))
          have HJ := Lib.hid hj
          clear hm hsw hbut hj
          by_cases hls : y J < y j
          · have hl2 : ltB (y J) (y j) = true := by unfold ltB; simpa using hls
            rw [hl2] at hL
            have HLS := Lib.hid hls
            clear hls hl2
            go_upto_region 4 with fail
            go_quiet ((go_at_call 55; exact hL.quiet))
            go_upto_region 6 with fail
            clear hL
            have HSP := Lib.hid (fun m => ((HSW.out.1).drewN m).swap (i := J) (j := j) (by omega) (by omega))
            have HNX : Hid (MM.AscBut a k j (MM.swapU J j y)) := Lib.hid (by
              have hh := HSW.out.2.2; have h2 := HLS.out
              rw [HJ.out] at hh h2 ⊢
              exact MM.AscBut.next hh (by have := HJ.out; omega) (by have := HJ.out; omega) h2)
            have HS2 : Hid (MM.Sw a b z (MM.swapU J j y)) := Lib.hid (HSW.out.2.1.step J j ⟨by omega, by omega⟩ ⟨by have := HJ.out; omega, by have := HJ.out; omega⟩)
            generalize y J = yJ at *
            generalize y j = yj at *
            have c3 : (wr.setCell ⟨B, J, none⟩ (.int .u64 ((yj : Nat) : Int))).cell? ⟨B, j, none⟩ = some (.int .u64 ((yj : Nat) : Int)) := by
              exact Eq.trans (World.cell?_setCell_other wr _ _ _ (show (⟨B, J, none⟩ : Addr) ≠ ⟨B, j, none⟩ by intro h; injection h with _ h2 _; have := HJ.out; omega)) c2
            go_region
            go_wp2_with fail
            go_roundw
            case rel => exact ⟨j, by have := HJ.out; omega, by have := HJ.out; omega, rfl, Lib.hid ⟨_, HSP.out _, HS2.out, HNX.out⟩⟩
            case measure => simp [RowKit.intOf]; have := HJ.out; omega
          · have hl2 : ltB (y J) (y j) = false := by unfold ltB; simpa using hls
            rw [hl2] at hL
            have HST : Hid (MM.Asc a (k + 1) y) := Lib.hid (MM.AscBut.stop HSW.out.2.2 (by omega) (by omega) (by rw [HJ.out] at hls ⊢; simpa using hls))
            clear hls hl2
            go_upto_region 4 with fail
            go_quiet ((go_at_call 55; exact hL.quiet))
            clear hL e1 e2 p1 p2 p3 p4 c1 c2 f1 f2 h0 hja
            go_wp2_with fail
            go_roundw
            case rel => exact ⟨k + 1, by omega, by omega, by go_num, Lib.hid ((show Srt W0 B n a b z (MM.Asc a (k + 1)) wr from ⟨y, HSW.out.1, HSW.out.2.1, HST.out⟩).drewN _)⟩
            case measure => simp [RowKit.intOf]; omega
    · go_wp2_with fail
      go_end0
      exact ⟨rfl, by obtain ⟨y, h1, h2, h3⟩ := HJ.out; exact ⟨y, h1, h2, fun p q x1 x2 x3 => h3 p q x1 x2 (by omega)⟩⟩

set_option maxHeartbeats 2000000 in
theorem pdq_short (W0 : World) (B n cap a b : Nat) (lim : Int) (z : Nat → Nat) (hn : n ≤ 1000000) (hb : b ≤ n) (hab : a ≤ b) (h12 : b - a ≤ 12) (w : World) (hM : Mine W0 B n z w) :
    Calls Tryd.prog 46 #[.slice (some ⟨B, 0, none⟩) n cap, .int .i64 (a : Int), .int .i64 (b : Int), .int .i64 lim] w fun e w' => e = .returned (.tuple #[]) ∧ Srt W0 B n a b z (MM.Asc a b) w' := by
  have HI := Lib.hid (insert_any W0 B n cap a b z hn hb hab w hM)
  have h1 : (b : Int) - (a : Int) ≤ 12 := by omega
  have h2 : (0 : Int) ≤ (b : Int) - (a : Int) := by omega
  clear hM h12
  go_enter Tryd.func46, Tryd.ntmps46
  go_wp2_with fail
  refine wp_loop_rounds 1 ?_
  rw [rounds_succ]
  go_wp2_with (go_at_call 49; (with_reducible refine HI.out.mono ?_); rintro e w' ⟨rfl, hs⟩; have HS := Lib.hid hs; clear hs)
  refine bodyPost_ret (results_none rfl _ _ _) rfl ?_
  exact ⟨rfl, HS.out⟩
set_option maxHeartbeats 1000000 in
/-- The sort of a whole row, as long as its own sorting in place serves. -/
theorem sort_of (W0 : World) (B n cap : Nat) (z : Nat → Nat) (hn : n ≤ 1000000) (w : World)
    (HP : ∀ lim : Int, Calls Tryd.prog 46 #[.slice (some ⟨B, 0, none⟩) n cap, .int .i64 0, .int .i64 (n : Int), .int .i64 lim] w fun e w' => e = .returned (.tuple #[]) ∧ Srt W0 B n 0 n z (MM.Asc 0 n) w') :
    Calls Tryd.prog 40 #[.slice (some ⟨B, 0, none⟩) n cap] w fun e w' => e = .returned (.tuple #[]) ∧ Srt W0 B n 0 n z (MM.Asc 0 n) w' := by
  have HL := Lib.hid (Tryd.bits_Len (n : Int) w (by omega) (by omega))
  have HPP := Lib.hid HP
  clear HP
  go_enter Tryd.func40, Tryd.ntmps40
  go_wp2_with (first | (go_at_call 47; (with_reducible refine HL.out.mono ?_); rintro e w' ⟨rfl, rfl⟩) | (go_at_call 46; (with_reducible refine (HPP.out _).mono ?_); rintro e w' ⟨rfl, hs⟩; have HS := Lib.hid hs; clear hs))
  go_end0
  exact ⟨rfl, HS.out⟩
theorem sort_short (W0 : World) (B n cap : Nat) (z : Nat → Nat) (hn : n ≤ 12) (w : World) (hM : Mine W0 B n z w) :
    Calls Tryd.prog 40 #[.slice (some ⟨B, 0, none⟩) n cap] w fun e w' => e = .returned (.tuple #[]) ∧ Srt W0 B n 0 n z (MM.Asc 0 n) w' :=
  sort_of W0 B n cap z (by omega) w fun lim => pdq_short W0 B n cap 0 n lim z (by omega) (Nat.le_refl _) (Nat.zero_le _) (by omega) w hM
end M
end Go.Proofs.YtaogdhpiiclejaaDoor
