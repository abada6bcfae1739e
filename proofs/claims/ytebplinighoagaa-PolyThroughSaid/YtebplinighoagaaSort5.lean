/- The library's sort beyond insertion: whether a row is in order already; the parting of a row by a pivot. -/
import Derived.Test.YtebplinighoagaaSort4
namespace Go.Proofs.Ytebplinighoagaa
open Go Go.RowKit Go.Lib
namespace MM
theorem Asc.next {a k j : Nat} {z : Nat → Nat} (h : Asc a k z) (hj : k = j + 1) (hle : z j ≤ z k) : Asc a (k + 1) z := fun p q h1 h2 h3 => by
  by_cases e : q = k
  · subst e
    by_cases e2 : p = j
    · rw [e2]; exact hle
    · exact Nat.le_trans (h p j h1 (by omega) (by omega)) hle
  · exact h p q h1 h2 (by omega)
theorem asc_one (a : Nat) (z : Nat → Nat) : Asc a (a + 1) z := fun p q h1 h2 h3 => absurd h3 (by omega)
end MM
namespace M
/-- Nothing has changed; if it is true, the row is in order between a and b. -/
def Told (W0 : World) (B n : Nat) (z : Nat → Nat) (a b : Nat) (e : Ending) (w' : World) : Prop := ∃ r : Bool, e = .returned (.bool r) ∧ (r = true → MM.Asc a b z) ∧ Mine W0 B n z w'
set_option maxHeartbeats 8000000 in
theorem partial_any (W0 : World) (B n cap a b : Nat) (z : Nat → Nat) (hn : n ≤ 1000000) (hb : b ≤ n) (hab : a < b) (h50 : b < a + 50) (w : World) (hM : Mine W0 B n z w) :
    Calls Try.prog 59 #[.slice (some ⟨B, 0, none⟩) n cap, .int .i64 (a : Int), .int .i64 (b : Int)] w (Told W0 B n z a b) := by
  have HM := Lib.hid hM
  clear hM
  have e50 : (b : Int) - (a : Int) < 50 := by omega
  go_enter Try.func59, Try.ntmps59
  go_wp2_with fail
  refine wp_loop_rounds 1 ?_
  rw [rounds_succ]
  go_wp2_with fail
  go_loopw [7] (fun s7 wx => ∃ k : Nat, a + 1 ≤ k ∧ k ≤ b ∧ s7 = .int .i64 (k : Int) ∧ Hid (Mine W0 B n z wx ∧ MM.Asc a k z)) (fun s7 _ => b - (RowKit.intOf s7).toNat)
  case atStart => exact ⟨a + 1, Nat.le_refl _, by omega, by go_num, Lib.hid ⟨HM.out, MM.asc_one a z⟩⟩
  case round =>
    clear HM
    obtain ⟨k, hk1, hk2, rfl, HJ⟩ := hrel
    obtain ⟨wo, hwo⟩ : ∃ wo : World, wo = wr := ⟨_, rfl⟩
    subst hwo
    by_cases hlt : k < b
    · obtain ⟨j, hj⟩ : ∃ j, k = j + 1 := ⟨k - 1, by omega⟩
      have h0 : decide (k < b) = true := by simpa using hlt
      have hL := less_any (z k) (z j)
      have c1 := HJ.out.1.cell (k := k) (by omega)
      have c2 := HJ.out.1.cell (k := j) (by omega)
      have e1 : (k : Int) - 1 = (j : Int) := by omega
      have e2 : IntKind.i64.wrap (j : Int) = (j : Int) := IntWalk.i64_in _ (by omega)
      have p1 : (0 : Int) ≤ (k : Int) := Int.natCast_nonneg _
      have p2 : (0 : Int) ≤ (j : Int) := Int.natCast_nonneg _
      have p3 : (k : Int) < (n : Int) := by omega
      have p4 : (j : Int) < (n : Int) := by omega
      have HK := Lib.hid hj
      clear hj
      by_cases hls : z k < z j
      · have hl2 : ltB (z k) (z j) = true := by unfold ltB; simpa using hls
        rw [hl2] at hL
        have hne : ((k : Int) == (b : Int)) = false := by simp; omega
        clear hls hl2
        go_upto_region 5 with fail
        go_quiet ((go_at_call 60; exact hL.quiet))
        go_wp2_with fail
        go_ret
        exact ⟨false, rfl, (fun h => by cases h), HJ.out.1.drewN _⟩
      · have hl2 : ltB (z k) (z j) = false := by unfold ltB; simpa using hls
        rw [hl2] at hL
        have HN : Hid (MM.Asc a (k + 1) z) := Lib.hid (HJ.out.2.next HK.out (by omega))
        clear hls hl2
        go_upto_region 5 with fail
        go_quiet ((go_at_call 60; exact hL.quiet))
        clear hL e1 e2 p2 p4 c1 c2 h0
        go_wp2_with fail
        go_roundw
        case rel => exact ⟨k + 1, by omega, by omega, by go_num, Lib.hid ⟨HJ.out.1.drewN _, HN.out⟩⟩
        case measure => simp [RowKit.intOf]; omega
    · have h0 : decide (k < b) = false := by simpa using hlt
      obtain rfl : k = b := by omega
      go_upto_region 5 with fail
      go_quiet (fail)
      go_wp2_with fail
      go_ret
      exact ⟨true, rfl, fun _ => HJ.out.2, HJ.out.1.drewN _⟩
end M
end Go.Proofs.Ytebplinighoagaa
