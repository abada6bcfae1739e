/- The library's sort beyond insertion: the parting of a row into what is as small as the pivot, and the rest. -/
import Derived.Test.YtebplinighoagaaSort6
namespace Go.Proofs.Ytebplinighoagaa
open Go Go.RowKit Go.Lib
namespace MM
theorem Sw.all {a b : Nat} {z y : Nat → Nat} (P : Nat → Prop) (h : Sw a b z y) (hz : ∀ k, a ≤ k → k < b → P (z k)) : ∀ k, a ≤ k → k < b → P (y k) := by
  induction h with
  | refl => exact hz
  | step _ i j hi hj ih =>
    intro k h1 h2
    unfold swapU
    by_cases e : k = i
    · rw [if_pos e]; exact ih j hj.1 hj.2
    · rw [if_neg e]; by_cases e2 : k = j
      · rw [if_pos e2]; exact ih i hi.1 hi.2
      · rw [if_neg e2]; exact ih k h1 h2
theorem Sw.out {a b k : Nat} {z y : Nat → Nat} (h : Sw a b z y) (hk : k < a ∨ b ≤ k) : y k = z k := by
  induction h with
  | refl => rfl
  | step _ i j hi hj ih => rw [← ih]; unfold swapU; rw [if_neg (by omega), if_neg (by omega)]
/-- What stands ahead of a place is no more than all that follows. -/
def Low (a b m : Nat) (y : Nat → Nat) : Prop := ∀ p q, a ≤ p → p < q → q < b → p < m → y p ≤ y q
theorem Prt.low {a b i j v : Nat} {z y : Nat → Nat} (h : Prt a b (j + 1) j y) (hi : i = j + 1) (hs : Sw a b z y) (hv : ∀ k, a ≤ k → k < b → v ≤ z k) (ha : y a = v) : Low a b i y := fun p q h1 h2 h3 h4 => by
  have hp : y p ≤ y a := by
    by_cases e : p = a
    · rw [e]; exact Nat.le_refl _
    · exact h.1 p (by omega) (by omega)
  have hq : v ≤ y q := hs.all (v ≤ ·) hv q (by omega) h3
  omega
end MM
namespace M
/-- The row while it is parted, the pivot at its head. -/
def PrtsE (W0 : World) (B n a b : Nat) (z : Nat → Nat) (i j : Nat) (Q : (Nat → Nat) → Prop) (w : World) : Prop := ∃ y, Mine W0 B n y w ∧ MM.Sw (a + 1) b z y ∧ MM.Prt a b i j y ∧ Q y
/-- What it hands back. -/
def PartE (W0 : World) (B n a b : Nat) (z : Nat → Nat) (e : Ending) (w' : World) : Prop := ∃ m : Nat, e = .returned (.int .i64 (m : Int)) ∧ a < m ∧ m ≤ b ∧ Srt W0 B n a b z (MM.Low a b m) w'
set_option maxRecDepth 100000 in
set_option maxHeartbeats 16000000 in
theorem partitionE_any (W0 : World) (B n cap a b p : Nat) (z : Nat → Nat) (hn : n ≤ 1000000) (hb : b ≤ n) (hap : a < p) (hpb : p < b) (hv : ∀ k, a ≤ k → k < b → z p ≤ z k) (w : World) (hM : Mine W0 B n z w) :
    Calls Try.prog 61 #[.slice (some ⟨B, 0, none⟩) n cap, .int .i64 (a : Int), .int .i64 (b : Int), .int .i64 (p : Int)] w (PartE W0 B n a b z) := by
  have HEND : Hid (∀ (i j : Nat) (y : Nat → Nat), i = j + 1 → MM.Sw (a + 1) b (MM.swapU a p z) y → MM.Prt a b (j + 1) j y → MM.Sw a b z y ∧ MM.Low a b i y) := Lib.hid (fun i j y hi hs hp => by
    have h2 : MM.Sw a b z y := (MM.Sw.refl.step a p ⟨by omega, by omega⟩ ⟨by omega, by omega⟩).trans (hs.wide (by omega) (Nat.le_refl _))
    exact ⟨h2, hp.low hi h2 hv (by rw [hs.out (by omega)]; unfold MM.swapU; rw [if_pos rfl])⟩)
  clear hv
  go_enter Try.func61, Try.ntmps61
  have hmm := hM
  have c1 := hmm.cell (k := a) (by omega)
  have c2 := hmm.cell (k := p) (by omega)
  have f1 := hmm.free a
  have f2 := hmm.free p
  have c3 := hmm.swap_cell (i := a) (j := p) (by omega)
  have c4 := fun m => (hmm.drewN m).swap_cell (i := a) (j := p) (by omega)
  have HSP := Lib.hid (fun m => (hmm.drewN m).swap (i := a) (j := p) (by omega) (by omega))
  clear hmm
  have p1 : (0 : Int) ≤ (a : Int) := Int.natCast_nonneg _
  have r1 : (a : Int) < (n : Int) := by omega
  have p2 : (0 : Int) ≤ (p : Int) := Int.natCast_nonneg _
  have r2 : (p : Int) < (n : Int) := by omega
  go_upto_region 1 with fail
  generalize z a = yI at *
  generalize z p = yJ at *
  go_region
  clear c1 c2 c3 c4 f1 f2 p1 r1 p2 r2
  clear hM
  obtain ⟨y0, hy0⟩ : ∃ y0, MM.swapU a p z = y0 := ⟨_, rfl⟩
  rw [hy0] at HSP HEND
  clear hy0
  obtain ⟨J, hJ⟩ : ∃ J, J + 1 = b := ⟨b - 1, by omega⟩
  have eJ : (b : Int) - 1 = (J : Int) := by omega
  have HS := Lib.hid (fun m => (show PrtsE W0 B n a b y0 (a + 1) J (fun _ => True) _ from ⟨_, HSP.out m, MM.Sw.refl, by have := MM.Prt.start a b y0; rwa [show b - 1 = J by omega] at this, trivial⟩))
  clear HSP
  go_wp2_with fail
  go_loopw [9, 10] (fun s9 s10 wx => ∃ i0 j0 : Nat, a + 1 ≤ i0 ∧ i0 ≤ j0 + 1 ∧ j0 < b ∧ s9 = .int .i64 (i0 : Int) ∧ s10 = .int .i64 (j0 : Int) ∧ Hid (PrtsE W0 B n a b y0 i0 j0 (fun _ => True) wx)) (fun s9 s10 _ => (RowKit.intOf s10).toNat + 1 - (RowKit.intOf s9).toNat)
  case atStart => exact ⟨a + 1, J, by omega, by omega, by omega, by go_num, rfl, Lib.hid (HS.out _)⟩
  case round =>
    clear HS
    obtain ⟨i0, j0, hi0, hij0, hj0, rfl, rfl, HS0⟩ := hrel
    obtain ⟨wq, hwq⟩ : ∃ wq : World, wq = wr := ⟨_, rfl⟩
    subst hwq
    have HS := Lib.hid (fun (_ : Nat) => HS0.out)
    clear HS0
    go_wp2_with fail
    go_loopw [9] (fun s9 wx => ∃ i : Nat, i0 ≤ i ∧ i ≤ j0 + 1 ∧ s9 = .int .i64 (i : Int) ∧ Hid (PrtsE W0 B n a b y0 i j0 (fun _ => True) wx)) (fun s9 _ => j0 + 1 - (RowKit.intOf s9).toNat)
    case atStart => exact ⟨i0, Nat.le_refl _, by omega, rfl, Lib.hid (HS.out 0)⟩
    case round =>
      clear HS
      obtain ⟨i, hi1, hi2, rfl, HI⟩ := hrel
      obtain ⟨wo, hwo⟩ : ∃ wo : World, wo = wr := ⟨_, rfl⟩
      subst hwo
      by_cases hlt : i ≤ j0
      · obtain ⟨y, hm, hsw, hp, _⟩ := HI.out
        clear HI
        have h0 : decide (i ≤ j0) = true := by simpa using hlt
        have hL := less_any (y a) (y i)
        have c1 := hm.cell (k := i) (by omega)
        have c2 := hm.cell (k := a) (by omega)
        have p1 : (0 : Int) ≤ (i : Int) := Int.natCast_nonneg _
        have p2 : (0 : Int) ≤ (a : Int) := Int.natCast_nonneg _
        have p3 : (i : Int) < (n : Int) := by omega
        have p4 : (a : Int) < (n : Int) := by omega
        have HM := Lib.hid (And.intro hm (And.intro hsw hp))
        clear hm hsw hp
        by_cases hls : y i ≤ y a
        · have hl2 : ltB (y a) (y i) = false := by unfold ltB; simpa using hls
          rw [hl2] at hL
          have HN : Hid (MM.Prt a b (i + 1) j0 y) := Lib.hid (HM.out.2.2.left (by omega))
          clear hls hl2
          go_upto_region 3 with fail
          go_quiet ((go_at_call 60; exact hL.quiet))
          clear hL c1 c2 h0 p2 p4
          go_wp2_with fail
          go_roundw
          case rel => exact ⟨i + 1, by omega, by omega, by go_num, Lib.hid ⟨y, HM.out.1.drewN _, HM.out.2.1, HN.out, trivial⟩⟩
          case measure => simp [RowKit.intOf]; omega
        · have hl2 : ltB (y a) (y i) = true := by unfold ltB; simpa using hls
          rw [hl2] at hL
          have hge : y a < y i := by omega
          have HGE := Lib.hid hge
          clear hls hl2 hge
          go_upto_region 3 with fail
          go_quiet ((go_at_call 60; exact hL.quiet))
          clear hL c1 c2 h0 p1 p2 p3 p4
          go_wp2_with fail
          go_loopw [10] (fun s10 wx => ∃ j : Nat, i ≤ j + 1 ∧ j ≤ j0 ∧ s10 = .int .i64 (j : Int) ∧ Hid (PrtsE W0 B n a b y0 i j (fun y => y a < y i) wx)) (fun s10 _ => (RowKit.intOf s10).toNat)
          case atStart => exact ⟨j0, by omega, Nat.le_refl _, rfl, Lib.hid ⟨y, HM.out.1.drewN _, HM.out.2.1, HM.out.2.2, HGE.out⟩⟩
          case round =>
            clear HM HGE
            obtain ⟨j, hj1, hj2, rfl, HI⟩ := hrel
            obtain ⟨wp, hwp⟩ : ∃ wp : World, wp = wr := ⟨_, rfl⟩
            subst hwp
            obtain ⟨y2, hm, hsw, hp, hq⟩ := HI.out
            clear HI
            by_cases hlt2 : i ≤ j
            · have h0 : decide (i ≤ j) = true := by simpa using hlt2
              have hL := less_any (y2 a) (y2 j)
              have c1 := hm.cell (k := j) (by omega)
              have c2 := hm.cell (k := a) (by omega)
              have p1 : (0 : Int) ≤ (j : Int) := Int.natCast_nonneg _
              have p2 : (0 : Int) ≤ (a : Int) := Int.natCast_nonneg _
              have p3 : (j : Int) < (n : Int) := by omega
              have p4 : (a : Int) < (n : Int) := by omega
              have HM := Lib.hid (And.intro hm (And.intro hsw (And.intro hp hq)))
              clear hm hsw hp hq
              by_cases hls : y2 j ≤ y2 a
              · have hl2 : ltB (y2 a) (y2 j) = false := by unfold ltB; simpa using hls
                rw [hl2] at hL
                have hne : i ≠ j := fun e => by have := HM.out.2.2.2; rw [e] at this; omega
                have HSWP : Hid (MM.Prt a b (i + 1) (j - 1) (MM.swapU i j y2)) := Lib.hid (HM.out.2.2.1.swap (by omega) (by omega) (by have := HM.out.2.2.2; omega) (by omega))
                have hgt : ¬ (j : Int) < (i : Int) := by omega
                clear hls hl2
                go_upto_region 5 with fail
                go_quiet ((go_at_call 60; exact hL.quiet))
                clear hL c1 c2 h0 p1 p2 p3 p4
                have hmm := HM.out.1
                have c1 := hmm.cell (k := i) (by omega)
                have c2 := hmm.cell (k := j) (by omega)
                have f1 := hmm.free i
                have f2 := hmm.free j
                have c3 := hmm.swap_cell (i := i) (j := j) (by omega)
                have c4 := fun m => (hmm.drewN m).swap_cell (i := i) (j := j) (by omega)
                have HSP := Lib.hid (fun m => (hmm.drewN m).swap (i := i) (j := j) (by omega) (by omega))
                clear hmm
                have p1 : (0 : Int) ≤ (i : Int) := Int.natCast_nonneg _
                have r1 : (i : Int) < (n : Int) := by omega
                have p2 : (0 : Int) ≤ (j : Int) := Int.natCast_nonneg _
                have r2 : (j : Int) < (n : Int) := by omega
                go_upto_region 8 with fail
                generalize y2 i = yI at *
                generalize y2 j = yJ at *
                go_region
                clear c1 c2 c3 c4 f1 f2 p1 r1 p2 r2
                go_wp2_with fail
                go_roundw
                case rel => exact ⟨i + 1, j - 1, by omega, by omega, by omega, by go_num, by go_num, Lib.hid ⟨_, HSP.out _, HM.out.2.1.step i j ⟨by omega, by omega⟩ ⟨by omega, by omega⟩, HSWP.out, trivial⟩⟩
                case measure => simp [RowKit.intOf]; omega
              · have hl2 : ltB (y2 a) (y2 j) = true := by unfold ltB; simpa using hls
                rw [hl2] at hL
                have HN : Hid (MM.Prt a b i (j - 1) y2) := Lib.hid (HM.out.2.2.1.right (by omega))
                clear hls hl2
                go_upto_region 5 with fail
                go_quiet ((go_at_call 60; exact hL.quiet))
                clear hL c1 c2 h0 p2 p4
                go_wp2_with fail
                go_roundw
                case rel => exact ⟨j - 1, by omega, by omega, by go_num, Lib.hid ⟨y2, HM.out.1.drewN _, HM.out.2.1, HN.out, HM.out.2.2.2⟩⟩
                case measure => simp [RowKit.intOf]; omega
            · have h0 : decide (i ≤ j) = false := by simpa using hlt2
              have he : i = j + 1 := by omega
              have HM := Lib.hid (And.intro hm (And.intro hsw (show MM.Prt a b (j + 1) j y2 from he ▸ hp)))
              have hgt : (j : Int) < (i : Int) := by omega
              clear hm hsw hp hq he
              go_upto_region 5 with fail
              go_quiet (fail)
              go_wp2_with fail
              go_ret
              exact ⟨i, rfl, by omega, by omega, _, HM.out.1.drewN _, HEND.out i j _ (by omega) HM.out.2.1 HM.out.2.2⟩
      · obtain ⟨y2, hm, hsw, hp, _⟩ := HI.out
        clear HI
        have h0 : decide (i ≤ j0) = false := by simpa using hlt
        have he : i = j0 + 1 := by omega
        have HM := Lib.hid (And.intro hm (And.intro hsw (show MM.Prt a b (j0 + 1) j0 y2 from he ▸ hp)))
        have hgt : (j0 : Int) < (i : Int) := by omega
        clear hm hsw hp he
        go_upto_region 3 with fail
        go_quiet (fail)
        go_wp2_with fail
        refine wp_loop_rounds 1 ?_
        rw [rounds_succ]
        go_upto_region 5 with fail
        go_quiet (fail)
        go_wp2_with fail
        go_ret
        exact ⟨i, rfl, by omega, by omega, _, HM.out.1.drewN _, HEND.out i j0 _ (by omega) HM.out.2.1 HM.out.2.2⟩
end M
end Go.Proofs.Ytebplinighoagaa
