/- The library's sort beyond insertion: the parting of a row by a pivot. -/
import Derived.Test.YtebplinighoagaaSort5
namespace Go.Proofs.Ytebplinighoagaa
open Go Go.RowKit Go.Lib
namespace MM
/-- What stands between a and i is no more than the one at a, what stands behind j no less. -/
def Prt (a b i j : Nat) (y : Nat → Nat) : Prop := (∀ p, a < p → p < i → y p ≤ y a) ∧ (∀ p, j < p → p < b → y a ≤ y p)
theorem Prt.start (a b : Nat) (y : Nat → Nat) : Prt a b (a + 1) (b - 1) y := ⟨fun p h1 h2 => absurd h2 (by omega), fun p h1 h2 => absurd h2 (by omega)⟩
theorem Prt.left {a b i j : Nat} {y : Nat → Nat} (h : Prt a b i j y) (hle : y i ≤ y a) : Prt a b (i + 1) j y := ⟨fun p h1 h2 => by
  by_cases e : p = i
  · rw [e]; exact hle
  · exact h.1 p h1 (by omega), h.2⟩
theorem Prt.right {a b i j : Nat} {y : Nat → Nat} (h : Prt a b i j y) (hle : y a ≤ y j) : Prt a b i (j - 1) y := ⟨h.1, fun p h1 h2 => by
  by_cases e : p = j
  · rw [e]; exact hle
  · exact h.2 p (by omega) h2⟩
theorem Prt.swap {a b i j : Nat} {y : Nat → Nat} (h : Prt a b i j y) (hi : a < i) (hij : i < j) (h1 : y a ≤ y i) (h2 : y j ≤ y a) : Prt a b (i + 1) (j - 1) (swapU i j y) := by
  have ea : swapU i j y a = y a := by unfold swapU; rw [if_neg (by omega), if_neg (by omega)]
  refine ⟨fun p x1 x2 => ?_, fun p x1 x2 => ?_⟩
  · rw [ea]
    by_cases e : p = i
    · subst e; unfold swapU; rw [if_pos rfl]; exact h2
    · have : swapU i j y p = y p := by unfold swapU; rw [if_neg e, if_neg (by omega)]
      rw [this]; exact h.1 p x1 (by omega)
  · rw [ea]
    by_cases e : p = j
    · subst e; unfold swapU; rw [if_neg (by omega), if_pos rfl]; exact h1
    · have : swapU i j y p = y p := by unfold swapU; rw [if_neg (by omega), if_neg e]
      rw [this]; exact h.2 p (by omega) x2
/-- The row is parted at a place. -/
def Parted (a b m : Nat) (y : Nat → Nat) : Prop := (∀ p, a ≤ p → p < m → y p ≤ y m) ∧ (∀ p, m < p → p < b → y m ≤ y p)
theorem Prt.done {a b j : Nat} {y : Nat → Nat} (h : Prt a b (j + 1) j y) (ha : a ≤ j) : Parted a b j (swapU j a y) := by
  have ej : swapU j a y j = y a := by unfold swapU; rw [if_pos rfl]
  refine ⟨fun p x1 x2 => ?_, fun p x1 x2 => ?_⟩
  · rw [ej]
    by_cases e : p = a
    · subst e
      have : swapU j p y p = y j := by unfold swapU; rw [if_neg (by omega), if_pos rfl]
      rw [this]; exact h.1 j (by omega) (by omega)
    · have : swapU j a y p = y p := by unfold swapU; rw [if_neg (by omega), if_neg e]
      rw [this]; exact h.1 p (by omega) (by omega)
  · rw [ej]
    have : swapU j a y p = y p := by unfold swapU; rw [if_neg (by omega), if_neg (by omega)]
    rw [this]; exact h.2 p x1 x2
end MM
namespace M
theorem Mine.swap_cell {w0 w : World} {B n : Nat} {z : Nat → Nat} (h : Mine w0 B n z w) {i j : Nat} (hj : j < n) : (w.setCell ⟨B, i, none⟩ (.int .u64 ((z j : Nat) : Int))).cell? ⟨B, j, none⟩ = some (.int .u64 ((z j : Nat) : Int)) := by
  have h1 := h.set (y := fun k => if k = i then z j else z k) i (z j) (fun _ _ => rfl)
  have h2 := h1.cell hj
  by_cases e : j = i
  · simpa [e] using h2
  · simpa [e] using h2
/-- The row while it is parted. -/
def Prts (W0 : World) (B n a b : Nat) (z : Nat → Nat) (i j : Nat) (Q : (Nat → Nat) → Prop) (w : World) : Prop := ∃ y, Mine W0 B n y w ∧ MM.Sw a b z y ∧ MM.Prt a b i j y ∧ Q y
/-- What parting hands back. -/
def PartR (W0 : World) (B n a b : Nat) (z : Nat → Nat) (e : Ending) (w' : World) : Prop := ∃ (m : Nat) (r : Bool), e = .returned (.tuple #[.int .i64 (m : Int), .bool r]) ∧ a ≤ m ∧ m < b ∧ Srt W0 B n a b z (MM.Parted a b m) w'

set_option maxRecDepth 100000 in
set_option maxHeartbeats 16000000 in
theorem partition_any (W0 : World) (B n cap a b p : Nat) (z : Nat → Nat) (hn : n ≤ 1000000) (hb : b ≤ n) (hap : a < p) (hpb : p < b) (w : World) (hM : Mine W0 B n z w) :
    Calls Try.prog 62 #[.slice (some ⟨B, 0, none⟩) n cap, .int .i64 (a : Int), .int .i64 (b : Int), .int .i64 (p : Int)] w (PartR W0 B n a b z) := by
  go_enter Try.func62, Try.ntmps62
  have hmm := hM
  have c1 := hmm.cell (k := a) (by omega)
  have c2 := hmm.cell (k := p) (by omega)
  have f1 := hmm.free a
  have f2 := hmm.free p
  have c3 := hmm.swap_cell (i := a) (j := p) (by omega)
  have c4 := fun m => (hmm.drewN m).swap_cell (i := a) (j := p) (by omega)
  have HSP := Lib.hid (fun m => (hmm.drewN m).swap (i := a) (j := p) (by omega) (by omega))
  clear hmm
  have p1 : (0 : Int) ≤ (a : Int) := Int.natCast_nonneg _
  have r1 : (a : Int) < (n : Int) := by omega
  have p2 : (0 : Int) ≤ (p : Int) := Int.natCast_nonneg _
  have r2 : (p : Int) < (n : Int) := by omega
  go_upto_region 1 with fail
  generalize z a = yI at *
  generalize z p = yJ at *
  go_region
  clear c1 c2 c3 c4 f1 f2 p1 r1 p2 r2
  clear hM
  obtain ⟨J, hJ⟩ : ∃ J, J + 1 = b := ⟨b - 1, by omega⟩
  have eJ : (b : Int) - 1 = (J : Int) := by omega
  have HS : Hid (∀ m, Prts W0 B n a b z (a + 1) J (fun _ => True) _) := Lib.hid (fun m => ⟨_, HSP.out m, MM.Sw.refl.step a p ⟨by omega, by omega⟩ ⟨by omega, by omega⟩, by have := MM.Prt.start a b (MM.swapU a p z); rwa [show b - 1 = J by omega] at this, trivial⟩)

  go_wp2_with fail
  go_loopw [10] (fun s10 wx => ∃ i : Nat, a + 1 ≤ i ∧ i ≤ J + 1 ∧ s10 = .int .i64 (i : Int) ∧ Hid (Prts W0 B n a b z i J (fun _ => True) wx)) (fun s10 _ => J + 1 - (RowKit.intOf s10).toNat)
  case atStart => exact ⟨a + 1, Nat.le_refl _, by omega, by go_num, Lib.hid (HS.out _)⟩
  case round =>
    clear HS
    obtain ⟨i, hi1, hi2, rfl, HI⟩ := hrel
    obtain ⟨wo, hwo⟩ : ∃ wo : World, wo = wr := ⟨_, rfl⟩
    subst hwo
    by_cases hlt : i ≤ J
    · obtain ⟨y, hm, hsw, hp, _⟩ := HI.out
      clear HI
      have h0 : decide (i ≤ J) = true := by simpa using hlt
      have hL := less_any (y i) (y a)
      have c1 := hm.cell (k := i) (by omega)
      have c2 := hm.cell (k := a) (by omega)
      have p1 : (0 : Int) ≤ (i : Int) := Int.natCast_nonneg _
      have p2 : (0 : Int) ≤ (a : Int) := Int.natCast_nonneg _
      have p3 : (i : Int) < (n : Int) := by omega
      have p4 : (a : Int) < (n : Int) := by omega
      have HM := Lib.hid (And.intro hm (And.intro hsw hp))
      clear hm hsw hp
      by_cases hls : y i < y a
      · have hl2 : ltB (y i) (y a) = true := by unfold ltB; simpa using hls
        rw [hl2] at hL
        have HN : Hid (MM.Prt a b (i + 1) J y) := Lib.hid (HM.out.2.2.left (by omega))
        clear hls hl2
        go_upto_region 3 with fail
        go_quiet ((go_at_call 60; exact hL.quiet))
        clear hL c1 c2 h0 p2 p4
        go_wp2_with fail
        go_roundw
        case rel => exact ⟨i + 1, by omega, by omega, by go_num, Lib.hid ⟨y, HM.out.1.drewN _, HM.out.2.1, HN.out, trivial⟩⟩
        case measure => simp [RowKit.intOf]; omega
      · have hl2 : ltB (y i) (y a) = false := by unfold ltB; simpa using hls
        rw [hl2] at hL
        have hge : y a ≤ y i := by omega
        have HGE := Lib.hid hge
        clear hls hl2 hge
        go_upto_region 3 with fail
        go_quiet ((go_at_call 60; exact hL.quiet))
        clear hL c1 c2 h0 p1 p2 p3 p4
        go_wp2_with fail
        go_loopw [11] (fun s11 wx => ∃ j : Nat, i ≤ j + 1 ∧ j ≤ J ∧ s11 = .int .i64 (j : Int) ∧ Hid (Prts W0 B n a b z i j (fun y => y a ≤ y i) wx)) (fun s11 _ => (RowKit.intOf s11).toNat)
        case atStart => exact ⟨J, by omega, Nat.le_refl _, rfl, Lib.hid ⟨y, HM.out.1.drewN _, HM.out.2.1, HM.out.2.2, HGE.out⟩⟩
        case round =>
          clear HM HGE
          obtain ⟨j, hj1, hj2, rfl, HI⟩ := hrel
          obtain ⟨wp, hwp⟩ : ∃ wp : World, wp = wr := ⟨_, rfl⟩
          subst hwp
          obtain ⟨y2, hm, hsw, hp, hq⟩ := HI.out
          clear HI
          by_cases hlt2 : i ≤ j
          · have h0 : decide (i ≤ j) = true := by simpa using hlt2
            have hL := less_any (y2 j) (y2 a)
            have c1 := hm.cell (k := j) (by omega)
            have c2 := hm.cell (k := a) (by omega)
            have p1 : (0 : Int) ≤ (j : Int) := Int.natCast_nonneg _
            have p2 : (0 : Int) ≤ (a : Int) := Int.natCast_nonneg _
            have p3 : (j : Int) < (n : Int) := by omega
            have p4 : (a : Int) < (n : Int) := by omega
            have HM := Lib.hid (And.intro hm (And.intro hsw (And.intro hp hq)))
            clear hm hsw hp hq
            by_cases hls : y2 j < y2 a
            · have hl2 : ltB (y2 j) (y2 a) = true := by unfold ltB; simpa using hls
              rw [hl2] at hL
              have hne : i ≠ j := fun e => by have := HM.out.2.2.2; rw [e] at this; omega
              have HSWP : Hid (MM.Prt a b (i + 1) (j - 1) (MM.swapU i j y2)) := Lib.hid (HM.out.2.2.1.swap (by omega) (by omega) (by have := HM.out.2.2.2; omega) (by omega))
              have hgt : ¬ (j : Int) < (i : Int) := by omega
              clear hls hl2
              go_upto_region 5 with fail
              go_quiet ((go_at_call 60; exact hL.quiet))
              clear hL c1 c2 h0 p1 p2 p3 p4
              have hmm := HM.out.1
              have c1 := hmm.cell (k := i) (by omega)
              have c2 := hmm.cell (k := j) (by omega)
              have f1 := hmm.free i
              have f2 := hmm.free j
              have c3 := hmm.swap_cell (i := i) (j := j) (by omega)
              have c4 := fun m => (hmm.drewN m).swap_cell (i := i) (j := j) (by omega)
              have HSP := Lib.hid (fun m => (hmm.drewN m).swap (i := i) (j := j) (by omega) (by omega))
              clear hmm
              have p1 : (0 : Int) ≤ (i : Int) := Int.natCast_nonneg _
              have r1 : (i : Int) < (n : Int) := by omega
              have p2 : (0 : Int) ≤ (j : Int) := Int.natCast_nonneg _
              have r2 : (j : Int) < (n : Int) := by omega
              go_upto_region 10 with fail
              generalize y2 i = yI at *
              generalize y2 j = yJ at *
              go_region
              clear c1 c2 c3 c4 f1 f2 p1 r1 p2 r2
              go_wp2_with fail
              go_loopw [10, 11] (fun s10 s11 wx => ∃ i0 j0 : Nat, a + 1 ≤ i0 ∧ i0 ≤ j0 + 1 ∧ j0 < b ∧ s10 = .int .i64 (i0 : Int) ∧ s11 = .int .i64 (j0 : Int) ∧ Hid (Prts W0 B n a b z i0 j0 (fun _ => True) wx)) (fun s10 s11 _ => (RowKit.intOf s11).toNat + 1 - (RowKit.intOf s10).toNat)
              case atStart => exact ⟨i + 1, j - 1, by omega, by omega, by omega, by go_num, by go_num, Lib.hid ⟨_, HSP.out _, HM.out.2.1.step i j ⟨by omega, by omega⟩ ⟨by omega, by omega⟩, HSWP.out, trivial⟩⟩
              case round =>
                clear HSP HSWP HM
                obtain ⟨i0, j0, hi0, hij0, hj0, rfl, rfl, HS0⟩ := hrel
                obtain ⟨wq, hwq⟩ : ∃ wq : World, wq = wr := ⟨_, rfl⟩
                subst hwq
                have HS := Lib.hid (fun (_ : Nat) => HS0.out)
                clear HS0
                go_wp2_with fail
                go_loopw [10] (fun s10 wx => ∃ i : Nat, i0 ≤ i ∧ i ≤ j0 + 1 ∧ s10 = .int .i64 (i : Int) ∧ Hid (Prts W0 B n a b z i j0 (fun _ => True) wx)) (fun s10 _ => j0 + 1 - (RowKit.intOf s10).toNat)
                case atStart => exact ⟨i0, Nat.le_refl _, by omega, rfl, Lib.hid (HS.out 0)⟩
                case round =>
                  clear HS
                  obtain ⟨i, hi1, hi2, rfl, HI⟩ := hrel
                  obtain ⟨wo, hwo⟩ : ∃ wo : World, wo = wr := ⟨_, rfl⟩
                  subst hwo
                  by_cases hlt : i ≤ j0
                  · obtain ⟨y, hm, hsw, hp, _⟩ := HI.out
                    clear HI
                    have h0 : decide (i ≤ j0) = true := by simpa using hlt
                    have hL := less_any (y i) (y a)
                    have c1 := hm.cell (k := i) (by omega)
                    have c2 := hm.cell (k := a) (by omega)
                    have p1 : (0 : Int) ≤ (i : Int) := Int.natCast_nonneg _
                    have p2 : (0 : Int) ≤ (a : Int) := Int.natCast_nonneg _
                    have p3 : (i : Int) < (n : Int) := by omega
                    have p4 : (a : Int) < (n : Int) := by omega
                    have HM := Lib.hid (And.intro hm (And.intro hsw hp))
                    clear hm hsw hp
                    by_cases hls : y i < y a
                    · have hl2 : ltB (y i) (y a) = true := by unfold ltB; simpa using hls
                      rw [hl2] at hL
                      have HN : Hid (MM.Prt a b (i + 1) j0 y) := Lib.hid (HM.out.2.2.left (by omega))
                      clear hls hl2
                      go_upto_region 13 with fail
                      go_quiet ((go_at_call 60; exact hL.quiet))
                      clear hL c1 c2 h0 p2 p4
                      go_wp2_with fail
                      go_roundw
                      case rel => exact ⟨i + 1, by omega, by omega, by go_num, Lib.hid ⟨y, HM.out.1.drewN _, HM.out.2.1, HN.out, trivial⟩⟩
                      case measure => simp [RowKit.intOf]; omega
                    · have hl2 : ltB (y i) (y a) = false := by unfold ltB; simpa using hls
                      rw [hl2] at hL
                      have hge : y a ≤ y i := by omega
                      have HGE := Lib.hid hge
                      clear hls hl2 hge
                      go_upto_region 13 with fail
                      go_quiet ((go_at_call 60; exact hL.quiet))
                      clear hL c1 c2 h0 p1 p2 p3 p4
                      go_wp2_with fail
                      go_loopw [11] (fun s11 wx => ∃ j : Nat, i ≤ j + 1 ∧ j ≤ j0 ∧ s11 = .int .i64 (j : Int) ∧ Hid (Prts W0 B n a b z i j (fun y => y a ≤ y i) wx)) (fun s11 _ => (RowKit.intOf s11).toNat)
                      case atStart => exact ⟨j0, by omega, Nat.le_refl _, rfl, Lib.hid ⟨y, HM.out.1.drewN _, HM.out.2.1, HM.out.2.2, HGE.out⟩⟩
                      case round =>
                        clear HM HGE
                        obtain ⟨j, hj1, hj2, rfl, HI⟩ := hrel
                        obtain ⟨wp, hwp⟩ : ∃ wp : World, wp = wr := ⟨_, rfl⟩
                        subst hwp
                        obtain ⟨y2, hm, hsw, hp, hq⟩ := HI.out
                        clear HI
                        by_cases hlt2 : i ≤ j
                        · have h0 : decide (i ≤ j) = true := by simpa using hlt2
                          have hL := less_any (y2 j) (y2 a)
                          have c1 := hm.cell (k := j) (by omega)
                          have c2 := hm.cell (k := a) (by omega)
                          have p1 : (0 : Int) ≤ (j : Int) := Int.natCast_nonneg _
                          have p2 : (0 : Int) ≤ (a : Int) := Int.natCast_nonneg _
                          have p3 : (j : Int) < (n : Int) := by omega
                          have p4 : (a : Int) < (n : Int) := by omega
                          have HM := Lib.hid (And.intro hm (And.intro hsw (And.intro hp hq)))
                          clear hm hsw hp hq
                          by_cases hls : y2 j < y2 a
                          · have hl2 : ltB (y2 j) (y2 a) = true := by unfold ltB; simpa using hls
                            rw [hl2] at hL
                            have hne : i ≠ j := fun e => by have := HM.out.2.2.2; rw [e] at this; omega
                            have HSWP : Hid (MM.Prt a b (i + 1) (j - 1) (MM.swapU i j y2)) := Lib.hid (HM.out.2.2.1.swap (by omega) (by omega) (by have := HM.out.2.2.2; omega) (by omega))
                            have hgt : ¬ (j : Int) < (i : Int) := by omega
                            clear hls hl2
                            go_upto_region 15 with fail
                            go_quiet ((go_at_call 60; exact hL.quiet))
                            clear hL c1 c2 h0 p1 p2 p3 p4
                            have hmm := HM.out.1
                            have c1 := hmm.cell (k := i) (by omega)
                            have c2 := hmm.cell (k := j) (by omega)
                            have f1 := hmm.free i
                            have f2 := hmm.free j
                            have c3 := hmm.swap_cell (i := i) (j := j) (by omega)
                            have c4 := fun m => (hmm.drewN m).swap_cell (i := i) (j := j) (by omega)
                            have HSP := Lib.hid (fun m => (hmm.drewN m).swap (i := i) (j := j) (by omega) (by omega))
                            clear hmm
                            have p1 : (0 : Int) ≤ (i : Int) := Int.natCast_nonneg _
                            have r1 : (i : Int) < (n : Int) := by omega
                            have p2 : (0 : Int) ≤ (j : Int) := Int.natCast_nonneg _
                            have r2 : (j : Int) < (n : Int) := by omega
                            go_upto_region 18 with fail
                            generalize y2 i = yI at *
                            generalize y2 j = yJ at *
                            go_region
                            clear c1 c2 c3 c4 f1 f2 p1 r1 p2 r2
                            go_wp2_with fail
                            go_roundw
                            case rel => exact ⟨i + 1, j - 1, by omega, by omega, by omega, by go_num, by go_num, Lib.hid ⟨_, HSP.out _, HM.out.2.1.step i j ⟨by omega, by omega⟩ ⟨by omega, by omega⟩, HSWP.out, trivial⟩⟩
                            case measure => simp [RowKit.intOf]; omega
                          · have hl2 : ltB (y2 j) (y2 a) = false := by unfold ltB; simpa using hls
                            rw [hl2] at hL
                            have HN : Hid (MM.Prt a b i (j - 1) y2) := Lib.hid (HM.out.2.2.1.right (by omega))
                            clear hls hl2
                            go_upto_region 15 with fail
                            go_quiet ((go_at_call 60; exact hL.quiet))
                            clear hL c1 c2 h0 p2 p4
                            go_wp2_with fail
                            go_roundw
                            case rel => exact ⟨j - 1, by omega, by omega, by go_num, Lib.hid ⟨y2, HM.out.1.drewN _, HM.out.2.1, HN.out, HM.out.2.2.2⟩⟩
                            case measure => simp [RowKit.intOf]; omega
                        · have h0 : decide (i ≤ j) = false := by simpa using hlt2
                          have he : i = j + 1 := by omega
                          have HM := Lib.hid (And.intro hm (And.intro hsw (show MM.Prt a b (j + 1) j y2 from he ▸ hp)))
                          have hgt : (j : Int) < (i : Int) := by omega
                          clear hm hsw hp hq he
                          go_upto_region 15 with fail
                          go_quiet (fail)
                          have hmm := HM.out.1
                          have c1 := hmm.cell (k := j) (by omega)
                          have c2 := hmm.cell (k := a) (by omega)
                          have f1 := hmm.free j
                          have f2 := hmm.free a
                          have c3 := hmm.swap_cell (i := j) (j := a) (by omega)
                          have c4 := fun m => (hmm.drewN m).swap_cell (i := j) (j := a) (by omega)
                          have HSP := Lib.hid (fun m => (hmm.drewN m).swap (i := j) (j := a) (by omega) (by omega))
                          clear hmm
                          have p1 : (0 : Int) ≤ (j : Int) := Int.natCast_nonneg _
                          have r1 : (j : Int) < (n : Int) := by omega
                          have p2 : (0 : Int) ≤ (a : Int) := Int.natCast_nonneg _
                          have r2 : (a : Int) < (n : Int) := by omega
                          go_upto_region 21 with fail
                          generalize y2 j = yI at *
                          generalize y2 a = yJ at *
                          go_region
                          clear c1 c2 c3 c4 f1 f2 p1 r1 p2 r2
                          go_wp2_with fail
                          go_ret2
                          exact ⟨j, false, rfl, by omega, by omega, _, HSP.out _, (HM.out.2.1).step j a ⟨by omega, by omega⟩ ⟨by omega, by omega⟩, MM.Prt.done HM.out.2.2 (by omega)⟩
                  · obtain ⟨y2, hm, hsw, hp, _⟩ := HI.out
                    clear HI
                    have h0 : decide (i ≤ j0) = false := by simpa using hlt
                    have he : i = j0 + 1 := by omega
                    have HM := Lib.hid (And.intro hm (And.intro hsw (show MM.Prt a b (j0 + 1) j0 y2 from he ▸ hp)))
                    have hgt : (j0 : Int) < (i : Int) := by omega
                    clear hm hsw hp he
                    go_upto_region 13 with fail
                    go_quiet (fail)
                    go_wp2_with fail
                    refine wp_loop_rounds 1 ?_
                    rw [rounds_succ]
                    go_upto_region 15 with fail
                    go_quiet (fail)
                    have hmm := HM.out.1
                    have c1 := hmm.cell (k := j0) (by omega)
                    have c2 := hmm.cell (k := a) (by omega)
                    have f1 := hmm.free j0
                    have f2 := hmm.free a
                    have c3 := hmm.swap_cell (i := j0) (j := a) (by omega)
                    have c4 := fun m => (hmm.drewN m).swap_cell (i := j0) (j := a) (by omega)
                    have HSP := Lib.hid (fun m => (hmm.drewN m).swap (i := j0) (j := a) (by omega) (by omega))
                    clear hmm
                    have p1 : (0 : Int) ≤ (j0 : Int) := Int.natCast_nonneg _
                    have r1 : (j0 : Int) < (n : Int) := by omega
                    have p2 : (0 : Int) ≤ (a : Int) := Int.natCast_nonneg _
                    have r2 : (a : Int) < (n : Int) := by omega
                    go_upto_region 21 with fail
                    generalize y2 j0 = yI at *
                    generalize y2 a = yJ at *
                    go_region
                    clear c1 c2 c3 c4 f1 f2 p1 r1 p2 r2
                    go_wp2_with fail
                    go_ret2
                    exact ⟨j0, false, rfl, by omega, by omega, _, HSP.out _, (HM.out.2.1).step j0 a ⟨by omega, by omega⟩ ⟨by omega, by omega⟩, MM.Prt.done HM.out.2.2 (by omega)⟩
            · have hl2 : ltB (y2 j) (y2 a) = false := by unfold ltB; simpa using hls
              rw [hl2] at hL
              have HN : Hid (MM.Prt a b i (j - 1) y2) := Lib.hid (HM.out.2.2.1.right (by omega))
              clear hls hl2
              go_upto_region 5 with fail
              go_quiet ((go_at_call 60; exact hL.quiet))
              clear hL c1 c2 h0 p2 p4
              go_wp2_with fail
              go_roundw
              case rel => exact ⟨j - 1, by omega, by omega, by go_num, Lib.hid ⟨y2, HM.out.1.drewN _, HM.out.2.1, HN.out, HM.out.2.2.2⟩⟩
              case measure => simp [RowKit.intOf]; omega
          · have h0 : decide (i ≤ j) = false := by simpa using hlt2
            have he : i = j + 1 := by omega
            have HM := Lib.hid (And.intro hm (And.intro hsw (show MM.Prt a b (j + 1) j y2 from he ▸ hp)))
            have hgt : (j : Int) < (i : Int) := by omega
            clear hm hsw hp hq he
            go_upto_region 5 with fail
            go_quiet (fail)
            have hmm := HM.out.1
            have c1 := hmm.cell (k := j) (by omega)
            have c2 := hmm.cell (k := a) (by omega)
            have f1 := hmm.free j
            have f2 := hmm.free a
            have c3 := hmm.swap_cell (i := j) (j := a) (by omega)
            have c4 := fun m => (hmm.drewN m).swap_cell (i := j) (j := a) (by omega)
            have HSP := Lib.hid (fun m => (hmm.drewN m).swap (i := j) (j := a) (by omega) (by omega))
            clear hmm
            have p1 : (0 : Int) ≤ (j : Int) := Int.natCast_nonneg _
            have r1 : (j : Int) < (n : Int) := by omega
            have p2 : (0 : Int) ≤ (a : Int) := Int.natCast_nonneg _
            have r2 : (a : Int) < (n : Int) := by omega
            go_upto_region 8 with fail
            generalize y2 j = yI at *
            generalize y2 a = yJ at *
            go_region
            clear c1 c2 c3 c4 f1 f2 p1 r1 p2 r2
            go_wp2_with fail
            go_ret2
            exact ⟨j, true, rfl, by omega, by omega, _, HSP.out _, (HM.out.2.1).step j a ⟨by omega, by omega⟩ ⟨by omega, by omega⟩, MM.Prt.done HM.out.2.2 (by omega)⟩
    · obtain ⟨y2, hm, hsw, hp, _⟩ := HI.out
      clear HI
      have h0 : decide (i ≤ J) = false := by simpa using hlt
      have he : i = J + 1 := by omega
      have HM := Lib.hid (And.intro hm (And.intro hsw (show MM.Prt a b (J + 1) J y2 from he ▸ hp)))
      have hgt : (J : Int) < (i : Int) := by omega
      clear hm hsw hp he
      go_upto_region 3 with fail
      go_quiet (fail)
      go_wp2_with fail
      refine wp_loop_rounds 1 ?_
      rw [rounds_succ]
      go_upto_region 5 with fail
      go_quiet (fail)
      have hmm := HM.out.1
      have c1 := hmm.cell (k := J) (by omega)
      have c2 := hmm.cell (k := a) (by omega)
      have f1 := hmm.free J
      have f2 := hmm.free a
      have c3 := hmm.swap_cell (i := J) (j := a) (by omega)
      have c4 := fun m => (hmm.drewN m).swap_cell (i := J) (j := a) (by omega)
      have HSP := Lib.hid (fun m => (hmm.drewN m).swap (i := J) (j := a) (by omega) (by omega))
      clear hmm
      have p1 : (0 : Int) ≤ (J : Int) := Int.natCast_nonneg _
      have r1 : (J : Int) < (n : Int) := by omega
      have p2 : (0 : Int) ≤ (a : Int) := Int.natCast_nonneg _
      have r2 : (a : Int) < (n : Int) := by omega
      go_upto_region 8 with fail
      generalize y2 J = yI at *
      generalize y2 a = yJ at *
      go_region
      clear c1 c2 c3 c4 f1 f2 p1 r1 p2 r2
      go_wp2_with fail
      go_ret2
      exact ⟨J, true, rfl, by omega, by omega, _, HSP.out _, (HM.out.2.1).step J a ⟨by omega, by omega⟩ ⟨by omega, by omega⟩, MM.Prt.done HM.out.2.2 (by omega)⟩
end M
end Go.Proofs.Ytebplinighoagaa
