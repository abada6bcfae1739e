/- The walks of the document's own row, of what turns a polynomial about, and of its column (consistoryref06). -/
import Derived.Test.YtccpdjjgpkkkbaaBivR1
import Derived.Laws.OwnMore
import Derived.Lib.AppendZeros
namespace Go.Proofs.Ytccpdjjgpkkkbaa
open Go Go.RowKit Go.Lib
namespace M
section
variable {w0 w w' : World} {B k : Nat} {v : Value} {z : Nat → Nat}
/-- One number more behind a row of the call's own. -/
theorem Own.push (h : Own w0 B v k z w) (c : Nat) (hk : k ≤ 900000) :
    ∃ v' w', (Builtin.append_ #[23, 23] 23 #[v, .slice (some ⟨w.heap.size, 0, none⟩) 1 c]).run Try.prog (w.alloc (.cells #[.int .u64 ((z k : Nat) : Int)] 22)) = .ok v' w' ∧ Own w0 B v' (k + 1) z w' := by
  obtain ⟨i0, hi, hz0, hz1, hz2⟩ := info_parts info_u64
  have ha := h.alloc (.cells #[.int .u64 ((z k : Nat) : Int)] 22)
  obtain ⟨v', w', hr, ho, hg, _⟩ := run_append_own (P := Try.prog) _ B 23 23 22 i0 (.int .u64 0) 1 8 Try.underlying23 hi hz0 hz1 hz2 rfl (by decide) v k (zlist k z) ha.own ⟨w.heap.size, 0, none⟩ 1 c [.int .u64 ((z k : Nat) : Int)] rfl (fun j u hj => by
    have hl := (List.getElem?_eq_some_iff.1 hj).1
    obtain rfl : j = 0 := by simpa using hl
    cases hj
    rw [add_zero', cell_of_row _ _ _ _ _ _ (heap_alloc_new w _)]; rfl) (by simp [Value.oneCell']) (by unfold maxLen; omega) (by omega) ha.size
  exact ⟨v', w', hr, ha.grow ho (zlist_succ k z) hg⟩
theorem run_made_cap (n : Nat) (hn : n ≤ 1000000000) (w : World) :
    (Instr.makeSlice 23 (.int .i64 0) (.int .i64 (n : Int))).run Try.prog w = .ok (.slice (some ⟨w.heap.size, 0, none⟩) 0 n) (w.alloc (.cells (madeCells (Value.int .u64 0).cells (n * 1)) 22)) := by
  obtain ⟨i0, hi, hz0, hz1, hz2⟩ := info_parts info_u64
  have hr := run_make (P := Try.prog) w 23 22 i0 (.int .u64 0) Try.underlying23 hi hz0 .i64 .i64 (0 : Nat) n (by omega) (by omega) (by rw [hz2]; omega) (by omega)
  simp only [Int.toNat_natCast, hz1] at hr
  exact hr
theorem Own.made0 (w : World) (n : Nat) (hn : n ≤ 1000000000) (z : Nat → Nat) : Own w w.heap.size (.slice (some ⟨w.heap.size, 0, none⟩) 0 n) 0 z (w.alloc (.cells (madeCells (Value.int .u64 0).cells (n * 1)) 22)) :=
  ⟨World.ownsRow_made w _ n (Nat.le_refl _) (by unfold maxLen; omega) (by rw [size_madeCells]), by simp, Nat.le_refl _, below_box _ _⟩
/-- A row is copied behind an empty one of the call's own. -/
theorem Own.copy (h : Own w0 B v 0 z w) {ao : Option Addr} {n c : Nat} (hn : n ≤ 1000) (hs : SrcN w ao n c z) :
    ∃ v' w', (Builtin.append_ #[23, 23] 23 #[v, .slice ao n c]).run Try.prog w = .ok v' w' ∧ Own w0 B v' n z w' := by
  obtain ⟨i0, hi, hz0, hz1, hz2⟩ := info_parts info_u64
  cases ao with
  | none =>
    obtain ⟨rfl, rfl⟩ := hs.2 rfl
    exact ⟨v, w, run_append_owned_none (P := Try.prog) w B 23 23 22 i0 1 Try.underlying23 hi v 0 (zlist 0 z) h.own, h⟩
  | some a =>
    obtain ⟨v', w', hr, ho, hg, _⟩ := run_append_own (P := Try.prog) w B 23 23 22 i0 (.int .u64 0) 1 8 Try.underlying23 hi hz0 hz1 hz2 rfl (by decide) v 0 (zlist 0 z) h.own a n c (zlist n z) (zlist_len n z) (fun j u hj => by
      have hl := (List.getElem?_eq_some_iff.1 hj).1
      rw [zlist_len] at hl
      obtain ⟨ad, e, hr⟩ := hs.1 (by omega)
      cases e
      exact zlist_cells hr j u hj) (zlist_one n z) (by unfold maxLen; omega) (by omega) h.size
    rw [Nat.zero_add] at ho
    exact ⟨v', w', hr, h.grow ho (by simp [zlist]) hg⟩
end
set_option maxRecDepth 100000 in
set_option maxHeartbeats 8000000 in
theorem rrow_any (ao : Option Addr) (cap m x q : Nat) (L : Nat → Nat) (F : Nat → Nat → Nat) (hm : m ≤ 1000) (hl : ∀ i, i < m → L i ≤ 1000) (hx : x < 18446744073709551616) (W : World) (hr : Mat W ao m L F) :
    Calls Try.prog 17 #[.slice ao m cap, .int .u64 (x : Int), .int .u64 (q : Int)] W fun e w' => e = .returned (.slice (some ⟨W.heap.size, 0, none⟩) (MM.widU L m) (MM.widU L m)) ∧ Mine W W.heap.size (MM.widU L m) (fun j => MM.rowP q x L F j m) w' := by
  have HR := Lib.hid hr
  have HL := Lib.hid hl
  have HLO := Lib.hid (wide_any ao cap m L F (by omega) (fun i h => Nat.le_trans (hl i h) (by omega)) W hr)
  have HLE := Lib.hid (fun i (h : i < m) => MM.le_widU (L := L) h)
  have hN := MM.widU_le m hl
  generalize MM.widU L m = N at *
  have HM0 := Mine.made W N
  have hmk := run_made N (by omega)
  obtain ⟨W1, hW1⟩ : ∃ W1, W.alloc (.cells (madeCells (Value.int .u64 0).cells (N * 1)) 22) = W1 := ⟨_, rfl⟩
  obtain ⟨B, hB⟩ : ∃ B, W.heap.size = B := ⟨_, rfl⟩
  rw [hW1] at HM0
  rw [hB] at HM0 ⊢
  have hmk0 : (Instr.makeSlice 23 (.int .i64 (N : Int)) (.int .i64 (N : Int))).run Try.prog W = .ok (.slice (some ⟨B, 0, none⟩) N N) W1 := by rw [hmk, hW1, hB]
  have HM1 : Hid (Mine W B N (fun _ => 0) W1) := Lib.hid HM0
  clear hr hl HM0 hmk hW1 hB
  go_enter Try.func17, Try.ntmps17
  go_wp2_with (go_at_call 28; refine HLO.out.mono ?_; rintro e w1 ⟨rfl, rfl⟩)
  clear hmk0 HLO
  go_loopw [8] (fun s8 wx => ∃ k : Nat, k ≤ m ∧ s8 = .int .i64 (k : Int) ∧ Hid (Mine W B N (fun j => MM.rowP q x L F j k) wx)) (fun s8 _ => m - (RowKit.intOf s8).toNat)
  case atStart => exact ⟨0, Nat.zero_le _, rfl, HM1⟩
  case round =>
    clear HM1
    obtain ⟨k, hk, rfl, HJ⟩ := hrel
    obtain ⟨wo, hwo⟩ : ∃ wo : World, wo = wr := ⟨_, rfl⟩
    subst hwo
    by_cases hlt : k < m
    · obtain ⟨ad, bo, c, rfl, hc0, hs, _⟩ := HR.out k hlt
      have hkI : (k : Int) < (m : Int) := by omega
      have hk0 : (0 : Int) ≤ (k : Int) := Int.natCast_nonneg _
      have HC := Lib.hid (fun (u : World) (hb : Below W.heap.size W u) => (hb.cell (World.block_lt_of_cell? W _ hc0)).trans hc0)
      have hlk := HL.out k hlt
      have hlw := HLE.out k hlt
      have HP := rpower_any x k q hx (by omega)
      have HS := Lib.hid (fun (u : World) (hb : Below W.heap.size W u) => (hs.below hb : Rd u bo (L k) (F k)))
      have HKE := Lib.hid (MM.rowK_end q x L F k)
      have HJ0 : Hid (Mine W B N (MM.rowK q x L F k 0) wo) := Lib.hid (HJ.out.congr fun j _ => (MM.rowK_zero q x L F k j).symm)
      have HPL := MM.powU_lt x k q
      have HKS := Lib.hid (fun j i => MM.rowK_step q x L F k j i)
      generalize MM.powU x k q = pk at *
      generalize L k = lk at *
      clear hs HJ hc0
      go_wp2_with fail
      go_loopw [9] (fun s9 wx => ∃ j : Nat, j ≤ lk ∧ s9 = .int .i64 (j : Int) ∧ Hid (Mine W B N (MM.rowK q x L F k j) wx)) (fun s9 _ => lk - (RowKit.intOf s9).toNat)
      case atStart => exact ⟨0, Nat.zero_le _, rfl, HJ0⟩
      case round =>
        clear HJ0
        obtain ⟨j, hj, rfl, HI⟩ := hrel
        have hc := HC.out _ HI.out.below
        by_cases hlj : j < lk
        · obtain ⟨bd, rfl, hcb⟩ := (HS.out _ HI.out.below).at_ hlj
          have hjI : (j : Int) < (lk : Int) := by omega
          have hj0 : (0 : Int) ≤ (j : Int) := Int.natCast_nonneg _
          go_upto_region 8 with fail
          have HNN : Hid (∀ nq, Mine W B N (MM.rowK q x L F k (j + 1)) ((wr.drewN nq).setCell ⟨B, j, none⟩ (.int .u64 ((MM.addU (MM.rowK q x L F k j j) (MM.mulU (F k j) pk q) q : Nat) : Int)))) := Lib.hid fun nq => (HI.out.drewN nq).set j _ fun i hi => HKS.out j i
          have hcl : wr.cell? ⟨B, j, none⟩ = some (.int .u64 ((MM.rowK q x L F k j j : Nat) : Int)) := HI.out.cell (by omega)
          have hfr : wr.frozen? ⟨B, j, none⟩ = false := HI.out.free j
          have HM := rmulU (F k j) pk q HPL
          have HA := raddU (MM.rowK q x L F k j j) (MM.mulU (F k j) pk q) q
          generalize MM.mulU (F k j) pk q = x1 at *
          generalize MM.addU (MM.rowK q x L F k j j) x1 q = x2 at *
          generalize MM.rowK q x L F k j j = x0 at *
          have hj1 : (j : Int) < (N : Int) := by omega
          refine QT.region 22 (by kernel_rfl) (by kernel_rfl) ?_
          simp only [List.take_succ_cons, List.take_zero, List.drop_succ_cons, List.drop_zero]
          repeat (quiet_step ((first | (go_at_call 30; exact (HP).quiet) | (go_at_call 29; exact (HM).quiet) | (go_at_call 31; exact (HA).quiet))))
          refine wpQuiet_nil ?_
          intro nq
          go_wp2_with fail
          clear hj0 hj1 hcl hfr HM HA
          go_roundw
          case rel => exact ⟨j + 1, by omega, by go_num, Lib.hid (HNN.out nq)⟩
          case measure => simp [RowKit.intOf]; omega
        · have hjI : ¬ (j : Int) < (lk : Int) := by omega
          obtain rfl : j = lk := by omega
          go_wp2_with fail
          go_roundw
          case rel => exact ⟨k + 1, by omega, by go_num, Lib.hid (HI.out.congr fun i _ => HKE.out i)⟩
          case measure => simp [RowKit.intOf]; omega
    · have hkI : ¬ (k : Int) < (m : Int) := by omega
      obtain rfl : k = m := by omega
      go_wp2_with fail
      go_ret
      exact ⟨rfl, HJ.out⟩
set_option maxRecDepth 100000 in
set_option maxHeartbeats 8000000 in
theorem rturned_any (ao : Option Addr) (cap m : Nat) (L : Nat → Nat) (F : Nat → Nat → Nat) (hm : m ≤ 1000) (hl : ∀ i, i < m → L i ≤ 1000) (W : World) (hr : Mat W ao m L F) :
    Calls Try.prog 21 #[.slice ao m cap] W fun e w' => ∃ v, e = .returned v ∧ OwnR W W.heap.size v (MM.widU L m) (fun _ => m) (MM.trn L F) w' := by
  have HR := Lib.hid hr
  have HL := Lib.hid hl
  have HLO := Lib.hid (fun (u : World) (hb : Below W.heap.size W u) => wide_any ao cap m L F (by omega) (fun i h => Nat.le_trans (hl i h) (by omega)) u (hr.below hb))
  have HLE := Lib.hid (fun i (h : i < m) => MM.le_widU (L := L) h)
  have hN := MM.widU_le m hl
  generalize MM.widU L m = N at *
  clear hr hl
  go_enter Try.func21, Try.ntmps21
  go_wp2_with fail
  go_loopw [3, 4] (fun s3 s4 wx => ∃ j : Nat, j ≤ N ∧ s4 = .int .i64 (j : Int) ∧ Hid (OwnR W W.heap.size s3 j (fun _ => m) (MM.trn L F) wx)) (fun _ s4 _ => N - (RowKit.intOf s4).toNat)
  case atStart => exact ⟨0, Nat.zero_le _, rfl, Lib.hid (OwnR.start W _ _)⟩
  case round =>
    obtain ⟨j, hj, rfl, HJ⟩ := hrel
    obtain ⟨wo, hwo⟩ : ∃ wo : World, wo = wr := ⟨_, rfl⟩
    subst hwo
    have HW := HLO.out _ HJ.out.below
    by_cases hlt : j < N
    · have hjI : (j : Int) < (N : Int) := by omega
      have hj0 : (0 : Int) ≤ (j : Int) := Int.natCast_nonneg _
      go_wp2_with (go_at_call 28; refine HW.mono ?_; rintro e w1 ⟨rfl, rfl⟩)
      clear HW
      go_loopw [5, 6] (fun s5 s6 wx => ∃ i : Nat, i ≤ m ∧ s6 = .int .i64 (i : Int) ∧ Hid (Own wo wo.heap.size s5 i (MM.trn L F j) wx)) (fun _ s6 _ => m - (RowKit.intOf s6).toNat)
      case atStart => exact ⟨0, Nat.zero_le _, rfl, Lib.hid (Own.start wo _)⟩
      case round =>
        obtain ⟨i, hi, rfl, HI⟩ := hrel
        by_cases hli : i < m
        · have hBl := HJ.out.below.trans (HI.out.below.mono HJ.out.below.size)
          obtain ⟨ad, bo, c, rfl, hc, hs, _⟩ := (HR.out.below hBl) i hli
          have hiI : (i : Int) < (m : Int) := by omega
          have hi0 : (0 : Int) ≤ (i : Int) := Int.natCast_nonneg _
          have hlk := HL.out i hli
          obtain ⟨v2, w2, hr2, ho2⟩ := HI.out.push 1 (by omega)
          have HO := Lib.hid ho2
          have HT : Hid (MM.trn L F j i = if j < L i then F i j else 0) := Lib.hid rfl
          clear ho2 hBl
          generalize MM.trn L F j i = x at *
          by_cases hb : j < L i
          · obtain ⟨bd, rfl, hcb⟩ := hs.at_ hb
            have hbI : (j : Int) < (L i : Int) := by omega
            rw [if_pos hb] at HT
            obtain rfl := HT.out
            generalize L i = li at *
            clear hs HT
            go_wp2_with (at_builtin; refine Lib.wpList_append_run _ rfl _ _ _ _ rfl _ _ rfl rfl _ _ hr2 ?_)
            go_roundw
            case rel => exact ⟨i + 1, by omega, by go_num, HO⟩
            case measure => simp [RowKit.intOf]; omega
          · have hbI : ¬ (j : Int) < (L i : Int) := by omega
            rw [if_neg hb] at HT
            obtain rfl := HT.out
            generalize L i = li at *
            clear hs HT
            change (Builtin.append_ #[23, 23] 23 #[_, .slice (some ⟨wr.heap.size, 0, none⟩) 1 1]).run Try.prog (wr.alloc (.cells #[.int .u64 0] 22)) = _ at hr2
            go_wp2_with (at_builtin; refine Lib.wpList_append_run _ rfl _ _ _ _ rfl _ _ rfl rfl _ _ hr2 ?_)
            go_roundw
            case rel => exact ⟨i + 1, by omega, by go_num, HO⟩
            case measure => simp [RowKit.intOf]; omega
        · have hiI : ¬ (i : Int) < (m : Int) := by omega
          obtain rfl : i = m := by omega
          have hro := (RowC.of_own HI.out.own).mono HJ.out.size
          obtain ⟨bo5, c5, rfl, _⟩ := hro.src
          obtain ⟨v3, w3, hr3, ho3⟩ := (HJ.out.step HI.out.below).more 1 hro (by omega)
          have HO := Lib.hid ho3
          clear ho3 hro
          go_wp2_with (at_builtin; refine Lib.wpList_append_run _ rfl _ _ _ _ rfl _ _ rfl rfl _ _ hr3 ?_)
          go_roundw
          case rel => exact ⟨j + 1, by omega, by go_num, HO⟩
          case measure => simp [RowKit.intOf]; omega
    · have hjI : ¬ (j : Int) < (N : Int) := by omega
      obtain rfl : j = N := by omega
      go_wp2_with (go_at_call 28; refine HW.mono ?_; rintro e w1 ⟨rfl, rfl⟩)
      go_ret
      exact ⟨_, rfl, HJ.out⟩
set_option maxRecDepth 100000 in
set_option maxHeartbeats 4000000 in
theorem rcol_any (ao : Option Addr) (cap m y q : Nat) (L : Nat → Nat) (F : Nat → Nat → Nat) (hm : m ≤ 1000) (hl : ∀ i, i < m → L i ≤ 1000) (hy : y < 18446744073709551616) (W : World) (hr : Mat W ao m L F) :
    Calls Try.prog 18 #[.slice ao m cap, .int .u64 (y : Int), .int .u64 (q : Int)] W fun e w' => ∃ v, e = .returned v ∧ Own W W.heap.size v m (MM.colP q y L F) w' := by
  have HT := Lib.hid (rturned_any ao cap m L F hm hl W hr)
  have hN := MM.widU_le m hl
  have HB : Hid (∀ (u : World) (ao2 : Option Addr) (c2 : Nat), Below W.heap.size W u → Mat u ao2 (MM.widU L m) (fun _ => m) (MM.trn L F) → Calls Try.prog 17 #[.slice ao2 (MM.widU L m) c2, .int .u64 (y : Int), .int .u64 (q : Int)] u fun e w' => ∃ v k, e = .returned v ∧ k ≤ m ∧ (k = m ∨ ∀ i, i < m → MM.colP q y L F i = 0) ∧ Own W W.heap.size v k (MM.colP q y L F) w') := Lib.hid fun u ao2 c2 hb hu => by
    refine (rrow_any ao2 c2 (MM.widU L m) y q (fun _ => m) (MM.trn L F) hN (fun _ _ => hm) hy u hu).mono ?_
    rintro e w' ⟨rfl, hm'⟩
    have hown : ∀ k, MM.widU (fun _ => m) (MM.widU L m) = k → k ≤ m → Own W W.heap.size (.slice (some ⟨u.heap.size, 0, none⟩) k k) k (MM.colP q y L F) w' := fun k hk hle => by
      rw [hk] at hm'
      have hm2 := hm'.congr (y := MM.colP q y L F) fun i hi => MM.trn_row q y m L F (by omega)
      have ho := hm2.own (by unfold maxLen; omega)
      refine ⟨?_, Nat.le_trans hb.size hm2.below.size, Nat.le_refl _, hb.trans (hm2.below.mono hb.size)⟩
      obtain ⟨h1, h2⟩ := ho
      exact ⟨h1, h2.imp id fun ⟨g, cap, cur, a, b, c⟩ => ⟨g, cap, cur, a, Nat.le_trans hb.size b, c⟩⟩
    by_cases h0 : MM.widU L m = 0
    · refine ⟨_, 0, rfl, Nat.zero_le _, .inr fun i hi => ?_, ?_⟩
      · rw [← MM.trn_row q y m L F hi, h0]; rfl
      · have hw : MM.widU (fun _ => m) (MM.widU L m) = 0 := by rw [h0]; rfl
        rw [hw]
        exact hown 0 hw (Nat.zero_le _)
    · have hw : MM.widU (fun _ => m) (MM.widU L m) = m := MM.widU_same m _ (by omega)
      rw [hw]
      exact ⟨_, m, rfl, Nat.le_refl _, .inl rfl, hown m hw (Nat.le_refl _)⟩
  generalize MM.colP q y L F = z at *
  generalize MM.widU L m = N at *
  clear hr hl hN
  go_enter Try.func18, Try.ntmps18
  go_wp2_with (first | (go_at_call 21; refine HT.out.mono ?_; rintro e w1 ⟨v1, rfl, h1⟩; obtain ⟨ao2, c2, rfl, h2, _⟩ := h1.mat; have HC := HB.out w1 ao2 c2 h1.below h2; clear h1 h2) | (go_at_call 17; refine HC.mono ?_; rintro e w2 ⟨v2, k0, rfl, hk0, h2, h3⟩; have H2 := Lib.hid h2; have H3 := Lib.hid h3; clear h2 h3 HC))
  go_loopw [7] (fun s7 wx => ∃ k : Nat, k ≤ m ∧ Hid (k = m ∨ ∀ i, i < m → z i = 0) ∧ Hid (Own W W.heap.size s7 k z wx)) (fun s7 _ => match s7 with | .slice _ n _ => m - n | _ => 0)
  case atStart => exact ⟨k0, hk0, H2, H3⟩
  case round =>
    clear H2 H3
    obtain ⟨k, hk, HK, HJ⟩ := hrel
    obtain ⟨bo5, c5, rfl, _⟩ := HJ.out.rd
    by_cases hlt : k < m
    · have hkI : (k : Int) < (m : Int) := by omega
      obtain ⟨v3, w3, hr3, ho3⟩ := HJ.out.push 1 (by omega)
      have hz : z k = 0 := by
        rcases HK.out with h | h
        · omega
        · exact h k hlt
      rw [hz] at hr3
      change (Builtin.append_ #[23, 23] 23 #[_, .slice (some ⟨wr.heap.size, 0, none⟩) 1 1]).run Try.prog (wr.alloc (.cells #[.int .u64 0] 22)) = _ at hr3
      have HO := Lib.hid ho3
      have HZ : Hid (∀ i, i < m → z i = 0) := Lib.hid (by
        rcases HK.out with h | h
        · omega
        · exact h)
      have HL : Hid (∃ bo c, v3 = .slice bo (k + 1) c) := Lib.hid (by obtain ⟨bo, c, e, _⟩ := ho3.rd; exact ⟨bo, c, e⟩)
      clear ho3 hz
      go_wp2_with (at_builtin; refine Lib.wpList_append_run _ rfl _ _ _ _ rfl _ _ rfl rfl _ _ hr3 ?_)
      go_roundw
      case rel => exact ⟨k + 1, by omega, Lib.hid (.inr HZ.out), HO⟩
      case measure => obtain ⟨bo, c, e⟩ := HL.out; subst e; show m - (k + 1) < m - k; omega
    · have hkI : ¬ (k : Int) < (m : Int) := by omega
      obtain rfl : k = m := by omega
      go_wp2_with fail
      go_ret
      exact ⟨_, rfl, HJ.out⟩
end M
end Go.Proofs.Ytccpdjjgpkkkbaa
