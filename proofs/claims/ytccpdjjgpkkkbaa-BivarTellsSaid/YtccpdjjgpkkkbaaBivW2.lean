/- The walks of the program's column, value and row. -/
import Derived.Test.YtccpdjjgpkkkbaaBivW1
import Derived.Test.YtccpdjjgpkkkbaaPolyW4
namespace Go.Proofs.Ytccpdjjgpkkkbaa
open Go Go.RowKit Go.Lib Go.Shelf
namespace M
attribute [local go_sem] Oper.semAt_some
theorem Mine.next {w0 w : World} {B n k : Nat} {z : Nat → Nat} (h : Mine w0 B n (fun j => if j < k then z j else 0) w) : Mine w0 B n (fun j => if j < k + 1 then z j else 0) (w.setCell ⟨B, k, none⟩ (.int .u64 ((z k : Nat) : Int))) := h.set k _ fun j _ => by
  by_cases e : j = k
  · subst e; rw [if_pos (by omega), if_pos rfl]
  · rw [if_neg e]
    by_cases h : j < k
    · rw [if_pos (by omega), if_pos h]
    · rw [if_neg (by omega), if_neg h]
theorem evalP_any (ao : Option Addr) (n cap x q : Nat) (z : Nat → Nat) (hn : n ≤ 1000) (hx : x < 18446744073709551616) (w : World) (hr : Rd w ao n z) :
    Calls Try.prog 20 #[.slice ao n cap, .int .u64 (x : Int), .int .u64 (q : Int)] w fun e w' => e = .returned (.int .u64 ((MM.evalU z x q n : Nat) : Int)) ∧ Below w.heap.size w w' := by
  have := eval_any ao n cap x q z (by omega) hx w hr
  rwa [MM.horn_eval] at this
set_option maxRecDepth 100000 in
set_option maxHeartbeats 4000000 in
theorem col_any (ao : Option Addr) (cap m y q : Nat) (L : Nat → Nat) (F : Nat → Nat → Nat) (hm : m ≤ 1000) (hl : ∀ i, i < m → L i ≤ 1000) (hy : y < 18446744073709551616) (W : World) (hr : Mat W ao m L F) :
    Calls Try.prog 12 #[.slice ao m cap, .int .u64 (y : Int), .int .u64 (q : Int)] W fun e w' => e = .returned (.slice (some ⟨W.heap.size, 0, none⟩) m m) ∧ Mine W W.heap.size m (MM.colP q y L F) w' := by
  have HR := Lib.hid hr
  have HL := Lib.hid hl
  have HM0 := Mine.made W m
  have hmk := run_made m (by omega)
  obtain ⟨W1, hW1⟩ : ∃ W1, W.alloc (.cells (madeCells (Value.int .u64 0).cells (m * 1)) 22) = W1 := ⟨_, rfl⟩
  obtain ⟨B, hB⟩ : ∃ B, W.heap.size = B := ⟨_, rfl⟩
  rw [hW1] at HM0
  rw [hB] at HM0 ⊢
  have hmk0 : (Instr.makeSlice 23 (.int .i64 (m : Int)) (.int .i64 (m : Int))).run Try.prog W = .ok (.slice (some ⟨B, 0, none⟩) m m) W1 := by rw [hmk, hW1, hB]
  have HM1 : Hid (Mine W B m (fun _ => 0) W1) := Lib.hid HM0
  clear hr hl HM0 hmk hW1 hB
  go_enter Try.func12, Try.ntmps12
  go_wp2_with fail
  clear hmk0
  go_loopw [15] (fun s15 wx => ∃ k : Nat, k ≤ m ∧ s15 = .int .i64 (k : Int) ∧ Hid (Mine W B m (fun j => if j < k then MM.colP q y L F j else 0) wx)) (fun s15 _ => m - (RowKit.intOf s15).toNat)
  case atStart => exact ⟨0, Nat.zero_le _, rfl, Lib.hid (HM1.out.congr fun k _ => by simp)⟩
  case round =>
    clear HM1
    obtain ⟨k, hk, rfl, HJ⟩ := hrel
    by_cases hlt : k < m
    · obtain ⟨ad, bo, c, rfl, hc, hs, _⟩ := (HR.out.below HJ.out.below) k hlt
      have HEV := Lib.hid (fun (u : World) (hb : Below wr.heap.size wr u) => evalP_any bo (L k) c y q (F k) (HL.out k hlt) hy u (hs.below hb))
      have HNN := Lib.hid (fun (u : World) (h : Mine W B m (fun j => if j < k then MM.colP q y L F j else 0) u) => h.next)
      change Hid (∀ u : World, Mine W B m (fun j => if j < k then MM.colP q y L F j else 0) u → Mine W B m (fun j => if j < k + 1 then MM.colP q y L F j else 0) (u.setCell ⟨B, k, none⟩ (.int .u64 ((MM.evalU (F k) y q (L k) : Nat) : Int)))) at HNN
      have hk0 : (0 : Int) ≤ (k : Int) := Int.natCast_nonneg _
      have hk1 : (k : Int) < (m : Int) := by omega
      generalize MM.evalU (F k) y q (L k) = x at *
      generalize L k = lk at *
      clear hs
      go_wp2_with (go_at_call 20; refine (HEV.out wr (Below.refl _ _)).mono ?_; rintro e w1 ⟨rfl, hb1⟩; have HJ1 := Lib.hid (HJ.out.step hb1); have hcl1 := HJ1.out.cell hlt; have hfr1 := HJ1.out.free k; clear hb1)
      go_roundw
      case rel => exact ⟨k + 1, by omega, by go_num, Lib.hid (HNN.out _ HJ1.out)⟩
      case measure => simp [RowKit.intOf]; omega
    · obtain rfl : k = m := by omega
      go_wp2_with fail
      go_ret
      exact ⟨rfl, HJ.out.congr fun j hj => by rw [if_pos hj]⟩
set_option maxRecDepth 100000 in
set_option maxHeartbeats 2000000 in
theorem at_any (ao : Option Addr) (cap m x y q : Nat) (L : Nat → Nat) (F : Nat → Nat → Nat) (hm : m ≤ 1000) (hl : ∀ i, i < m → L i ≤ 1000) (hx : x < 18446744073709551616) (hy : y < 18446744073709551616) (W : World) (hr : Mat W ao m L F) :
    Calls Try.prog 10 #[.slice ao m cap, .int .u64 (x : Int), .int .u64 (y : Int), .int .u64 (q : Int)] W fun e w' => e = .returned (.int .u64 ((MM.atP q x y m L F : Nat) : Int)) ∧ Below W.heap.size W w' := by
  have HC := Lib.hid (col_any ao cap m y q L F hm hl hy W hr)
  have HE := Lib.hid (fun (w1 : World) (h : Mine W W.heap.size m (MM.colP q y L F) w1) => evalP_any (some ⟨W.heap.size, 0, none⟩) m m x q (MM.colP q y L F) hm hx w1 h.rd)
  clear hr hl
  change Hid (∀ w1, Mine W W.heap.size m (MM.colP q y L F) w1 → Calls Try.prog 20 #[.slice (some ⟨W.heap.size, 0, none⟩) m m, .int .u64 (x : Int), .int .u64 (q : Int)] w1 fun e w' => e = .returned (.int .u64 ((MM.atP q x y m L F : Nat) : Int)) ∧ Below w1.heap.size w1 w') at HE
  generalize MM.atP q x y m L F = v at *
  go_enter Try.func10, Try.ntmps10
  go_wp2_with (first | (go_at_call 12; refine HC.out.mono ?_; rintro e w1 ⟨rfl, hm1⟩; have H1 := Lib.hid hm1; clear hm1) | (go_at_call 20; refine (HE.out _ H1.out).mono ?_; rintro e w2 ⟨rfl, hb2⟩; have H2 := Lib.hid hb2; clear hb2))
  go_ret
  exact ⟨rfl, H1.out.below.trans (H2.out.mono H1.out.below.size)⟩
set_option maxRecDepth 100000 in
set_option maxHeartbeats 8000000 in
theorem row_any (ao : Option Addr) (cap m x q : Nat) (L : Nat → Nat) (F : Nat → Nat → Nat) (hm : m ≤ 1000) (hl : ∀ i, i < m → L i ≤ 1000) (hF : ∀ i j, F i j < 18446744073709551616) (hx : x < 18446744073709551616) (W : World) (hr : Mat W ao m L F) :
    Calls Try.prog 11 #[.slice ao m cap, .int .u64 (x : Int), .int .u64 (q : Int)] W fun e w' => e = .returned (.slice (some ⟨W.heap.size, 0, none⟩) (MM.widU L m) (MM.widU L m)) ∧ Mine W W.heap.size (MM.widU L m) (fun j => MM.rowP q x L F j m) w' := by
  have HR := Lib.hid hr
  have HL := Lib.hid hl
  have HF := Lib.hid hF
  have HLO := Lib.hid (longest_any ao cap m L F hm hl W hr)
  have HLE := Lib.hid (fun i (h : i < m) => MM.le_widU (L := L) h)
  have hN := MM.widU_le m hl
  generalize MM.widU L m = N at *
  have HM0 := Mine.made W N
  have hmk := run_made N (by omega)
  obtain ⟨W1, hW1⟩ : ∃ W1, W.alloc (.cells (madeCells (Value.int .u64 0).cells (N * 1)) 22) = W1 := ⟨_, rfl⟩
  obtain ⟨B, hB⟩ : ∃ B, W.heap.size = B := ⟨_, rfl⟩
  rw [hW1] at HM0
  rw [hB] at HM0 ⊢
  have hmk0 : (Instr.makeSlice 23 (.int .i64 (N : Int)) (.int .i64 (N : Int))).run Try.prog W = .ok (.slice (some ⟨B, 0, none⟩) N N) W1 := by rw [hmk, hW1, hB]
  have HM1 : Hid (Mine W B N (fun _ => 0) W1) := Lib.hid HM0
  clear hr hl hF HM0 hmk hW1 hB
  go_enter Try.func11, Try.ntmps11
  go_wp2_with (go_at_call 24; refine HLO.out.mono ?_; rintro e w1 ⟨rfl, rfl⟩)
  clear hmk0 HLO
  go_loopw [8, 18] (fun s8 s18 wx => ∃ k : Nat, k ≤ m ∧ s18 = .int .i64 (k : Int) ∧ s8 = .int .u64 ((MM.pwr x q k : Nat) : Int) ∧ Hid (Mine W B N (fun j => MM.rowP q x L F j k) wx)) (fun _ s18 _ => m - (RowKit.intOf s18).toNat)
  case atStart => exact ⟨0, Nat.zero_le _, rfl, rfl, HM1⟩
  case round =>
    clear HM1
    obtain ⟨k, hk, rfl, rfl, HJ⟩ := hrel
    obtain ⟨wo, hwo⟩ : ∃ wo : World, wo = wr := ⟨_, rfl⟩
    subst hwo
    by_cases hlt : k < m
    · obtain ⟨ad, bo, c, rfl, hc0, hs, _⟩ := HR.out k hlt
      have hc := (HJ.out.below.cell (World.block_lt_of_cell? W _ hc0)).trans hc0
      have hlk := HL.out k hlt
      have hlw := HLE.out k hlt
      obtain ⟨pn, hpn⟩ : ∃ pn, MM.pwr x q (k + 1) = pn := ⟨_, rfl⟩
      have HPN := Lib.hid hpn
      have HPW := Lib.hid (show MM.mulU (MM.pwr x q k) x q = pn from hpn)
      have HPM := ret_mulU (MM.pwr x q k) x q (MM.pwr_lt x q k) hx
      have HPL := MM.pwr_lt x q k
      have HCE := Lib.hid (fun c => MM.pwr_mul c x q k)
      have HS := Lib.hid (fun (u : World) (hb : Below W.heap.size W u) => (hs.below hb : Rd u bo (L k) (F k)))
      have HKE := Lib.hid (MM.rowK_end q x L F k)
      have HJ0 : Hid (Mine W B N (MM.rowK q x L F k 0) wo) := Lib.hid (HJ.out.congr fun j _ => (MM.rowK_zero q x L F k j).symm)
      rw [HPW.out] at HPM
      clear hpn
      generalize MM.pwr x q k = pk at *
      generalize L k = lk at *
      clear hs HJ HPW hc0
      go_wp2_with fail
      clear hc
      go_loopw [24] (fun s24 wx => ∃ j : Nat, j ≤ lk ∧ s24 = .int .i64 (j : Int) ∧ Hid (Mine W B N (MM.rowK q x L F k j) wx)) (fun s24 _ => lk - (RowKit.intOf s24).toNat)
      case atStart => exact ⟨0, Nat.zero_le _, rfl, HJ0⟩
      case round =>
        clear HJ0
        obtain ⟨j, hj, rfl, HI⟩ := hrel
        by_cases hlj : j < lk
        · obtain ⟨bd, rfl, hcb⟩ := (HS.out _ HI.out.below).at_ hlj
          go_upto_region 9 with fail
          clear hcb
          have HNN : Hid (∀ nq, Mine W B N (MM.rowK q x L F k (j + 1)) ((wr.drewN nq).setCell ⟨B, j, none⟩ (.int .u64 ((MM.addU (MM.rowK q x L F k j j) (MM.mulU (F k j) pk q) q : Nat) : Int)))) := Lib.hid fun nq => (HI.out.drewN nq).set j _ fun i hi => by rw [MM.rowK_step, HCE.out]
          have hcl : wr.cell? ⟨B, j, none⟩ = some (.int .u64 ((MM.rowK q x L F k j j : Nat) : Int)) := HI.out.cell (by omega)
          have hfr : wr.frozen? ⟨B, j, none⟩ = false := HI.out.free j
          have HM := ret_mulU (F k j) pk q (HF.out k j) HPL
          have HA := ret_addU (MM.rowK q x L F k j j) (MM.mulU (F k j) pk q) q
          generalize MM.mulU (F k j) pk q = x1 at *
          generalize MM.addU (MM.rowK q x L F k j j) x1 q = x2 at *
          generalize MM.rowK q x L F k j j = x0 at *
          have hj0 : (0 : Int) ≤ (j : Int) := Int.natCast_nonneg _
          have hj1 : (j : Int) < (N : Int) := by omega
          refine QT.region 13 (by kernel_rfl) (by kernel_rfl) ?_
          simp only [List.take_succ_cons, List.take_zero, List.drop_succ_cons, List.drop_zero]
          repeat (quiet_step ((first | (go_at_call 27; exact (HM).quiet) | (go_at_call 26; exact (HA).quiet))))
          refine wpQuiet_nil ?_
          intro nq
          go_wp2_with fail
          clear hj0 hj1 hcl hfr HM HA
          go_roundw
          case rel => exact ⟨j + 1, by omega, by go_num, Lib.hid (HNN.out nq)⟩
          case measure => simp [RowKit.intOf]; omega
        · obtain rfl : j = lk := by omega
          go_wp2_with (go_at_call 27; (with_reducible refine (HPM.at _).mono ?_); rintro e w' ⟨rfl, nd, rfl⟩)
          go_roundw
          case rel => exact ⟨k + 1, by omega, by go_num, by rw [HPN.out], Lib.hid ((HI.out.drewN _).congr fun i _ => HKE.out i)⟩
          case measure => simp [RowKit.intOf]; omega
    · obtain rfl : k = m := by omega
      go_wp2_with fail
      go_ret
      exact ⟨rfl, HJ.out⟩
end M
end Go.Proofs.Ytccpdjjgpkkkbaa
