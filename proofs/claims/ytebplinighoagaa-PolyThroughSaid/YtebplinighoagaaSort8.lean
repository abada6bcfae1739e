/- The library's sort beyond insertion: the breaking of patterns. -/
import Derived.Test.YtebplinighoagaaSort7
import Derived.Laws.Bits64b
namespace Go.Proofs.Ytebplinighoagaa
open Go Go.RowKit Go.Lib
namespace M
theorem and15 (x : Int) : 0 ≤ bits BinOp.and IntKind.u64 x 15 ∧ bits BinOp.and IntKind.u64 x 15 ≤ 15 := by
  have h : bits BinOp.and IntKind.u64 x 15 = IntKind.u64.wrap ((BitVec.ofInt 64 x &&& BitVec.ofInt 64 15).toNat : Int) := rfl
  rw [h, BitVec.toNat_and, IntKind.wrap_u64]
  have h2 : (BitVec.ofInt 64 15).toNat = 15 := by decide
  rw [h2]
  have := @Nat.and_le_right (BitVec.ofInt 64 x).toNat 15
  omega
/-- A draw of the little tape: some number, which stands in its cell, too; the row stays. -/
def Nxt (W0 : World) (B n : Nat) (z : Nat → Nat) (S : Nat) (e : Ending) (w' : World) : Prop := ∃ x : Int, e = .returned (.int .u64 x) ∧ Mine W0 B n z w' ∧ Box w' S 74 (.int .u64 x)
set_option maxHeartbeats 8000000 in
theorem next_any (W0 : World) (B n S : Nat) (z : Nat → Nat) (x : Int) (hS : W0.heap.size ≤ S) (hne : S ≠ B) (w : World) (hM : Mine W0 B n z w) (hB : Box w S 74 (.int .u64 x)) : 
    Calls Try.prog 68 #[.pointer (some ⟨S, 0, none⟩)] w (Nxt W0 B n z S) := by
  have c1 := hB.cell
  have f1 := hB.free
  go_enter Try.func68, Try.ntmps68
  go_upto_region 1 with fail
  go_region
  generalize bits BinOp.xor IntKind.u64 x (IntKind.u64.wrap (x * 8192)) = x1
  have hB1 : Box (w.setCell ⟨S, 0, none⟩ (.int .u64 x1)).drew S 74 (.int .u64 x1) := (hB.set _).drewN 1
  have hM1 : Mine W0 B n z (w.setCell ⟨S, 0, none⟩ (.int .u64 x1)).drew := (hM.box hS hne _).drewN 1
  clear c1 f1 hB hM
  go_upto_region 2 with fail
  generalize (w.setCell ⟨S, 0, none⟩ (.int .u64 x1)).drew = w1 at *
  have c1 := hB1.cell
  have f1 := hB1.free
  go_region
  generalize bits BinOp.xor IntKind.u64 x1 _ = x2
  have hB2 : Box (w1.setCell ⟨S, 0, none⟩ (.int .u64 x2)).drew S 74 (.int .u64 x2) := (hB1.set _).drewN 1
  have hM2 : Mine W0 B n z (w1.setCell ⟨S, 0, none⟩ (.int .u64 x2)).drew := (hM1.box hS hne _).drewN 1
  clear c1 f1 hB1 hM1
  go_upto_region 3 with fail
  generalize (w1.setCell ⟨S, 0, none⟩ (.int .u64 x2)).drew = w2 at *
  have c1 := hB2.cell
  have f1 := hB2.free
  go_region
  generalize bits BinOp.xor IntKind.u64 x2 _ = x3
  have hB3 : Box (w2.setCell ⟨S, 0, none⟩ (.int .u64 x3)).drew S 74 (.int .u64 x3) := (hB2.set _).drewN 1
  have hM3 : Mine W0 B n z (w2.setCell ⟨S, 0, none⟩ (.int .u64 x3)).drew := (hM2.box hS hne _).drewN 1
  clear c1 f1 hB2 hM2
  generalize (w2.setCell ⟨S, 0, none⟩ (.int .u64 x3)).drew = w3 at *
  have c1 := hB3.cell
  go_wp2_with fail
  go_ret
  exact ⟨x3, rfl, hM3, hB3⟩
theorem np2_any (L : Nat) (h1 : 12 < L) (h2 : L < 16) (w : World) : 
    Calls Try.prog 67 #[.int .i64 (L : Int)] w fun e w' => e = .returned (.int .u64 16) ∧ w = w' := by
  have hb : Lib.bitLen L = 4 := by rcases (by omega : L = 13 ∨ L = 14 ∨ L = 15) with rfl | rfl | rfl <;> decide
  have HL := Lib.hid (Try.bits_Len (L : Int) w (by omega) (by omega))
  go_enter Try.func67, Try.ntmps67
  go_wp2_with (go_at_call 52; (with_reducible refine HL.out.mono ?_); rintro e w' ⟨rfl, rfl⟩)
  go_ret
  exact ⟨rfl, rfl⟩
/-- Some exchanges. -/
def Mixed (W0 : World) (B n a b : Nat) (z : Nat → Nat) (e : Ending) (w' : World) : Prop := e = .returned (.tuple #[]) ∧ Srt W0 B n a b z (fun _ => True) w'
set_option maxHeartbeats 8000000 in
set_option maxRecDepth 100000 in
theorem break_any (W0 : World) (B n cap a b : Nat) (z : Nat → Nat) (hn : n ≤ 1000000) (hb : b ≤ n) (h12 : a + 12 < b) (h16 : b < a + 16) (w : World) (hM : Mine W0 B n z w) :
    Calls Try.prog 56 #[.slice (some ⟨B, 0, none⟩) n cap, .int .i64 (a : Int), .int .i64 (b : Int)] w (Mixed W0 B n a b z) := by
  obtain ⟨L, hL⟩ : ∃ L, b - a = L := ⟨_, rfl⟩
  have e0 : (b : Int) - (a : Int) = (L : Int) := by omega
  have e3 : (L : Int) / 4 = 3 := by omega
  have q2 : (8 : Int) ≤ (L : Int) := by omega
  have HNP := Lib.hid (np2_any L (by omega) (by omega))
  have hlt := hM.lt
  obtain ⟨S, hS⟩ : ∃ S, w.heap.size = S := ⟨_, rfl⟩
  have hSB : S ≠ B := by omega
  have hSW : W0.heap.size ≤ S := by have := hM.below.size; omega
  have HM := Lib.hid (hM.alloc (.cells #[.int .u64 (L : Int)] 74))
  have HB0 := Box.new w 74 (.int .u64 (L : Int))
  rw [hS] at HB0
  have HB := Lib.hid HB0
  clear hM hlt HB0
  go_enter Try.func56, Try.ntmps56
  go_wp2_with (go_at_call 67; (with_reducible refine (HNP.out _).mono ?_); rintro e w' ⟨rfl, rfl⟩)
  go_loopw [9] (fun s9 wx => ∃ k : Nat, a + 5 ≤ k ∧ k ≤ a + 8 ∧ s9 = .int .i64 (k : Int) ∧ Hid (∃ y x, Mine W0 B n y wx ∧ Box wx S 74 (.int .u64 x) ∧ MM.Sw a b z y)) (fun s9 _ => a + 8 - (RowKit.intOf s9).toNat)
  case atStart => exact ⟨a + 5, Nat.le_refl _, by omega, by rw [show (a : Int) + 6 - 1 = ((a + 5 : Nat) : Int) by omega], Lib.hid ⟨z, _, HM.out, HB.out, .refl⟩⟩
  case round =>
    clear HM HB HNP hS
    obtain ⟨k, hk1, hk2, rfl, HJ⟩ := hrel
    obtain ⟨y, x0, hm, hbx, hsw⟩ := HJ.out
    have HY := Lib.hid (And.intro hm (And.intro hbx hsw))
    clear HJ hm hbx hsw
    by_cases hlt : k < a + 8
    · have hle : (k : Int) ≤ (a : Int) + 6 + 1 := by omega
      have HNX := Lib.hid (next_any W0 B n S y x0 hSW hSB _ HY.out.1 HY.out.2.1)
      go_upto_region 8 with (go_at_call 68; (with_reducible refine HNX.out.mono ?_); rintro e w2 ⟨x, rfl, hm2, hb2⟩; have HM2 := Lib.hid (And.intro hm2 hb2); clear hm2 hb2)
      have h15 := and15 x
      obtain ⟨o, ho⟩ : ∃ o : Nat, bits BinOp.and IntKind.u64 x 15 = (o : Int) := ⟨(bits BinOp.and IntKind.u64 x 15).toNat, by omega⟩
      rw [ho] at h15
      have ew1 : wrap64 (o : Int) = (o : Int) := IntWalk.wrap64_in _ (by omega)
      simp only [ho, ew1]
      clear HNX ho ew1
      by_cases hol : o < L
      · have hc : ¬ (L : Int) ≤ (o : Int) := by omega
        obtain ⟨j, hj⟩ : ∃ j : Nat, a + o = j := ⟨_, rfl⟩
        have ej : (a : Int) + (o : Int) = (j : Int) := by omega
        have ew : IntKind.i64.wrap (j : Int) = (j : Int) := IntWalk.i64_in _ (by omega)
        have hmm := HM2.out.1
        have c1 := hmm.cell (k := k) (by omega)
        have c2 := hmm.cell (k := j) (by omega)
        have f1 := hmm.free k
        have f2 := hmm.free j
        have c3 := hmm.swap_cell (i := k) (j := j) (by omega)
        have c4 := fun m => (hmm.drewN m).swap_cell (i := k) (j := j) (by omega)
        have HSP := Lib.hid (fun m => (hmm.drewN m).swap (i := k) (j := j) (by omega) (by omega))
        have HBX := Lib.hid (fun m => (((HM2.out.2.drewN m).other ⟨B, k, none⟩ (.int .u64 ((y j : Nat) : Int)) hSB).other ⟨B, j, none⟩ (.int .u64 ((y k : Nat) : Int)) hSB))
        clear hmm
        have p1 : (0 : Int) ≤ (k : Int) := Int.natCast_nonneg _
        have r1 : (k : Int) < (n : Int) := by omega
        have p2 : (0 : Int) ≤ (j : Int) := Int.natCast_nonneg _
        have r2 : (j : Int) < (n : Int) := by omega
        go_upto_region 10 with fail
        generalize y k = yI at *
        generalize y j = yJ at *
        go_region
        clear c1 c2 c3 c4 f1 f2 p1 r1 p2 r2
        go_wp2_with fail
        go_roundw
        case rel => exact ⟨k + 1, by omega, by omega, by go_num, Lib.hid ⟨_, _, HSP.out _, HBX.out _, HY.out.2.2.step k j ⟨by omega, by omega⟩ ⟨by omega, by omega⟩⟩⟩
        case measure => simp [RowKit.intOf]; omega

      · have hc : (L : Int) ≤ (o : Int) := by omega
        obtain ⟨o2, ho2⟩ : ∃ o2 : Nat, o - L = o2 := ⟨_, rfl⟩
        have eo : (o : Int) - (L : Int) = (o2 : Int) := by omega
        have ew2 : IntKind.i64.wrap (o2 : Int) = (o2 : Int) := IntWalk.i64_in _ (by omega)
        obtain ⟨j, hj⟩ : ∃ j : Nat, a + o2 = j := ⟨_, rfl⟩
        have ej : (a : Int) + (o2 : Int) = (j : Int) := by omega
        have ew : IntKind.i64.wrap (j : Int) = (j : Int) := IntWalk.i64_in _ (by omega)
        have hmm := HM2.out.1
        have c1 := hmm.cell (k := k) (by omega)
        have c2 := hmm.cell (k := j) (by omega)
        have f1 := hmm.free k
        have f2 := hmm.free j
        have c3 := hmm.swap_cell (i := k) (j := j) (by omega)
        have c4 := fun m => (hmm.drewN m).swap_cell (i := k) (j := j) (by omega)
        have HSP := Lib.hid (fun m => (hmm.drewN m).swap (i := k) (j := j) (by omega) (by omega))
        have HBX := Lib.hid (fun m => (((HM2.out.2.drewN m).other ⟨B, k, none⟩ (.int .u64 ((y j : Nat) : Int)) hSB).other ⟨B, j, none⟩ (.int .u64 ((y k : Nat) : Int)) hSB))
        clear hmm
        have p1 : (0 : Int) ≤ (k : Int) := Int.natCast_nonneg _
        have r1 : (k : Int) < (n : Int) := by omega
        have p2 : (0 : Int) ≤ (j : Int) := Int.natCast_nonneg _
        have r2 : (j : Int) < (n : Int) := by omega
        go_upto_region 10 with fail
        generalize y k = yI at *
        generalize y j = yJ at *
        go_region
        clear c1 c2 c3 c4 f1 f2 p1 r1 p2 r2
        go_wp2_with fail
        go_roundw
        case rel => exact ⟨k + 1, by omega, by omega, by go_num, Lib.hid ⟨_, _, HSP.out _, HBX.out _, HY.out.2.2.step k j ⟨by omega, by omega⟩ ⟨by omega, by omega⟩⟩⟩
        case measure => simp [RowKit.intOf]; omega

    · have hle : ¬ (k : Int) ≤ (a : Int) + 6 + 1 := by omega
      go_wp2_with fail
      go_end0
      exact ⟨rfl, y, HY.out.1, HY.out.2.2, trivial⟩
end M
end Go.Proofs.Ytebplinighoagaa
