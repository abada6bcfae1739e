/- The texts FixPush, FixR1, QuietTail, FixW4, QuietIn, one behind the other. -/
import Derived.Test.YtnlkikcnjlkkdaaWB3
import Derived.Laws.OwnMore
import Derived.Lib.AppendZeros
import Derived.StillTail
import Derived.Deep.QuietTactic
import Derived.RangeFuncCalls
import Derived.RangeFuncLeaves
import Derived.TacticsIn
import Derived.OrdersIn
/- Rows that a call itself makes: by appends onto what was made with room, or whole; rows of whole numbers. -/
namespace Go.Proofs.Ytnlkikcnjlkkdaa
open Go Go.RowKit Go.Lib
namespace M
theorem Mine.base {W w1 w : World} {B n : Nat} {z : Nat → Nat} (h : Mine w1 B n z w) (hb : Below W.heap.size W w1) : Mine W B n z w := ⟨h.block, Nat.le_trans hb.size h.low, hb.trans (h.below.mono hb.size)⟩
section
variable {w0 w w' : World} {B k : Nat} {v : Value} {z : Nat → Nat}
theorem Own.base {w1 : World} (h : Own w1 B v k z w) (hb : Below w0.heap.size w0 w1) : Own w0 B v k z w := ⟨h.own, h.size, Nat.le_trans hb.size h.low, hb.trans (h.below.mono hb.size)⟩
/-- One number more behind a row of the call's own. -/
theorem Own.push1 (h : Own w0 B v k z w) (c : Nat) (hk : k ≤ 900000) :
    ∃ v' w', (Builtin.append_ #[39, 39] 39 #[v, .slice (some ⟨w.heap.size, 0, none⟩) 1 c]).run Try.prog (w.alloc (.cells #[.int .u64 ((z k : Nat) : Int)] 23)) = .ok v' w' ∧ Own w0 B v' (k + 1) z w' := by
  obtain ⟨i0, hi, hz0, hz1, hz2⟩ := info_parts info_u64
  have ha := h.alloc (.cells #[.int .u64 ((z k : Nat) : Int)] 23)
  obtain ⟨v', w', hr, ho, hg, _⟩ := run_append_own (P := Try.prog) _ B 39 39 23 i0 (.int .u64 0) 1 8 Try.underlying39 hi hz0 hz1 hz2 rfl (by decide) v k (zlist k z) ha.own ⟨w.heap.size, 0, none⟩ 1 c [.int .u64 ((z k : Nat) : Int)] rfl (fun j u hj => by
    have hl := (List.getElem?_eq_some_iff.1 hj).1
    obtain rfl : j = 0 := by simpa using hl
    cases hj
    rw [show (⟨w.heap.size, 0, none⟩ : Addr).add 0 = ⟨w.heap.size, 0, none⟩ from rfl, cell_of_row _ _ _ _ _ _ (heap_alloc_new w _)]; rfl) (by simp [Value.oneCell']) (by unfold maxLen; omega) (by omega) ha.size
  exact ⟨v', w', hr, ha.grow ho (zlist_succ k z) hg⟩
theorem run_made0 (n : Nat) (hn : n ≤ 1000000000) (w : World) :
    (Instr.makeSlice 39 (.int .i64 0) (.int .i64 (n : Int))).run Try.prog w = .ok (.slice (some ⟨w.heap.size, 0, none⟩) 0 n) (w.alloc (.cells (madeCells (Value.int .u64 0).cells (n * 1)) 23)) := by
  obtain ⟨i0, hi, hz0, hz1, hz2⟩ := info_parts info_u64
  have hr := run_make (P := Try.prog) w 39 23 i0 (.int .u64 0) Try.underlying39 hi hz0 .i64 .i64 (0 : Nat) n (by omega) (by omega) (by rw [hz2]; omega) (by omega)
  simp only [Int.toNat_natCast, hz1] at hr
  exact hr
theorem Own.made1 (w : World) (n : Nat) (hn : n ≤ 1000000000) (z : Nat → Nat) : Own w w.heap.size (.slice (some ⟨w.heap.size, 0, none⟩) 0 n) 0 z (w.alloc (.cells (madeCells (Value.int .u64 0).cells (n * 1)) 23)) :=
  ⟨World.ownsRow_made w _ n (Nat.le_refl _) (by unfold maxLen; omega) (by rw [size_madeCells]), by simp, Nat.le_refl _, below_box _ _⟩
end
/-- A row of values of a call's own, in a block by itself. -/
def RowV (T : TypeId) (lo : Nat) (W : World) (v : Value) (n : Nat) (u : Nat → Value) : Prop :=
  (v = .slice none 0 0 ∧ n = 0) ∨ ∃ B c cs, v = .slice (some ⟨B, 0, none⟩) n c ∧ n ≤ c ∧ lo ≤ B ∧ W.heap[B]? = some (.cells cs T (0, 0)) ∧ ∀ k, k < n → cs[k]? = some (u k)
/-- .. of numbers, of whole numbers. -/
abbrev NewU (lo : Nat) (W : World) (v : Value) (n : Nat) (z : Nat → Nat) : Prop := RowV 23 lo W v n fun k => .int .u64 ((z k : Nat) : Int)
abbrev NewI (lo : Nat) (W : World) (v : Value) (n : Nat) (z : Nat → Int) : Prop := RowV 2 lo W v n fun k => .int .i64 (z k)
section
variable {T : TypeId} {lo : Nat} {W W' : World} {v : Value} {n : Nat} {u : Nat → Value}
theorem RowV.below (h : RowV T lo W v n u) (hb : Below W.heap.size W W') : RowV T lo W' v n u := by
  rcases h with h | ⟨B, c, cs, h1, h2, h3, h4, h5⟩
  · exact .inl h
  · exact .inr ⟨B, c, cs, h1, h2, h3, (hb.block B (row_lt h4)).trans h4, h5⟩
theorem RowV.mono {lo' : Nat} (h : RowV T lo W v n u) (hl : lo' ≤ lo) : RowV T lo' W v n u := by
  rcases h with h | ⟨B, c, cs, h1, h2, h3, h4, h5⟩
  · exact .inl h
  · exact .inr ⟨B, c, cs, h1, h2, Nat.le_trans hl h3, h4, h5⟩
theorem RowV.congr {y : Nat → Value} (h : RowV T lo W v n u) (e : ∀ k, k < n → u k = y k) : RowV T lo W v n y := by
  rcases h with h | ⟨B, c, cs, h1, h2, h3, h4, h5⟩
  · exact .inl h
  · exact .inr ⟨B, c, cs, h1, h2, h3, h4, fun k hk => by rw [h5 k hk, e k hk]⟩
theorem row_add {b k : Nat} : (⟨b, 0, none⟩ : Addr).add k = ⟨b, k, none⟩ := by
  unfold Addr.add
  by_cases h0 : k = 0
  · subst h0; rfl
  · rw [if_neg h0]; simp
theorem RowV.cells (h : RowV T lo W v n u) : ∃ ao c, v = .slice ao n c ∧ n ≤ c ∧ (ao = none → n = 0 ∧ c = 0) ∧ ∀ k, k < n → ∃ ad, ao = some ad ∧ W.cell? (ad.add k) = some (u k) := by
  rcases h with ⟨rfl, rfl⟩ | ⟨B, c, cs, rfl, h2, h3, h4, h5⟩
  · exact ⟨none, 0, rfl, Nat.le_refl _, fun _ => ⟨rfl, rfl⟩, fun k hk => absurd hk (by omega)⟩
  · exact ⟨some ⟨B, 0, none⟩, c, rfl, h2, fun h => absurd h (by simp), fun k hk => ⟨_, rfl, by rw [row_add, cell_of_row W B k _ _ _ h4, h5 k hk]⟩⟩
end
theorem NewU.rd {lo : Nat} {W : World} {v : Value} {n : Nat} {z : Nat → Nat} (h : NewU lo W v n z) : ∃ ao c, v = .slice ao n c ∧ n ≤ c ∧ Rd W ao n z := by
  obtain ⟨ao, c, e, h1, _, h3⟩ := h.cells
  refine ⟨ao, c, e, h1, fun hn => ?_⟩
  obtain ⟨ad, rfl, _⟩ := h3 0 hn
  exact ⟨ad, rfl, fun t ht => by obtain ⟨_, e, hc⟩ := h3 t ht; cases e; exact hc⟩
theorem NewI.irow {lo : Nat} {W : World} {v : Value} {n : Nat} {z : Nat → Int} (h : NewI lo W v n z) : ∃ ao c, v = .slice ao n c ∧ IRow W ao n c z := by
  obtain ⟨ao, c, e, h1, h2, h3⟩ := h.cells
  exact ⟨ao, c, e, h3, h2, h1⟩
theorem Mine.newU {w0 w : World} {B n : Nat} {z : Nat → Nat} (h : Mine w0 B n z w) : NewU w0.heap.size w (.slice (some ⟨B, 0, none⟩) n n) n z := by
  obtain ⟨cs, h1, h2, h3⟩ := h.block
  exact .inr ⟨B, n, cs, rfl, Nat.le_refl _, h.low, h1, h3⟩
theorem Own.newU {w0 w : World} {B k : Nat} {v : Value} {z : Nat → Nat} (h : Own w0 B v k z w) : NewU w0.heap.size w v k z := by
  obtain ⟨_, h1 | ⟨g, cap, cur, h1, h2, h3, h4, h5, _, h7⟩⟩ := h.own
  · exact .inl h1
  · refine .inr ⟨g, cap, cur, h1, h4, Nat.le_trans h.low h2, h3, fun j hj => ?_⟩
    have e1 : (cur.toList.take (k * 1))[j]? = (zlist k z)[j]? := by rw [h7]
    rw [zlist_get hj, List.getElem?_take_of_lt (by omega)] at e1
    simpa using e1
/-- A row of whole numbers that a call itself makes whole. -/
structure MineI (w0 : World) (B n : Nat) (z : Nat → Int) (w : World) : Prop where
  block : ∃ cs : Array Value, w.heap[B]? = some (.cells cs 2 (0, 0)) ∧ cs.size = n ∧ ∀ k, k < n → cs[k]? = some (.int .i64 (z k))
  low : w0.heap.size ≤ B
  below : Below w0.heap.size w0 w
section
variable {w0 w w' : World} {B n : Nat} {z y : Nat → Int}
theorem MineI.lt (h : MineI w0 B n z w) : B < w.heap.size := by obtain ⟨cs, h1, _⟩ := h.block; exact row_lt h1
theorem MineI.step (h : MineI w0 B n z w) (hb : Below w.heap.size w w') : MineI w0 B n z w' :=
  ⟨by obtain ⟨cs, h1, h2⟩ := h.block; exact ⟨cs, (hb.block B h.lt).trans h1, h2⟩, h.low, h.below.trans (hb.mono h.below.size)⟩
theorem MineI.drewN (h : MineI w0 B n z w) (m : Nat) : MineI w0 B n z (w.drewN m) := h.step (below_drewN' w m _)
theorem MineI.base {w1 : World} (h : MineI w1 B n z w) (hb : Below w0.heap.size w0 w1) : MineI w0 B n z w := ⟨h.block, Nat.le_trans hb.size h.low, hb.trans (h.below.mono hb.size)⟩
theorem MineI.congr (h : MineI w0 B n z w) (hz : ∀ k, k < n → z k = y k) : MineI w0 B n y w :=
  ⟨by obtain ⟨cs, h1, h2, h3⟩ := h.block; exact ⟨cs, h1, h2, fun k hk => by rw [h3 k hk, hz k hk]⟩, h.low, h.below⟩
theorem MineI.cell (h : MineI w0 B n z w) {k : Nat} (hk : k < n) : w.cell? ⟨B, k, none⟩ = some (.int .i64 (z k)) := by
  obtain ⟨cs, h1, _, h3⟩ := h.block
  rw [cell_of_row w B k _ _ _ h1, h3 k hk]
theorem MineI.free (h : MineI w0 B n z w) (k : Nat) : w.frozen? ⟨B, k, none⟩ = false := by
  obtain ⟨cs, h1, _⟩ := h.block
  simp [World.frozen?, h1]
theorem MineI.set (h : MineI w0 B n z w) (k : Nat) (x : Int) (hy : ∀ j, j < n → y j = if j = k then x else z j) : MineI w0 B n y (w.setCell ⟨B, k, none⟩ (.int .i64 x)) := by
  refine ⟨?_, h.low, h.below.setCell (p := ⟨B, k, none⟩) h.low _⟩
  obtain ⟨cs, h1, h2, h3⟩ := h.block
  refine ⟨_, heap_setCell_same w B k cs _ _ h1, by simpa using h2, fun j hj => ?_⟩
  rw [hy j hj, Array.getElem?_setIfInBounds]
  by_cases e : k = j
  · subst e; rw [if_pos rfl, if_pos (by omega), if_pos rfl]
  · rw [if_neg e, if_neg (fun h => e h.symm), h3 j hj]
theorem MineI.newI (h : MineI w0 B n z w) : NewI w0.heap.size w (.slice (some ⟨B, 0, none⟩) n n) n z := by
  obtain ⟨cs, h1, h2, h3⟩ := h.block
  exact .inr ⟨B, n, cs, rfl, Nat.le_refl _, h.low, h1, h3⟩
theorem MineI.made (w0 : World) (n : Nat) : MineI w0 w0.heap.size n (fun _ => 0) (w0.alloc (.cells (madeCells (Value.int .i64 0).cells (n * 1)) 2)) := by
  refine ⟨⟨_, heap_alloc_new _ _, by rw [size_madeCells, Nat.mul_one], fun k hk => ?_⟩, Nat.le_refl _, below_box _ _⟩
  simp [madeCells, hk, Value.cells, Nat.mod_one]
end
theorem info_i64 : (Try.prog.info? 2).map (fun i => (i.zero, i.size, i.bytes)) = some (some (.int .i64 0), 1, 8) := by kernel_rfl
theorem run_madeI (n : Nat) (hn : n ≤ 1000000000) (w : World) :
    (Instr.makeSlice 34 (.int .i64 (n : Int)) (.int .i64 (n : Int))).run Try.prog w = .ok (.slice (some ⟨w.heap.size, 0, none⟩) n n) (w.alloc (.cells (madeCells (Value.int .i64 0).cells (n * 1)) 2)) := by
  obtain ⟨i0, hi, hz0, hz1, hz2⟩ := info_parts info_i64
  have hr := run_make (P := Try.prog) w 34 2 i0 (.int .i64 0) Try.underlying34 hi hz0 .i64 .i64 n n (by omega) (by omega) (by rw [hz2]; omega) (by omega)
  simp only [Int.toNat_natCast, hz1] at hr
  exact hr
end M
end Go.Proofs.Ytnlkikcnjlkkdaa
/- The document's own: are two rows the same; the number of a whole number, the whole number of a number; is one within bounds. -/
namespace Go.Proofs.Ytnlkikcnjlkkdaa
open Go Go.RowKit Go.Lib
namespace M
set_option maxHeartbeats 2000000 in
theorem numbers_any (ao bo : Option Addr) (n m ca cb : Nat) (y z : Nat → Nat) (hn : n ≤ 9223372036854775807) (W : World) (ha : Rd W ao n y) (hb : Rd W bo m z) :
    Calls Try.prog 14 #[.slice ao n ca, .slice bo m cb] W fun e w' => e = .returned (.bool (decide (n = m ∧ ∀ k, k < n → y k = z k))) ∧ ∃ d, w' = W.drewN d := by
  have HF : Hid (¬ (n = m ∧ ∀ k, k < n → y k = z k) → decide (n = m ∧ ∀ k, k < n → y k = z k) = false) := Lib.hid fun h => decide_eq_false h
  have HT : Hid ((n = m ∧ ∀ k, k < n → y k = z k) → decide (n = m ∧ ∀ k, k < n → y k = z k) = true) := Lib.hid fun h => decide_eq_true h
  generalize decide (n = m ∧ ∀ k, k < n → y k = z k) = ans at *
  by_cases hnm : n = m
  · subst hnm
    have HA := Lib.hid ha
    have HB := Lib.hid hb
    clear ha hb
    go_enter Try.func14, Try.ntmps14
    go_wp2_with fail
    go_loopw [5] (fun s5 wx => ∃ k m : Nat, k ≤ n ∧ s5 = .int .i64 (k : Int) ∧ wx = W.drewN m ∧ Hid (∀ j, j < k → y j = z j)) (fun s5 _ => n - (RowKit.intOf s5).toNat)
    case atStart => exact ⟨0, 0, Nat.zero_le _, rfl, rfl, Lib.hid fun j h => absurd h (by omega)⟩
    case round =>
      obtain ⟨k, m, hk, rfl, rfl, HJ⟩ := hrel
      by_cases hlt : k < n
      · obtain ⟨ad, rfl, hc⟩ := HA.out.at_ hlt
        obtain ⟨bd, rfl, hd⟩ := HB.out.at_ hlt
        have HE : Hid (y k = z k → ∀ j, j < k + 1 → y j = z j) := Lib.hid fun e j hj => by
          by_cases h : j = k
          · subst h; exact e
          · exact HJ.out j (by omega)
        have HNE : Hid (y k ≠ z k → ans = false) := Lib.hid fun e => HF.out fun h => e (h.2 k hlt)
        go_upto_region 6 with fail
        generalize hwr : W.drewN m = wr
        have hcell : wr.cell? (ad.add k) = some (.int .u64 ((y k : Nat) : Int)) := by rw [← hwr]; exact hc
        have hdell : wr.cell? (bd.add k) = some (.int .u64 ((z k : Nat) : Int)) := by rw [← hwr]; exact hd
        have HWR := Lib.hid hwr
        clear hwr hc hd
        generalize y k = yk at *
        generalize z k = zk at *
        have hk0 : (0 : Int) ≤ (k : Int) := Int.natCast_nonneg _
        have hk1 : (k : Int) < (n : Int) := by omega
        by_cases he : yk = zk
        · have HN := Lib.hid (HE.out he)
          subst he
          clear HE HNE
          go_quiet (fail)
          go_wp2_with fail
          go_roundw
          case rel => exact ⟨k + 1, _, by omega, by go_num, by rw [← HWR.out]; exact World.drewN_drewN _ _ _, HN⟩
          case measure => simp [RowKit.intOf]; omega
        · have HZ := Lib.hid (HNE.out he)
          have heI : ((yk : Int) != (zk : Int)) = true := by simp; omega
          clear HE HNE
          go_quiet (fail)
          go_wp2_with fail
          go_ret
          exact ⟨by rw [HZ.out]; rfl, _, by rw [← HWR.out]; exact World.drewN_drewN _ _ _⟩
      · obtain hkn : k = n := by omega
        rw [hkn] at HJ
        subst hkn
        have HZ := Lib.hid (HT.out ⟨by first | trivial | rfl, HJ.out⟩)
        go_wp2_with fail
        go_ret
        exact ⟨by rw [HZ.out]; rfl, _, rfl⟩
  · have HZ := Lib.hid (HF.out fun h => hnm h.1)
    have hI : ((n : Int) != (m : Int)) = true := by simp; omega
    clear HF HT ha hb
    go_enter Try.func14, Try.ntmps14
    go_wp2_with fail
    go_ret
    exact ⟨by rw [HZ.out]; rfl, 0, rfl⟩
set_option maxHeartbeats 2000000 in
theorem ints_any (ao bo : Option Addr) (n m ca cb : Nat) (y z : Nat → Int) (hn : n ≤ 9223372036854775807) (W : World) (ha : IRow W ao n ca y) (hb : IRow W bo m cb z) :
    Calls Try.prog 17 #[.slice ao n ca, .slice bo m cb] W fun e w' => e = .returned (.bool (decide (MM.eqR n m y z))) ∧ ∃ d, w' = W.drewN d := by
  have HF : Hid (¬ MM.eqR n m y z → decide (MM.eqR n m y z) = false) := Lib.hid fun h => decide_eq_false h
  have HT : Hid (MM.eqR n m y z → decide (MM.eqR n m y z) = true) := Lib.hid fun h => decide_eq_true h
  generalize decide (MM.eqR n m y z) = ans at *
  by_cases hnm : n = m
  · subst hnm
    have HA := Lib.hid ha
    have HB := Lib.hid hb
    clear ha hb
    go_enter Try.func17, Try.ntmps17
    go_wp2_with fail
    go_loopw [5] (fun s5 wx => ∃ k m : Nat, k ≤ n ∧ s5 = .int .i64 (k : Int) ∧ wx = W.drewN m ∧ Hid (∀ j, j < k → y j = z j)) (fun s5 _ => n - (RowKit.intOf s5).toNat)
    case atStart => exact ⟨0, 0, Nat.zero_le _, rfl, rfl, Lib.hid fun j h => absurd h (by omega)⟩
    case round =>
      obtain ⟨k, m, hk, rfl, rfl, HJ⟩ := hrel
      by_cases hlt : k < n
      · obtain ⟨ad, rfl, hc⟩ := HA.out.at_ hlt
        obtain ⟨bd, rfl, hd⟩ := HB.out.at_ hlt
        have HE : Hid (y k = z k → ∀ j, j < k + 1 → y j = z j) := Lib.hid fun e j hj => by
          by_cases h : j = k
          · subst h; exact e
          · exact HJ.out j (by omega)
        have HNE : Hid (y k ≠ z k → ans = false) := Lib.hid fun e => HF.out fun h => e (h.2 k hlt)
        go_upto_region 6 with fail
        generalize hwr : W.drewN m = wr
        have hcell : wr.cell? (ad.add k) = some (.int .i64 (y k)) := by rw [← hwr]; exact hc
        have hdell : wr.cell? (bd.add k) = some (.int .i64 (z k)) := by rw [← hwr]; exact hd
        have HWR := Lib.hid hwr
        clear hwr hc hd
        generalize y k = yk at *
        generalize z k = zk at *
        have hk0 : (0 : Int) ≤ (k : Int) := Int.natCast_nonneg _
        have hk1 : (k : Int) < (n : Int) := by omega
        by_cases he : yk = zk
        · have HN := Lib.hid (HE.out he)
          subst he
          clear HE HNE
          go_quiet (fail)
          go_wp2_with fail
          go_roundw
          case rel => exact ⟨k + 1, _, by omega, by go_num, by rw [← HWR.out]; exact World.drewN_drewN _ _ _, HN⟩
          case measure => simp [RowKit.intOf]; omega
        · have HZ := Lib.hid (HNE.out he)
          have heI : (yk != zk) = true := by simp; exact he
          clear HE HNE
          go_quiet (fail)
          go_wp2_with fail
          go_ret
          exact ⟨by rw [HZ.out]; rfl, _, by rw [← HWR.out]; exact World.drewN_drewN _ _ _⟩
      · obtain hkn : k = n := by omega
        rw [hkn] at HJ
        subst hkn
        have HZ := Lib.hid (HT.out ⟨by first | trivial | rfl, HJ.out⟩)
        go_wp2_with fail
        go_ret
        exact ⟨by rw [HZ.out]; rfl, _, rfl⟩
  · have HZ := Lib.hid (HF.out fun h => hnm h.1)
    have hI : ((n : Int) != (m : Int)) = true := by simp; omega
    clear HF HT ha hb
    go_enter Try.func17, Try.ntmps17
    go_wp2_with fail
    go_ret
    exact ⟨by rw [HZ.out]; rfl, 0, rfl⟩
theorem good_gtr {q : Nat} (h : MM.Good q) : ¬ (q : Int) = 0 ∧ ¬ (2305843009213693952 : Int) < (q : Int) := by have := h.1; have := h.2; omega
/-- The examples' parameters. -/
def sp : Pm := ⟨0, 101, 0, 0, 0, 0, 0, 2, 1, 0, 3, 2⟩
theorem some_any : RetB 7 #[] (.agg sp.cells) := by
  intro W
  have hb := below_box W (.cells sp.cells 31)
  have hc := (PBox.new W sp)
  go_enter Try.func7, Try.ntmps7
  go_wp2_with fail
  exact bodyPost_ret (results_cell_row rfl _ _ W.heap.size 31 sp.cells (0, 0) _ rfl hc Try.underlying31 rfl info_pm) rfl ⟨rfl, hb⟩
end M
end Go.Proofs.Ytnlkikcnjlkkdaa
/- A region that draws its order, whose operations but the last ones only read, and call what only draws, and whose last ones come in one forced order behind all others (a store of what was reckoned): one walk of the text's order serves every order. -/
namespace Go.Proofs.Ytnlkikcnjlkkdaa
open Go
namespace QT
section
variable {P : Program} {ops : Array Oper} {md : Region.Mode} {C : World → Prop}
/-- Whatever order the head's operations come up in; behind f of them, L. -/
def Head (P : Program) (md : Region.Mode) (ops : Array Oper) (C : World → Prop) (n : Nat) (L : Array Bool → Act → Prop) : Nat → Array Bool → Act → Prop
  | 0, s, a => L s a
  | f + 1, s, a => (Region.ready md ops s = [] → False) ∧ ∀ i, i ∈ Region.ready md ops s → i < n ∧ qOp P ops C i (fun a' => Head P md ops C n L f (s.setIfInBounds i true) a') a

theorem Head.any {n g : Nat} {L : Array Bool → Act → Prop} {Q : Exit → Act → World → Prop} (hL : ∀ s a w, C w → L s a → wpAny P md ops Q g s a w) (f : Nat) :
    ∀ s a w, C w → Head P md ops C n L f s a → wpAny P md ops Q (f + g) s a w := by
  induction f with
  | zero => intro s a w hw h; rw [Nat.zero_add]; exact hL s a w hw h
  | succ f ih =>
    intro s a w hw h
    rw [Nat.add_right_comm]
    exact ⟨fun e => (h.1 e).elim, fun i hi => wpOp_of_qOp hw (fun a' w' hw' h' => ih _ a' w' hw' h') (h.2 i hi).2⟩

/-- Nothing of the tail comes up as long as one of the head is left. -/
def Waits (md : Region.Mode) (ops : Array Oper) (n : Nat) : Prop := ∀ s, HeadInv md ops n s → ∀ i, i < n → s.getD i true = false → ∀ t, t ∈ Region.ready md ops s → t < n

theorem Head.first {n i : Nat} {oi : Oper} {v : Value} {L : Array Bool → Act → Prop} (hi : ops[i]? = some oi) (hin : i < n) (hsel : ∀ (j : Nat) (o : Oper) cs b, ops[j]? = some o → o.op ≠ .select cs b)
    (hwait : Waits md ops n) (hdone : ∀ s a, L s a → ∀ j ∈ Region.ready md ops s, n ≤ j) (f : Nat) :
    ∀ s a, HeadInv md ops n s →
      (∀ j oj, ops[j]? = some oj → j ≠ i → s.getD j true = false → (∀ e ∈ oj.after, Region.binds md e = true → e.on ≠ i) → oi.apart ops oj = true) →
      i ∈ Region.ready md ops s → YieldsIn P ops C oi v a → Head P md ops C n L f (s.setIfInBounds i true) (a.put oi.dst v) → Head P md ops C n L (f + 1) s a := by
  induction f with
  | zero =>
    intro s a inv _ hr hy H
    have hun := (mem_ready.1 hr).1
    refine ⟨fun e => (by rw [e] at hr; cases hr), fun j hj => ?_⟩
    have hjn := hwait s inv i hin hun j hj
    refine ⟨hjn, ?_⟩
    rcases Nat.decEq j i with hji | rfl
    · exact absurd (hdone _ _ H j (ready_mono hj hji)) (by omega)
    · exact hy.qOp hi H
  | succ f ih =>
    intro s a inv hfree hr hy H
    have hun := (mem_ready.1 hr).1
    refine ⟨fun e => (by rw [e] at hr; cases hr), fun j hj => ?_⟩
    have hjn := hwait s inv i hin hun j hj
    refine ⟨hjn, ?_⟩
    rcases Nat.decEq j i with hji | rfl
    · obtain ⟨hju, oj, hoj, hall⟩ := mem_ready.1 hj
      have hno : ∀ e ∈ oj.after, Region.binds md e = true → e.on ≠ i := fun e he hb e1 => by
        have h1 := hall e he hb
        rw [e1, getD_both hun] at h1
        cases h1
      have hnext := qOp_put hoj (hfree j oj hoj hji hju hno) (fun cs b => hsel i oi cs b hi) (fun cs b => hsel j oj cs b hoj) hy (H.2 j (ready_mono hj hji)).2
      refine qOp_mono (fun a' h3 => ?_) hnext
      refine ih _ a' (inv.set hj hjn) (fun k ok hk hki hku => hfree k ok hk hki ?_) (ready_mono hr (Ne.symm hji)) h3.1 (by rw [Array.setIfInBounds_comm _ _ hji]; exact h3.2)
      rcases Nat.decEq j k with hjk | rfl
      · rwa [getD_set_ne true hjk] at hku
      · exact hju
    · exact hy.qOp hi H

theorem Head.lex {n g : Nat} {Lq : Act → Prop} (hsel : Region.noSelect ops = true) (hwait : Waits md ops n) (l : List Oper) :
    ∀ (k : Nat) (s : Array Bool) (a : Act), (∀ j, j < l.length → l[j]? = ops[k + j]?) → k + l.length = n → HeadInv md ops n s →
      Region.lexHead md ops g l.length k s = true → wpQuiet P ops C Lq l a → Head P md ops C n (fun s' a' => Region.seqB md ops g n s' = true ∧ Lq a') l.length s a := by
  induction l with
  | nil =>
    intro k s a _ hk _ hB h
    obtain rfl : k = n := by simpa using hk
    exact ⟨by simpa [Region.lexHead] using hB, h⟩
  | cons o l ih =>
    intro k s a hl hk inv hB h
    have h0 : ops[k]? = some o := by simpa using (hl 0 (by simp)).symm
    simp only [List.length_cons, Region.lexHead, Bool.and_eq_true] at hB
    have hkn : k < n := by simp only [List.length_cons] at hk; omega
    have hr : k ∈ Region.ready md ops s := by simpa using hB.1.1
    obtain ⟨v, hy, hK⟩ := yieldsIn_of_qOp (K := wpQuiet P ops C Lq l) h0 (by unfold qOp; simp only [h0]; exact h)
    refine Head.first h0 hkn (Region.noSelect_spec hsel) hwait (fun s' a' hL => seqB_ready hL.1) l.length s a inv (Region.free_spec h0 hB.1.2) hr hy ?_
    exact ih (k + 1) _ _ (fun j hj => by have := hl (j + 1) (by simp; omega); simpa [Nat.add_assoc, Nat.add_comm 1 j] using this) (by simp only [List.length_cons] at hk; omega) (inv.set hr hkn) hB.2 hK
end

theorem any_of {P : Program} {Q : Exit → Act → World → Prop} {a : Act} {w : World} {l : List Oper} (n : Nat) (hB : Region.lexTailB .any l.toArray n = true)
    (h : wpQuiet P l.toArray (fun w' => ∃ m, w' = w.drewN m) (fun a' => ∀ m, wpList P l.toArray Q (l.drop n) a' (w.drewN m)) (l.take n) a) : wpAny P .any l.toArray Q l.toArray.size (Array.replicate l.toArray.size false) a (w.drewN 1) := by
  simp only [Region.lexTailB, Bool.and_eq_true, decide_eq_true_eq] at hB
  obtain ⟨⟨⟨⟨hsel, hn⟩, hs⟩, hc⟩, hlex⟩ := hB
  have hn' : n < l.length := by simpa using hn
  have h1 : (l.take n).length = n := by rw [List.length_take]; omega
  have h2 : (l.drop n).length = l.toArray.size - n := by simp
  have hwait : Waits .any l.toArray n := fun s inv i hi hun t ht => Nat.lt_of_not_le fun hle => tail_waits hs hc hn inv _ i rfl hi hun t hle ht
  have inv0 : HeadInv .any l.toArray n (Array.replicate l.toArray.size false) :=
    ⟨by simp, fun j oj _ hl => (by rw [getD_replicate_false] at hl; cases hl), fun t _ ht => getD_in (by simpa using ht) (getD_replicate_false _ _)⟩
  have H := Head.lex (g := l.toArray.size - n) hsel hwait (l.take n) 0 _ a (fun j hj => by rw [h1] at hj; simp [hj]) (by rw [h1, Nat.zero_add]) inv0 (by rw [h1]; exact hlex) h
  have R := Head.any (Q := Q) (g := l.toArray.size - n) (fun s a' w' hw hL => by
    obtain ⟨m, rfl⟩ := hw
    have := wpAny_of_seq (md := .any) (Q' := Q) (l.drop n) n s a' (w.drewN m) (fun j => by simp [List.getElem?_drop]) (by rw [h2]; exact hL.1) (hL.2 m)
    rwa [h2] at this) _ _ _ (w.drewN 1) ⟨1, rfl⟩ H
  rwa [h1, show n + (l.toArray.size - n) = l.toArray.size by omega] at R

/-- The head, n operations, quiet; behind it the others in the text's order, from whatever world the head has left: that of the beginning after some draws. -/
theorem region {P : Program} {id : Nat} {Q : Exit → Act → World → Prop} {a : Act} {w : World} {l : List Oper} (n : Nat) (hm : P.follows .mixedOrders = true) (hB : Region.lexTailB .any l.toArray n = true)
    (h : wpQuiet P l.toArray (fun w' => ∃ m, w' = w.drewN m) (fun a' => ∀ m, wpList P l.toArray Q (l.drop n) a' (w.drewN m)) (l.take n) a) : (Code.region id l.toArray true).wp P Q a w :=
  wp_region_any hm (any_of n hB h)
end QT
end Go.Proofs.Ytnlkikcnjlkkdaa
/- The walks of a query's row, a model's secrets and the scores, as the program has them. -/
namespace Go.Proofs.Ytnlkikcnjlkkdaa
open Go Go.RowKit Go.Lib
namespace M
attribute [local go_sem] Oper.semAt_some
theorem InP.cK {w0 w : World} {g : Nat} {p : Pm} {k : Nat} (h : InP w0 g p w) (e : p.K = (k : Int)) : w.cell? ⟨g, 7, none⟩ = some (.int .i64 (k : Int)) := by rw [← e]; exact h.box.cell 7
theorem InP.cD {w0 w : World} {g : Nat} {p : Pm} {d : Nat} (h : InP w0 g p w) (e : p.D = (d : Int)) : w.cell? ⟨g, 8, none⟩ = some (.int .i64 (d : Int)) := by rw [← e]; exact h.box.cell 8
theorem InP.cQ {w0 w : World} {g : Nat} {p : Pm} (h : InP w0 g p w) : w.cell? ⟨g, 1, none⟩ = some (.int .u64 (p.Q : Int)) := h.box.cell 1
set_option maxRecDepth 100000 in
set_option maxHeartbeats 8000000 in
theorem row_fit (p : Pm) (ao : Option Addr) (n c : Nat) (x : Nat → Int) (hx : ∀ j, -9223372036854775808 ≤ x j ∧ x j ≤ 9223372036854775807) (hf : MM.Fit p) (W : World) (hr : IRow W ao n c x) :
    Calls Try.prog 12 #[.agg p.cells, .slice ao n c] W fun e w' => ∃ B, e = .returned (.slice (some ⟨B, 0, none⟩) (p.D.toNat + 1) (p.D.toNat + 1)) ∧ Mine W B (p.D.toNat + 1) (MM.rowZ p n x) w' := by
  obtain ⟨W1, hW1⟩ : ∃ W1, W.alloc (.cells p.cells 31) = W1 := ⟨_, rfl⟩
  obtain ⟨g, hg⟩ : ∃ g, W.heap.size = g := ⟨_, rfl⟩
  have HB1 : Hid (Below W.heap.size W W1) := Lib.hid (by rw [← hW1]; exact below_box W _)
  have HB0 : Hid (PBox W1 g p) := Lib.hid (by rw [← hW1, ← hg]; exact PBox.new W p)
  have HI : Hid (InP W1 g p W1) := Lib.hid ⟨by rw [← hW1, ← hg]; exact PBox.new W p, Below.refl _ _⟩
  have HR : Hid (IRow W1 ao n c x) := Lib.hid (hr.below HB1.out)
  have HU := usable_any p
  rw [decide_eq_true hf] at HU
  obtain ⟨d, hd⟩ : ∃ d : Nat, p.D = (d : Int) := ⟨p.D.toNat, by have := hf.2.2.1; omega⟩
  have hd4 : d ≤ 4 := by have := hf.2.2.2.1; omega
  have hdN : p.D.toNat = d := by omega
  obtain ⟨z, hz⟩ : ∃ z, MM.rowZ p n x = z := ⟨_, rfl⟩
  have HZ1 : Hid (∀ j, j < d → j < n → Ret 5 #[.int .i64 (x j), .int .u64 (p.Q : Int)] (.int .u64 ((z j : Nat) : Int))) := Lib.hid fun j h1 h2 => by
    rw [← hz]; unfold MM.rowZ; rw [hdN, if_pos h1, if_pos h2]; exact num_any _ _ (hx j)
  have HZ2 : Hid (∀ j, j < d → ¬ j < n → z j = 0) := Lib.hid fun j h1 h2 => by rw [← hz]; unfold MM.rowZ; rw [hdN, if_pos h1, if_neg h2]
  have HZ3 : Ret 5 #[.int .i64 1, .int .u64 (p.Q : Int)] (.int .u64 ((z d : Nat) : Int)) := by
    rw [← hz]; unfold MM.rowZ; rw [hdN, if_neg (by omega)]; exact num_any 1 _ (by omega)
  obtain ⟨N, hN⟩ : ∃ N, d + 1 = N := ⟨_, rfl⟩
  have hw1 : IntKind.i64.wrap ((d : Int) + 1) = (N : Int) := by rw [IntWalk.i64_in _ (by omega)]; omega
  rw [hdN, hz, hN]
  clear hr hf hx hz
  go_enter Try.func12, Try.ntmps12
  go_upto_region 3 with (first
    | (refine load_pm ?_ _ rfl g rfl p HI.out.box ?_; first | rfl | (simp [Region.wanted, yielded]; done))
    | (go_at_call 20; (with_reducible refine (HU.at _).mono ?_); rintro e w1 ⟨rfl, hb⟩; replace HI := Lib.hid (HI.out.step hb); clear hb))
  have k8 := HI.out.cD hd
  have HM0 : Hid (Mine W1 w1.heap.size N (fun _ => 0) (w1.alloc (.cells (madeCells (Value.int .u64 0).cells (N * 1)) 23))) := Lib.hid ((Mine.made w1 N).base HI.out.below)
  have HI2 := Lib.hid (HI.out.step (below_box w1 (.cells (madeCells (Value.int .u64 0).cells (N * 1)) 23)))
  have hmk := run_made N (by omega) w1
  generalize w1.alloc (.cells (madeCells (Value.int .u64 0).cells (N * 1)) 23) = W2 at *
  generalize w1.heap.size = B at *
  have k8b := HI2.out.cD hd
  obtain ⟨m, hm⟩ : ∃ m : Nat, min n d = m := ⟨_, rfl⟩
  have hmI : min (n : Int) (d : Int) = (m : Int) := by omega
  have hnc := HR.out.2.2
  have hmc : m ≤ c := by omega
  go_wp2_with fail
  clear hmk
  go_loopw [23] (fun s23 wx => ∃ k : Nat, k ≤ m ∧ s23 = .int .i64 (k : Int) ∧ Hid (Mine W1 B N (fun j => if j < k then z j else 0) wx)) (fun s23 _ => m - (RowKit.intOf s23).toNat)
  case atStart => exact ⟨0, Nat.zero_le _, rfl, Lib.hid (HM0.out.congr fun j _ => by simp)⟩
  case round =>
    clear HM0 HI2 k8 k8b
    obtain ⟨k, hk, rfl, HM⟩ := hrel
    have HI2 : Hid (InP W1 g p wr) := Lib.hid ⟨HB0.out.below HM.out.below, HM.out.below⟩
    by_cases hlt : k < m
    · obtain ⟨ad, rfl, hc⟩ := HR.out.at_ (k := k) (by omega)
      have hc' := (HI2.out.below.cell (World.block_lt_of_cell? W1 _ hc)).trans hc
      have HN := HZ1.out k (by omega) (by omega)
      have HS : Hid (∀ nd, Mine W1 B N (fun j => if j < k + 1 then z j else 0) ((wr.drewN nd).setCell ⟨B, k, none⟩ (.int .u64 ((z k : Nat) : Int)))) := Lib.hid fun nd => (HM.out.drewN nd).set k (z k) fun j _ => by
        by_cases e : j = k
        · subst e; rw [if_pos (by omega), if_pos rfl]
        · rw [if_neg e]
          by_cases h : j < k
          · rw [if_pos (by omega), if_pos h]
          · rw [if_neg (by omega), if_neg h]
      have hcl : wr.cell? ⟨B, k, none⟩ = some (.int .u64 ((0 : Nat) : Int)) := by
        have := HM.out.cell (k := k) (by omega)
        rwa [if_neg (by omega)] at this
      have hfr := HM.out.free k
      have hq := HI2.out.cQ
      have hk0 : (0 : Int) ≤ (k : Int) := Int.natCast_nonneg _
      have hk1 : (k : Int) < (N : Int) := by omega
      have hk2 : (k : Int) < (m : Int) := by omega
      clear hc
      generalize z k = zk at *
      generalize x k = xk at *
      go_wp2_with (go_at_call 5; (with_reducible refine (HN.at _).mono ?_); rintro e w' ⟨rfl, nd, rfl⟩)
      go_roundw
      case rel => exact ⟨k + 1, by omega, by go_num, Lib.hid (HS.out nd)⟩
      case measure => simp [RowKit.intOf]; omega
    · obtain rfl : k = m := by omega
      go_upto_region 9 with fail
      have HS : Hid (∀ nd, Mine W1 B N z ((wr.drewN nd).setCell ⟨B, d, none⟩ (.int .u64 ((z d : Nat) : Int)))) := Lib.hid fun nd => (HM.out.drewN nd).set d (z d) fun j hj => by
        by_cases e : j = d
        · subst e; rw [if_pos rfl]
        · rw [if_neg e]
          by_cases h : j < k
          · rw [if_pos h]
          · rw [if_neg h, HZ2.out j (by omega) (by omega)]
      obtain ⟨y0, hcl⟩ : ∃ y0 : Nat, wr.cell? ⟨B, d, none⟩ = some (.int .u64 ((y0 : Nat) : Int)) := ⟨_, HM.out.cell (k := d) (by omega)⟩
      have hfr := HM.out.free d
      have hq := HI2.out.cQ
      have hd8 := HI2.out.cD hd
      have hk0 : (0 : Int) ≤ (d : Int) := Int.natCast_nonneg _
      have hk1 : (d : Int) < (N : Int) := by omega
      generalize z d = zd at *
      refine QT.region 6 (by kernel_rfl) (by kernel_rfl) ?_
      simp only [List.take_succ_cons, List.take_zero, List.drop_succ_cons, List.drop_zero]
      repeat (quiet_step ((go_at_call 5; exact (HZ3).quiet)))
      refine wpQuiet_nil ?_
      intro nq
      go_wp2_with fail
      go_ret
      exact ⟨B, rfl, (HS.out nq).base HB1.out⟩
theorem row_any (p : Pm) (ao : Option Addr) (n c : Nat) (x : Nat → Int) (hx : ∀ j, -9223372036854775808 ≤ x j ∧ x j ≤ 9223372036854775807) (W : World) (hr : IRow W ao n c x) :
    Calls Try.prog 12 #[.agg p.cells, .slice ao n c] W fun e w' => ∃ v, e = .returned v ∧ NewU W.heap.size w' v (MM.rowN p) (MM.rowZ p n x) ∧ Below W.heap.size W w' := by
  by_cases hf : MM.Fit p
  · refine (row_fit p ao n c x hx hf W hr).mono ?_
    rintro e w' ⟨B, rfl, hm⟩
    have e1 : MM.rowN p = p.D.toNat + 1 := if_pos hf
    rw [e1]
    exact ⟨_, rfl, hm.newU, hm.below⟩
  · have e1 : MM.rowN p = 0 := if_neg hf
    have HI : Hid (InP W W.heap.size p (W.alloc (.cells p.cells 31))) := Lib.hid (InP.new W p)
    have HU := usable_any p
    rw [decide_eq_false hf] at HU
    rw [e1]
    clear hr hf hx
    go_enter Try.func12, Try.ntmps12
    go_wp2_with (first
      | (refine load_pm ?_ _ rfl W.heap.size rfl p HI.out.box ?_; first | rfl | (simp [Region.wanted, yielded]; done))
      | (go_at_call 20; (with_reducible refine (HU.at _).mono ?_); rintro e w1 ⟨rfl, hb⟩; replace HI := Lib.hid (HI.out.step hb); clear hb))
    go_ret
    exact ⟨_, rfl, .inl ⟨rfl, rfl⟩, HI.out.below⟩
end M
end Go.Proofs.Ytnlkikcnjlkkdaa
/- The same region in a round of a range over a function: what holds of it outside holds of it there, as long as nothing of it defers. -/
namespace Go.Proofs.Ytnlkikcnjlkkdaa
open Go
namespace QT
section
variable {P : Program} {ops : Array Oper} {md : Region.Mode} {Q : Exit → Act → World → Prop}
theorem op_in {o : Oper} {a : Act} {w : World} {K : Act → World → Prop} (l n : Nat) (hd : ∀ c, o.op ≠ .defer c) (h : o.wp P a w K Q) : o.wpIn (Fence.wide.inRound l) n P a w K Q := by
  unfold Oper.wp at h
  refine ⟨fun _ _ => trivial, ?_⟩
  rw [show (Fence.wide.inRound l).round = some l from rfl, Oper.semAt_some l _ o hd]
  generalize (execOp a.eval o).run P w = r at *
  cases r with
  | ok v w' =>
    cases v with
    | value v => exact h
    | skip => exact h
    | defer d => exact h
    | enter f args => exact ⟨(fun e => by cases e), CallsIn.inRound l (callsIn_wide.2 h)⟩
    | row row args => exact ⟨(fun e => by cases e), fun c cs _ => let ⟨v, w', r, s⟩ := h c cs; ⟨v, w', r, stepsIn_wide.2 s⟩⟩
    | round l' f tmps assign body => exact h.elim
    | _ => exact h.elim
  | halt hl w' =>
    cases hl with
    | panic v => exact h
    | _ => exact h.elim
theorem opAt_in {a : Act} {w : World} {K K' : Act → World → Prop} (l n i : Nat) (hd : ∀ o ∈ ops.toList, ∀ c, o.op ≠ .defer c) (hno : ¬ LetsOut Q) (hK : ∀ a w, K a w → K' a w) (h : wpOp P ops Q i K a w) : wpOpIn (Fence.wide.inRound l) n P ops Q i K' a w := by
  unfold wpOp at h
  unfold wpOpIn
  cases ho : ops[i]? with
  | none => simp only [ho] at h; exact hK _ _ h
  | some o =>
    simp only [ho] at h
    have hm : o ∈ ops.toList := Array.mem_toList_iff.2 (Array.mem_of_getElem? ho)
    dsimp only
    by_cases hw : Region.wanted o (yielded ops a.tmps) = true
    · rw [if_pos hw] at h ⊢
      rcases h with h | h
      · exact op_in l n (hd o hm) (Oper.wp_mono hK h)
      · exact absurd h.2 hno
    · rw [if_neg hw] at h ⊢
      exact ⟨fun _ _ => trivial, hK _ _ h⟩
theorem any_in (l n : Nat) (hd : ∀ o ∈ ops.toList, ∀ c, o.op ≠ .defer c) (hno : ¬ LetsOut Q) : ∀ (g : Nat) (s : Array Bool) (a : Act) (w : World), wpAny P md ops Q g s a w → wpAnyIn (Fence.wide.inRound l) n P md ops Q g s a w
  | 0, _, _, _, h => h
  | g + 1, _, _, _, h => ⟨h.1, fun i hi => opAt_in l n i hd hno (fun a w => any_in l n hd hno g _ a w) (h.2 i hi)⟩
end
theorem region_in {P : Program} {id : Nat} {Q : Exit → Act → World → Prop} {a : Act} {w : World} {ops : List Oper} (l m n : Nat) (hm : P.follows .mixedOrders = true) (hd : ∀ o ∈ ops, ∀ c, o.op ≠ .defer c) (hno : ¬ LetsOut Q) (hB : Region.lexTailB .any ops.toArray n = true)
    (h : wpQuiet P ops.toArray (fun w' => ∃ m, w' = w.drewN m) (fun a' => ∀ m, wpList P ops.toArray Q (ops.drop n) a' (w.drewN m)) (ops.take n) a) : (Code.region id ops.toArray true).wpIn (Fence.wide.inRound l) m P Q a w :=
  wpIn_region_any hm (any_in l m (by simpa using hd) hno _ _ _ _ (any_of n hB h))
end QT
end Go.Proofs.Ytnlkikcnjlkkdaa
