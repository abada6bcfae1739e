/- Rows that a call itself makes: by appends onto what was made with room, or whole; rows of whole numbers. -/
import Derived.Test.YtdblijpoelcghaaFixOwn
import Derived.Laws.OwnMore
import Derived.Lib.AppendZeros
namespace Go.Proofs.Ytdblijpoelcghaa
open Go Go.RowKit Go.Lib
namespace M
theorem Mine.base {W w1 w : World} {B n : Nat} {z : Nat → Nat} (h : Mine w1 B n z w) (hb : Below W.heap.size W w1) : Mine W B n z w := ⟨h.block, Nat.le_trans hb.size h.low, hb.trans (h.below.mono hb.size)⟩
section
variable {w0 w w' : World} {B k : Nat} {v : Value} {z : Nat → Nat}
theorem Own.base {w1 : World} (h : Own w1 B v k z w) (hb : Below w0.heap.size w0 w1) : Own w0 B v k z w := ⟨h.own, h.size, Nat.le_trans hb.size h.low, hb.trans (h.below.mono hb.size)⟩
/-- One number more behind a row of the call's own. -/
theorem Own.push1 (h : Own w0 B v k z w) (c : Nat) (hk : k ≤ 900000) :
    ∃ v' w', (Builtin.append_ #[39, 39] 39 #[v, .slice (some ⟨w.heap.size, 0, none⟩) 1 c]).run Try.prog (w.alloc (.cells #[.int .u64 ((z k : Nat) : Int)] 23)) = .ok v' w' ∧ Own w0 B v' (k + 1) z w' := by
  obtain ⟨i0, hi, hz0, hz1, hz2⟩ := info_parts info_u64
  have ha := h.alloc (.cells #[.int .u64 ((z k : Nat) : Int)] 23)
  obtain ⟨v', w', hr, ho, hg, _⟩ := run_append_own (P := Try.prog) _ B 39 39 23 i0 (.int .u64 0) 1 8 Try.underlying39 hi hz0 hz1 hz2 rfl (by decide) v k (zlist k z) ha.own ⟨w.heap.size, 0, none⟩ 1 c [.int .u64 ((z k : Nat) : Int)] rfl (fun j u hj => by
    have hl := (List.getElem?_eq_some_iff.1 hj).1
    obtain rfl : j = 0 := by simpa using hl
    cases hj
    rw [show (⟨w.heap.size, 0, none⟩ : Addr).add 0 = ⟨w.heap.size, 0, none⟩ from rfl, cell_of_row _ _ _ _ _ _ (heap_alloc_new w _)]; rfl) (by simp [Value.oneCell']) (by unfold maxLen; omega) (by omega) ha.size
  exact ⟨v', w', hr, ha.grow ho (zlist_succ k z) hg⟩
theorem run_made0 (n : Nat) (hn : n ≤ 1000000000) (w : World) :
    (Instr.makeSlice 39 (.int .i64 0) (.int .i64 (n : Int))).run Try.prog w = .ok (.slice (some ⟨w.heap.size, 0, none⟩) 0 n) (w.alloc (.cells (madeCells (Value.int .u64 0).cells (n * 1)) 23)) := by
  obtain ⟨i0, hi, hz0, hz1, hz2⟩ := info_parts info_u64
  have hr := run_make (P := Try.prog) w 39 23 i0 (.int .u64 0) Try.underlying39 hi hz0 .i64 .i64 (0 : Nat) n (by omega) (by omega) (by rw [hz2]; omega) (by omega)
  simp only [Int.toNat_natCast, hz1] at hr
  exact hr
theorem Own.made1 (w : World) (n : Nat) (hn : n ≤ 1000000000) (z : Nat → Nat) : Own w w.heap.size (.slice (some ⟨w.heap.size, 0, none⟩) 0 n) 0 z (w.alloc (.cells (madeCells (Value.int .u64 0).cells (n * 1)) 23)) :=
  ⟨World.ownsRow_made w _ n (Nat.le_refl _) (by unfold maxLen; omega) (by rw [size_madeCells]), by simp, Nat.le_refl _, below_box _ _⟩
end
/-- A row of values of a call's own, in a block by itself. -/
def RowV (T : TypeId) (lo : Nat) (W : World) (v : Value) (n : Nat) (u : Nat → Value) : Prop :=
  (v = .slice none 0 0 ∧ n = 0) ∨ ∃ B c cs, v = .slice (some ⟨B, 0, none⟩) n c ∧ n ≤ c ∧ lo ≤ B ∧ W.heap[B]? = some (.cells cs T (0, 0)) ∧ ∀ k, k < n → cs[k]? = some (u k)
/-- .. of numbers, of whole numbers. -/
abbrev NewU (lo : Nat) (W : World) (v : Value) (n : Nat) (z : Nat → Nat) : Prop := RowV 23 lo W v n fun k => .int .u64 ((z k : Nat) : Int)
abbrev NewI (lo : Nat) (W : World) (v : Value) (n : Nat) (z : Nat → Int) : Prop := RowV 2 lo W v n fun k => .int .i64 (z k)
section
variable {T : TypeId} {lo : Nat} {W W' : World} {v : Value} {n : Nat} {u : Nat → Value}
theorem RowV.below (h : RowV T lo W v n u) (hb : Below W.heap.size W W') : RowV T lo W' v n u := by
  rcases h with h | ⟨B, c, cs, h1, h2, h3, h4, h5⟩
  · exact .inl h
  · exact .inr ⟨B, c, cs, h1, h2, h3, (hb.block B (row_lt h4)).trans h4, h5⟩
theorem RowV.mono {lo' : Nat} (h : RowV T lo W v n u) (hl : lo' ≤ lo) : RowV T lo' W v n u := by
  rcases h with h | ⟨B, c, cs, h1, h2, h3, h4, h5⟩
  · exact .inl h
  · exact .inr ⟨B, c, cs, h1, h2, Nat.le_trans hl h3, h4, h5⟩
theorem RowV.congr {y : Nat → Value} (h : RowV T lo W v n u) (e : ∀ k, k < n → u k = y k) : RowV T lo W v n y := by
  rcases h with h | ⟨B, c, cs, h1, h2, h3, h4, h5⟩
  · exact .inl h
  · exact .inr ⟨B, c, cs, h1, h2, h3, h4, fun k hk => by rw [h5 k hk, e k hk]⟩
theorem row_add {b k : Nat} : (⟨b, 0, none⟩ : Addr).add k = ⟨b, k, none⟩ := by
  unfold Addr.add
  by_cases h0 : k = 0
  · subst h0; rfl
  · rw [if_neg h0]; simp
theorem RowV.cells (h : RowV T lo W v n u) : ∃ ao c, v = .slice ao n c ∧ n ≤ c ∧ (ao = none → n = 0 ∧ c = 0) ∧ ∀ k, k < n → ∃ ad, ao = some ad ∧ W.cell? (ad.add k) = some (u k) := by
  rcases h with ⟨rfl, rfl⟩ | ⟨B, c, cs, rfl, h2, h3, h4, h5⟩
  · exact ⟨none, 0, rfl, Nat.le_refl _, fun _ => ⟨rfl, rfl⟩, fun k hk => absurd hk (by omega)⟩
  · exact ⟨some ⟨B, 0, none⟩, c, rfl, h2, fun h => absurd h (by simp), fun k hk => ⟨_, rfl, by rw [row_add, cell_of_row W B k _ _ _ h4, h5 k hk]⟩⟩
end
theorem NewU.rd {lo : Nat} {W : World} {v : Value} {n : Nat} {z : Nat → Nat} (h : NewU lo W v n z) : ∃ ao c, v = .slice ao n c ∧ n ≤ c ∧ Rd W ao n z := by
  obtain ⟨ao, c, e, h1, _, h3⟩ := h.cells
  refine ⟨ao, c, e, h1, fun hn => ?_⟩
  obtain ⟨ad, rfl, _⟩ := h3 0 hn
  exact ⟨ad, rfl, fun t ht => by obtain ⟨_, e, hc⟩ := h3 t ht; cases e; exact hc⟩
theorem NewI.irow {lo : Nat} {W : World} {v : Value} {n : Nat} {z : Nat → Int} (h : NewI lo W v n z) : ∃ ao c, v = .slice ao n c ∧ IRow W ao n c z := by
  obtain ⟨ao, c, e, h1, h2, h3⟩ := h.cells
  exact ⟨ao, c, e, h3, h2, h1⟩
theorem Mine.newU {w0 w : World} {B n : Nat} {z : Nat → Nat} (h : Mine w0 B n z w) : NewU w0.heap.size w (.slice (some ⟨B, 0, none⟩) n n) n z := by
  obtain ⟨cs, h1, h2, h3⟩ := h.block
  exact .inr ⟨B, n, cs, rfl, Nat.le_refl _, h.low, h1, h3⟩
theorem Own.newU {w0 w : World} {B k : Nat} {v : Value} {z : Nat → Nat} (h : Own w0 B v k z w) : NewU w0.heap.size w v k z := by
  obtain ⟨_, h1 | ⟨g, cap, cur, h1, h2, h3, h4, h5, _, h7⟩⟩ := h.own
  · exact .inl h1
  · refine .inr ⟨g, cap, cur, h1, h4, Nat.le_trans h.low h2, h3, fun j hj => ?_⟩
    have e1 : (cur.toList.take (k * 1))[j]? = (zlist k z)[j]? := by rw [h7]
    rw [zlist_get hj, List.getElem?_take_of_lt (by omega)] at e1
    simpa using e1
/-- A row of whole numbers that a call itself makes whole. -/
structure MineI (w0 : World) (B n : Nat) (z : Nat → Int) (w : World) : Prop where
  block : ∃ cs : Array Value, w.heap[B]? = some (.cells cs 2 (0, 0)) ∧ cs.size = n ∧ ∀ k, k < n → cs[k]? = some (.int .i64 (z k))
  low : w0.heap.size ≤ B
  below : Below w0.heap.size w0 w
section
variable {w0 w w' : World} {B n : Nat} {z y : Nat → Int}
theorem MineI.lt (h : MineI w0 B n z w) : B < w.heap.size := by obtain ⟨cs, h1, _⟩ := h.block; exact row_lt h1
theorem MineI.step (h : MineI w0 B n z w) (hb : Below w.heap.size w w') : MineI w0 B n z w' :=
  ⟨by obtain ⟨cs, h1, h2⟩ := h.block; exact ⟨cs, (hb.block B h.lt).trans h1, h2⟩, h.low, h.below.trans (hb.mono h.below.size)⟩
theorem MineI.drewN (h : MineI w0 B n z w) (m : Nat) : MineI w0 B n z (w.drewN m) := h.step (below_drewN' w m _)
theorem MineI.base {w1 : World} (h : MineI w1 B n z w) (hb : Below w0.heap.size w0 w1) : MineI w0 B n z w := ⟨h.block, Nat.le_trans hb.size h.low, hb.trans (h.below.mono hb.size)⟩
theorem MineI.congr (h : MineI w0 B n z w) (hz : ∀ k, k < n → z k = y k) : MineI w0 B n y w :=
  ⟨by obtain ⟨cs, h1, h2, h3⟩ := h.block; exact ⟨cs, h1, h2, fun k hk => by rw [h3 k hk, hz k hk]⟩, h.low, h.below⟩
theorem MineI.cell (h : MineI w0 B n z w) {k : Nat} (hk : k < n) : w.cell? ⟨B, k, none⟩ = some (.int .i64 (z k)) := by
  obtain ⟨cs, h1, _, h3⟩ := h.block
  rw [cell_of_row w B k _ _ _ h1, h3 k hk]
theorem MineI.free (h : MineI w0 B n z w) (k : Nat) : w.frozen? ⟨B, k, none⟩ = false := by
  obtain ⟨cs, h1, _⟩ := h.block
  simp [World.frozen?, h1]
theorem MineI.set (h : MineI w0 B n z w) (k : Nat) (x : Int) (hy : ∀ j, j < n → y j = if j = k then x else z j) : MineI w0 B n y (w.setCell ⟨B, k, none⟩ (.int .i64 x)) := by
  refine ⟨?_, h.low, h.below.setCell (p := ⟨B, k, none⟩) h.low _⟩
  obtain ⟨cs, h1, h2, h3⟩ := h.block
  refine ⟨_, heap_setCell_same w B k cs _ _ h1, by simpa using h2, fun j hj => ?_⟩
  rw [hy j hj, Array.getElem?_setIfInBounds]
  by_cases e : k = j
  · subst e; rw [if_pos rfl, if_pos (by omega), if_pos rfl]
  · rw [if_neg e, if_neg (fun h => e h.symm), h3 j hj]
theorem MineI.newI (h : MineI w0 B n z w) : NewI w0.heap.size w (.slice (some ⟨B, 0, none⟩) n n) n z := by
  obtain ⟨cs, h1, h2, h3⟩ := h.block
  exact .inr ⟨B, n, cs, rfl, Nat.le_refl _, h.low, h1, h3⟩
theorem MineI.made (w0 : World) (n : Nat) : MineI w0 w0.heap.size n (fun _ => 0) (w0.alloc (.cells (madeCells (Value.int .i64 0).cells (n * 1)) 2)) := by
  refine ⟨⟨_, heap_alloc_new _ _, by rw [size_madeCells, Nat.mul_one], fun k hk => ?_⟩, Nat.le_refl _, below_box _ _⟩
  simp [madeCells, hk, Value.cells, Nat.mod_one]
end
theorem info_i64 : (Try.prog.info? 2).map (fun i => (i.zero, i.size, i.bytes)) = some (some (.int .i64 0), 1, 8) := by kernel_rfl
theorem run_madeI (n : Nat) (hn : n ≤ 1000000000) (w : World) :
    (Instr.makeSlice 34 (.int .i64 (n : Int)) (.int .i64 (n : Int))).run Try.prog w = .ok (.slice (some ⟨w.heap.size, 0, none⟩) n n) (w.alloc (.cells (madeCells (Value.int .i64 0).cells (n * 1)) 2)) := by
  obtain ⟨i0, hi, hz0, hz1, hz2⟩ := info_parts info_i64
  have hr := run_make (P := Try.prog) w 34 2 i0 (.int .i64 0) Try.underlying34 hi hz0 .i64 .i64 n n (by omega) (by omega) (by rw [hz2]; omega) (by omega)
  simp only [Int.toNat_natCast, hz1] at hr
  exact hr
end M
end Go.Proofs.Ytdblijpoelcghaa
