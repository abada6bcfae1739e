/- The texts PedMat, one behind the other. -/
import Derived.Test.YtlnlepadninnaaaKN16
/- The walks of package pedersen's commitments to all rows and columns, and of what asks whether lists are filled, formed, square. -/
namespace Go.Proofs.Ytlnlepadninnaaa
open Go Go.RowKit Go.Lib
namespace M
theorem run_madeR8 (n : Nat) (hn : n ≤ 1000000) (w : World) :
    (Instr.makeSlice 28 (.int .i64 (n : Int)) (.int .i64 (n : Int))).run Try.prog w = .ok (.slice (some ⟨w.heap.size, 0, none⟩) n n) (w.alloc (.cells (madeCells (Value.slice none 0 0).cells (n * 1)) 27)) := by
  obtain ⟨i0, hi, hz0, hz1, hz2⟩ := info_parts info_rows
  have hr := run_make (P := Try.prog) w 28 27 i0 (.slice none 0 0) Try.underlying28 hi hz0 .i64 .i64 n n (by omega) (by omega) (by rw [hz2]; omega) (by omega)
  simp only [Int.toNat_natCast, hz1] at hr
  exact hr
/-- A list of lists that a call makes whole, of which the first k were put. -/
structure MineR (W : World) (B n k g : Nat) (p : Pm) (L : Nat → Nat) (F : Nat → Nat → Nat) (w : World) : Prop where
  block : ∃ cs : Array Value, w.heap[B]? = some (.cells cs 27 (0, 0)) ∧ cs.size = n ∧ ∀ i, i < n → ∃ u, cs[i]? = some u ∧ (k ≤ i → u = .slice none 0 0) ∧ (i < k → RowC W.heap.size w u (L i) (F i))
  low : W.heap.size ≤ B
  below : Below W.heap.size W w
  box : PBox w g p
section
variable {W w w' : World} {B n k g : Nat} {p : Pm} {L : Nat → Nat} {F : Nat → Nat → Nat}
theorem MineR.step (h : MineR W B n k g p L F w) (hb : Below w.heap.size w w') : MineR W B n k g p L F w' :=
  ⟨by obtain ⟨cs, h1, h2, h3⟩ := h.block; exact ⟨cs, (hb.block B (row_lt h1)).trans h1, h2, fun i hi => let ⟨u, a, b, c⟩ := h3 i hi; ⟨u, a, b, fun hk => (c hk).below hb⟩⟩, h.low, h.below.trans (hb.mono h.below.size), h.box.below hb⟩
theorem MineR.cell (h : MineR W B n k g p L F w) (hk : k < n) : w.cell? ⟨B, k, none⟩ = some (.slice none 0 0) := by
  obtain ⟨cs, h1, _, h3⟩ := h.block
  obtain ⟨u, a, b, _⟩ := h3 k hk
  rw [cell_of_row w B k _ _ _ h1, a, b (Nat.le_refl _)]
theorem MineR.free (h : MineR W B n k g p L F w) (i : Nat) : w.frozen? ⟨B, i, none⟩ = false := by
  obtain ⟨cs, h1, _⟩ := h.block
  simp [World.frozen?, h1]
theorem MineR.put (h : MineR W B n k g p L F w) (hk : k < n) {v : Value} (hv : RowC W.heap.size w v (L k) (F k)) : MineR W B n (k + 1) g p L F (w.setCell ⟨B, k, none⟩ v) := by
  obtain ⟨cs, h1, h2, h3⟩ := h.block
  have hne : ∀ (b : Nat) (cs' : Array Value) (t : TypeId), t ≠ 27 → w.heap[b]? = some (.cells cs' t (0, 0)) → (w.setCell ⟨B, k, none⟩ v).heap[b]? = some (.cells cs' t (0, 0)) := fun b cs' t ht e => (Below.heap_setCell w ⟨B, k, none⟩ v b (fun e' => by
    have e'' : b = B := e'
    rw [e'', h1] at e
    injection e with e
    injection e with _ e2 _
    exact ht e2.symm)).trans e
  refine ⟨⟨_, heap_setCell_same w B k cs _ _ h1, by simpa using h2, fun i hi => ?_⟩, h.low, h.below.setCell (p := ⟨B, k, none⟩) h.low _, hne _ _ _ (by decide) h.box⟩
  rw [Array.getElem?_setIfInBounds]
  by_cases e : k = i
  · subst e
    rw [if_pos rfl, if_pos (by omega)]
    exact ⟨v, rfl, fun h => absurd h (by omega), fun _ => hv.same fun b cs => hne b cs _ (by decide)⟩
  · rw [if_neg e]
    obtain ⟨u, a, b, c⟩ := h3 i hi
    exact ⟨u, a, fun h => b (by omega), fun h => (c (by omega)).same fun b cs => hne b cs _ (by decide)⟩
theorem MineR.matC (h : MineR W B n n g p L F w) : MatC W.heap.size w (.slice (some ⟨B, 0, none⟩) n n) n L F := by
  obtain ⟨cs, h1, h2, h3⟩ := h.block
  exact .inr ⟨B, n, cs, rfl, h.low, h1, fun i hi => let ⟨u, a, _, c⟩ := h3 i hi; ⟨u, a, c hi⟩⟩
end
theorem Mine.rowC {w0 w : World} {B n : Nat} {z : Nat → Nat} (h : Mine w0 B n z w) : RowC w0.heap.size w (.slice (some ⟨B, 0, none⟩) n n) n z := by
  obtain ⟨cs, h1, h2, h3⟩ := h.block
  exact .inr ⟨B, n, cs, rfl, h.low, h1, h3⟩

set_option maxRecDepth 100000 in
set_option maxHeartbeats 4000000 in
theorem rowComs_any (p : Pm) (ao : Option Addr) (m cap x : Nat) (K : Nat → Nat) (L : Nat → Nat → Nat) (F : Nat → Nat → Nat → Nat) (hm : m ≤ 1000) (hK : ∀ s, s < m → K s ≤ 1000) (hL : ∀ s, s < m → ∀ i, i < K s → L s i ≤ 1000) (hF : ∀ s i j, F s i j < 18446744073709551616) (hx : x < 18446744073709551616) (W : World) (hr : Cub W ao m K L F) :
    Calls Try.prog 6 #[.agg p.cells, .slice ao m cap, .int .u64 (x : Int)] W fun e w' => ∃ v, e = .returned v ∧ MatC W.heap.size w' v m (fun s => MM.widU (L s) (K s)) (fun s j => MM.rowT p.P p.Q x (L s) (F s) j (K s)) ∧ Below W.heap.size W w' := by
  have hx1 := PBox.new W p
  have hb1 := below_box W (.cells p.cells 25)
  obtain ⟨g, hg⟩ : ∃ g, W.heap.size = g := ⟨_, rfl⟩
  obtain ⟨W1, hW1⟩ : ∃ W1, W.alloc (.cells p.cells 25) = W1 := ⟨_, rfl⟩
  rw [hW1] at hb1 hx1
  have hmk := run_madeR8 m (by omega) W1
  have hb2 := below_box W1 (.cells (madeCells (Value.slice none 0 0).cells (m * 1)) 27)
  have hnew := heap_alloc_new W1 (.cells (madeCells (Value.slice none 0 0).cells (m * 1)) 27)
  obtain ⟨W2, hW2⟩ : ∃ W2, W1.alloc (.cells (madeCells (Value.slice none 0 0).cells (m * 1)) 27) = W2 := ⟨_, rfl⟩
  obtain ⟨B, hB⟩ : ∃ B, W1.heap.size = B := ⟨_, rfl⟩
  obtain ⟨Z, hZ⟩ : ∃ Z : Nat → Nat → Nat, Z = fun s j => MM.rowT p.P p.Q x (L s) (F s) j (K s) := ⟨_, rfl⟩
  obtain ⟨Len, hLen⟩ : ∃ Len : Nat → Nat, Len = fun s => MM.widU (L s) (K s) := ⟨_, rfl⟩
  rw [hW2] at hmk hb2 hnew
  rw [hB] at hmk hnew
  have HM1 : Hid (MineR W B m 0 g p Len Z W2) := Lib.hid ⟨⟨_, hnew, by rw [size_madeCells, Nat.mul_one], fun i hi => ⟨.slice none 0 0, by simp [madeCells, hi, Value.cells, Nat.mod_one], fun _ => rfl, fun h => absurd h (by omega)⟩⟩, by rw [← hB]; exact hb1.size, hb1.trans (hb2.mono hb1.size), by rw [hg] at hx1; exact hx1.below hb2⟩
  have HR := Lib.hid hr
  have HC := Lib.hid (fun s (hs : s < m) (u : World) (bo : Option Addr) (c : Nat) (h : Mat u bo (K s) (L s) (F s)) => (show Calls Try.prog 17 #[.agg p.cells, .slice bo (K s) c, .int .u64 (x : Int)] u fun e w' => ∃ v, e = .returned v ∧ RowC u.heap.size w' v (Len s) (Z s) ∧ Below u.heap.size u w' from (rowValues_any p bo (K s) c x (L s) (F s) (hK s hs) (hL s hs) (hF s) hx u h).mono fun e w' ⟨B, h1, h2⟩ => ⟨_, h1, by rw [hLen, hZ]; exact h2.rowC, h2.below⟩))
  rw [← hLen, ← hZ]
  clear hr hB hW2 hb1 hx1 hb2 hnew hL hF hx hK hLen hZ
  go_enter Try.func6, Try.ntmps6
  go_wp2_with fail
  clear hmk hW1 hg
  go_loopw [15] (fun s15 wx => ∃ k : Nat, k ≤ m ∧ s15 = .int .i64 (k : Int) ∧ Hid (MineR W B m k g p Len Z wx)) (fun s15 _ => m - (RowKit.intOf s15).toNat)
  case atStart => exact ⟨0, Nat.zero_le _, rfl, HM1⟩
  case round =>
    clear HM1
    obtain ⟨k, hk, rfl, HJ⟩ := hrel
    by_cases hlt : k < m
    · obtain ⟨ad, v0, rfl, hc, bo, c, rfl, hs, _⟩ := HR.out k hlt
      have hcw := (HJ.out.below.cell (World.block_lt_of_cell? W _ hc)).trans hc
      have HA := Lib.hid (HC.out k hlt wr bo c (hs.below HJ.out.below))
      have hk0 : (0 : Int) ≤ (k : Int) := Int.natCast_nonneg _
      have hk1 : (k : Int) < (m : Int) := by omega
      generalize K k = kk at *
      clear hc hs
      go_wp2_with (first | (refine wpList_row_if ?_ 25 _ rfl g rfl 25 p.cells (0, 0) _ HJ.out.box Try.underlying25 rfl (by kernel_rfl) ?_; first | rfl | (simp [Region.wanted, yielded]; done)) | (go_at_call 17; refine HA.out.mono ?_; rintro e w' ⟨v, rfl, hv, hb⟩; obtain ⟨vo, vc, hve, _⟩ := hv.src; generalize Len k = ll at hve; subst hve; have hj2 := HJ.out.step hb; have hcl := hj2.cell hlt; have hfr := hj2.free k; have HN1 := Lib.hid (hj2.put hlt (hv.mono HJ.out.below.size)); clear hj2 hv hb))
      go_roundw
      case rel => exact ⟨k + 1, by omega, by go_num, HN1⟩
      case measure => simp [RowKit.intOf]; omega
    · obtain rfl : k = m := by omega
      go_wp2_with fail
      go_ret
      exact ⟨_, rfl, HJ.out.matC, HJ.out.below⟩

set_option maxRecDepth 100000 in
set_option maxHeartbeats 4000000 in
theorem colComs_any (p : Pm) (ao : Option Addr) (m cap x : Nat) (K : Nat → Nat) (L : Nat → Nat → Nat) (F : Nat → Nat → Nat → Nat) (hm : m ≤ 1000) (hK : ∀ s, s < m → K s ≤ 1000) (hL : ∀ s, s < m → ∀ i, i < K s → L s i ≤ 1000) (hF : ∀ s i j, F s i j < 18446744073709551616) (hx : x < 18446744073709551616) (W : World) (hr : Cub W ao m K L F) :
    Calls Try.prog 7 #[.agg p.cells, .slice ao m cap, .int .u64 (x : Int)] W fun e w' => ∃ v, e = .returned v ∧ MatC W.heap.size w' v m (K) (fun s i => MM.atN p.P p.Q x (F s i) (L s i)) ∧ Below W.heap.size W w' := by
  have hx1 := PBox.new W p
  have hb1 := below_box W (.cells p.cells 25)
  obtain ⟨g, hg⟩ : ∃ g, W.heap.size = g := ⟨_, rfl⟩
  obtain ⟨W1, hW1⟩ : ∃ W1, W.alloc (.cells p.cells 25) = W1 := ⟨_, rfl⟩
  rw [hW1] at hb1 hx1
  have hmk := run_madeR8 m (by omega) W1
  have hb2 := below_box W1 (.cells (madeCells (Value.slice none 0 0).cells (m * 1)) 27)
  have hnew := heap_alloc_new W1 (.cells (madeCells (Value.slice none 0 0).cells (m * 1)) 27)
  obtain ⟨W2, hW2⟩ : ∃ W2, W1.alloc (.cells (madeCells (Value.slice none 0 0).cells (m * 1)) 27) = W2 := ⟨_, rfl⟩
  obtain ⟨B, hB⟩ : ∃ B, W1.heap.size = B := ⟨_, rfl⟩
  obtain ⟨Z, hZ⟩ : ∃ Z : Nat → Nat → Nat, Z = fun s i => MM.atN p.P p.Q x (F s i) (L s i) := ⟨_, rfl⟩
  obtain ⟨Len, hLen⟩ : ∃ Len : Nat → Nat, Len = K := ⟨_, rfl⟩
  rw [hW2] at hmk hb2 hnew
  rw [hB] at hmk hnew
  have HM1 : Hid (MineR W B m 0 g p Len Z W2) := Lib.hid ⟨⟨_, hnew, by rw [size_madeCells, Nat.mul_one], fun i hi => ⟨.slice none 0 0, by simp [madeCells, hi, Value.cells, Nat.mod_one], fun _ => rfl, fun h => absurd h (by omega)⟩⟩, by rw [← hB]; exact hb1.size, hb1.trans (hb2.mono hb1.size), by rw [hg] at hx1; exact hx1.below hb2⟩
  have HR := Lib.hid hr
  have HC := Lib.hid (fun s (hs : s < m) (u : World) (bo : Option Addr) (c : Nat) (h : Mat u bo (K s) (L s) (F s)) => (show Calls Try.prog 13 #[.agg p.cells, .slice bo (K s) c, .int .u64 (x : Int)] u fun e w' => ∃ v, e = .returned v ∧ RowC u.heap.size w' v (Len s) (Z s) ∧ Below u.heap.size u w' from (share_any p bo (K s) c x (L s) (F s) (hK s hs) (hL s hs) (hF s) hx u h).mono fun e w' ⟨B, h1, h2⟩ => ⟨_, h1, by rw [hLen, hZ]; exact h2.rowC, h2.below⟩))
  rw [← hLen, ← hZ]
  clear hr hB hW2 hb1 hx1 hb2 hnew hL hF hx hK hLen hZ
  go_enter Try.func7, Try.ntmps7
  go_wp2_with fail
  clear hmk hW1 hg
  go_loopw [15] (fun s15 wx => ∃ k : Nat, k ≤ m ∧ s15 = .int .i64 (k : Int) ∧ Hid (MineR W B m k g p Len Z wx)) (fun s15 _ => m - (RowKit.intOf s15).toNat)
  case atStart => exact ⟨0, Nat.zero_le _, rfl, HM1⟩
  case round =>
    clear HM1
    obtain ⟨k, hk, rfl, HJ⟩ := hrel
    by_cases hlt : k < m
    · obtain ⟨ad, v0, rfl, hc, bo, c, rfl, hs, _⟩ := HR.out k hlt
      have hcw := (HJ.out.below.cell (World.block_lt_of_cell? W _ hc)).trans hc
      have HA := Lib.hid (HC.out k hlt wr bo c (hs.below HJ.out.below))
      have hk0 : (0 : Int) ≤ (k : Int) := Int.natCast_nonneg _
      have hk1 : (k : Int) < (m : Int) := by omega
      generalize K k = kk at *
      clear hc hs
      go_wp2_with (first | (refine wpList_row_if ?_ 25 _ rfl g rfl 25 p.cells (0, 0) _ HJ.out.box Try.underlying25 rfl (by kernel_rfl) ?_; first | rfl | (simp [Region.wanted, yielded]; done)) | (go_at_call 13; refine HA.out.mono ?_; rintro e w' ⟨v, rfl, hv, hb⟩; obtain ⟨vo, vc, hve, _⟩ := hv.src; generalize Len k = ll at hve; subst hve; have hj2 := HJ.out.step hb; have hcl := hj2.cell hlt; have hfr := hj2.free k; have HN1 := Lib.hid (hj2.put hlt (hv.mono HJ.out.below.size)); clear hj2 hv hb))
      go_roundw
      case rel => exact ⟨k + 1, by omega, by go_num, HN1⟩
      case measure => simp [RowKit.intOf]; omega
    · obtain rfl : k = m := by omega
      go_wp2_with fail
      go_ret
      exact ⟨_, rfl, HJ.out.matC, HJ.out.below⟩

/-- Whether all lists have T + 1 numbers, all of the group. -/
def listB (p : Pm) (n : Nat) (z : Nat → Nat) : Bool := decide ((n : Int) = p.T + 1) && (List.range n).all fun j => isB p (z j)
def filB (p : Pm) (m : Nat) (L : Nat → Nat) (F : Nat → Nat → Nat) : Bool := (List.range m).all fun i => listB p (L i) (F i)
theorem filB_no {p : Pm} {m i : Nat} {L : Nat → Nat} {F : Nat → Nat → Nat} (hi : i < m) (h : listB p (L i) (F i) = false) : filB p m L F = false := by
  cases e : filB p m L F
  · rfl
  · have := List.all_eq_true.1 e i (List.mem_range.2 hi)
    rw [h] at this; cases this
theorem filB_yes {p : Pm} {m : Nat} {L : Nat → Nat} {F : Nat → Nat → Nat} (h : ∀ i, i < m → listB p (L i) (F i) = true) : filB p m L F = true := List.all_eq_true.2 fun i hi => h i (List.mem_range.1 hi)
theorem listB_len {p : Pm} {n : Nat} {z : Nat → Nat} (h : ¬ (n : Int) = p.T + 1) : listB p n z = false := by unfold listB; rw [decide_eq_false h]; rfl
theorem listB_no {p : Pm} {n j : Nat} {z : Nat → Nat} (hj : j < n) (h : isB p (z j) = false) : listB p n z = false := by
  unfold listB
  rw [Bool.and_eq_false_iff]
  right
  cases e : (List.range n).all fun j => isB p (z j)
  · rfl
  · have := List.all_eq_true.1 e j (List.mem_range.2 hj)
    rw [h] at this; cases this
theorem listB_yes {p : Pm} {n : Nat} {z : Nat → Nat} (h0 : (n : Int) = p.T + 1) (h : ∀ j, j < n → isB p (z j) = true) : listB p n z = true := by
  unfold listB
  rw [decide_eq_true h0, Bool.true_and]
  exact List.all_eq_true.2 fun j hj => h j (List.mem_range.1 hj)
set_option maxRecDepth 100000 in
set_option maxHeartbeats 4000000 in
theorem filled_any (p : Pm) (hT : -1000 ≤ p.T ∧ p.T ≤ 1000) (hQ : p.Q < 18446744073709551616) (ao : Option Addr) (m cap : Nat) (L : Nat → Nat) (F : Nat → Nat → Nat) (hm : m ≤ 1000) (hL : ∀ s, s < m → L s ≤ 1000) (hF : ∀ s j, F s j < 18446744073709551616) (W : World) (hr : Mat W ao m L F) :
    Calls Try.prog 19 #[.agg p.cells, .slice ao m cap] W fun e w' => e = .returned (.bool (filB p m L F)) ∧ Below W.heap.size W w' := by
  have hx1 := PBox.new W p
  have hb1 := below_box W (.cells p.cells 25)
  obtain ⟨g, hg⟩ : ∃ g, W.heap.size = g := ⟨_, rfl⟩
  obtain ⟨W1, hW1⟩ : ∃ W1, W.alloc (.cells p.cells 25) = W1 := ⟨_, rfl⟩
  rw [hW1] at hb1 hx1
  rw [hg] at hx1
  have HI : Hid (Below W.heap.size W W1 ∧ PBox W1 g p) := Lib.hid ⟨hb1, hx1⟩
  have HR := Lib.hid hr
  have HIS := Lib.hid (fun s j => is_any p (F s j) (hF s j) hQ)
  obtain ⟨T, hTe⟩ : ∃ T, p.T = T := ⟨_, rfl⟩
  have HTE := Lib.hid hTe
  rw [hTe] at hT
  have HL := Lib.hid hL
  have hwT : IntKind.i64.wrap (T + 1) = T + 1 := IntWalk.i64_in _ (by omega)
  obtain ⟨R, hR⟩ : ∃ R, filB p m L F = R := ⟨_, rfl⟩
  have HRE := Lib.hid hR
  rw [hR]
  clear hr hF hb1 hx1 hTe hL hR
  go_enter Try.func19, Try.ntmps19
  go_wp2_with fail
  clear hW1 hg
  go_loopw [11] (fun s11 wx => ∃ k : Nat, k ≤ m ∧ s11 = .int .i64 (k : Int) ∧ Hid (∀ i, i < k → listB p (L i) (F i) = true) ∧ Hid (Below W.heap.size W wx ∧ PBox wx g p)) (fun s11 _ => m - (RowKit.intOf s11).toNat)
  case atStart => exact ⟨0, Nat.zero_le _, rfl, Lib.hid fun i h => absurd h (by omega), HI⟩
  case round =>
    clear HI
    obtain ⟨k, hk, rfl, HA, HJ⟩ := hrel
    by_cases hlt : k < m
    · obtain ⟨ad, bo, c, rfl, hc, hs⟩ := HR.out k hlt
      have hcw := (HJ.out.1.cell (World.block_lt_of_cell? W _ hc)).trans hc
      have HS := Lib.hid (fun (u : World) (hb : Below W.heap.size W u) => hs.below hb)
      have hk0 : (0 : Int) ≤ (k : Int) := Int.natCast_nonneg _
      have hk1 : (k : Int) < (m : Int) := by omega
      have q6 := HJ.out.2.cell 6
      rw [show p.cells[6]? = some (.int .i64 p.T) from rfl, HTE.out] at q6
      have hlk := HL.out k hlt
      have HNO : Hid (listB p (L k) (F k) = false → R = false) := Lib.hid fun h => by rw [← HRE.out]; exact filB_no hlt h
      have HB1 := Lib.hid (fun h => @listB_len p (L k) (F k) h)
      have HB2 := Lib.hid (fun (j : Nat) (z : Nat → Nat) h h' => @listB_no p (L k) j z h h')
      have HB3 := Lib.hid (fun h h' => @listB_yes p (L k) (F k) h h')
      rw [HTE.out] at HB1 HB3
      have HIK := Lib.hid (fun j => HIS.out k j)
      have HLL := Lib.hid (rfl : L k = L k)
      clear hc hs
      have HFK : Hid (F k = F k) := Lib.hid rfl
      have HNX : Hid (listB p (L k) (F k) = true → ∀ i, i < k + 1 → listB p (L i) (F i) = true) := Lib.hid fun h i hi => by
        by_cases e : i = k
        · subst e; exact h
        · exact HA.out i (by omega)
      generalize hz : F k = z at *
      generalize L k = n at *
      clear hz
      by_cases hl : (n : Int) = T + 1
      · have d1 : ((n : Int) != T + 1) = false := by simpa using hl
        go_wp2_with fail
        clear hcw q6 d1
        go_loopw [23] (fun s23 wx => ∃ j : Nat, j ≤ n ∧ s23 = .int .i64 (j : Int) ∧ Hid (∀ i, i < j → isB p (z i) = true) ∧ Hid (Below W.heap.size W wx ∧ PBox wx g p)) (fun s23 _ => n - (RowKit.intOf s23).toNat)
        case atStart => exact ⟨0, Nat.zero_le _, rfl, Lib.hid fun i h => absurd h (by omega), HJ⟩
        case round =>
          clear HJ
          obtain ⟨j, hj, rfl, HC, HK⟩ := hrel
          by_cases hltj : j < n
          · have hj0 : (0 : Int) ≤ (j : Int) := Int.natCast_nonneg _
            have hj1 : (j : Int) < (n : Int) := by omega
            obtain ⟨ad2, rfl, hcz⟩ := (HS.out _ HK.out.1).1.at_ hltj
            have HI1 := HIK.out j
            have HBJ := Lib.hid (HB2.out j z hltj)
            obtain ⟨b, hb⟩ : ∃ b, isB p (z j) = b := ⟨_, rfl⟩
            rw [hb] at HI1 HBJ
            have HBE := Lib.hid hb
            clear hb
            generalize hzj : z j = x at *
            cases b with
            | true =>
              go_wp2_with (first | (refine wpList_row_if ?_ 25 _ rfl g rfl 25 p.cells (0, 0) _ HK.out.2 Try.underlying25 rfl (by kernel_rfl) ?_; first | rfl | (simp [Region.wanted, yielded]; done)) | (go_at_call 32; (with_reducible refine (HI1.at _).mono ?_); rintro e w' ⟨rfl, hb⟩; have HK2 : Hid (Below W.heap.size W w' ∧ PBox w' g p) := Lib.hid ⟨HK.out.1.trans (hb.mono HK.out.1.size), HK.out.2.below hb⟩; clear hb))
              go_roundw
              case rel => exact ⟨j + 1, by omega, by go_num, Lib.hid (fun i hi => by
                by_cases e : i = j
                · subst e; rw [hzj]; exact HBE.out
                · exact HC.out i (by omega)), HK2⟩
              case measure => simp [RowKit.intOf]; omega
            | false =>
              obtain rfl := HNO.out (HBJ.out rfl)
              go_wp2_with (first | (refine wpList_row_if ?_ 25 _ rfl g rfl 25 p.cells (0, 0) _ HK.out.2 Try.underlying25 rfl (by kernel_rfl) ?_; first | rfl | (simp [Region.wanted, yielded]; done)) | (go_at_call 32; (with_reducible refine (HI1.at _).mono ?_); rintro e w' ⟨rfl, hb⟩; have HK2 : Hid (Below W.heap.size W w' ∧ PBox w' g p) := Lib.hid ⟨HK.out.1.trans (hb.mono HK.out.1.size), HK.out.2.below hb⟩; clear hb))
              go_ret
              exact ⟨rfl, HK2.out.1⟩
          · obtain rfl : j = n := by omega
            have hj1 : ¬ (j : Int) < (j : Int) := by omega
            go_wp2_with fail
            go_roundw
            case rel => exact ⟨k + 1, by omega, by go_num, Lib.hid (HNX.out (HB3.out hl HC.out)), HK⟩
            case measure => simp [RowKit.intOf]; omega
      · have d1 : ((n : Int) != T + 1) = true := by simpa using hl
        obtain rfl := HNO.out (HB1.out hl)
        go_wp2_with fail
        go_ret
        exact ⟨rfl, HJ.out.1⟩
    · obtain rfl : k = m := by omega
      have hk1 : ¬ (k : Int) < (k : Int) := by omega
      obtain rfl : R = true := by rw [← HRE.out]; exact filB_yes HA.out
      go_wp2_with fail
      go_ret
      exact ⟨rfl, HJ.out.1⟩
end M
end Go.Proofs.Ytlnlepadninnaaa
