/- The texts PedVals, PedRows, one behind the other. -/
import Derived.Test.YtlnlepadninnaaaKN9
import Derived.Test.YtlnlepadninnaaaKN11
import Derived.Test.YtlnlepadninnaaaKN14
import Derived.IntWalk
import Derived.Test.YtlnlepadninnaaaKN8
/- The walks of package pedersen's values of commitments, how many secrets there are, and whether lists are filled. -/
namespace Go.Proofs.Ytlnlepadninnaaa
open Go Go.RowKit Go.Lib
namespace M
/-- The value of a row of commitments, wherever it lies. -/
theorem at_gen (p : Pm) (bo : Option Addr) (n c i : Nat) (z : Nat → Nat) (hz : ∀ k, z k < 18446744073709551616) (hi : i < 18446744073709551616) (hn : n ≤ 1000000) (W : World) (h : SrcN W bo n c z) :
    Calls Try.prog 25 #[.agg p.cells, .slice bo n c, .int .u64 (i : Int)] W fun e w' => e = .returned (.int .u64 ((MM.atN p.P p.Q i z n : Nat) : Int)) ∧ Below W.heap.size W w' := by
  cases bo with
  | none =>
    obtain ⟨rfl, rfl⟩ := h.2 rfl
    exact at_nil p i W
  | some a =>
    refine gat_any p a n c i z (fun k _ => hz k) hi (by omega) W fun k hk => ?_
    obtain ⟨a', e, hr⟩ := h.1 (by omega)
    cases e
    exact hr k hk
set_option maxRecDepth 100000 in
set_option maxHeartbeats 4000000 in
theorem share_any (p : Pm) (ao : Option Addr) (m cap i : Nat) (L : Nat → Nat) (F : Nat → Nat → Nat) (hm : m ≤ 1000) (hL : ∀ s, s < m → L s ≤ 1000) (hF : ∀ s j, F s j < 18446744073709551616) (hi : i < 18446744073709551616) (W : World) (hr : Mat W ao m L F) :
    Calls Try.prog 13 #[.agg p.cells, .slice ao m cap, .int .u64 (i : Int)] W fun e w' => ∃ B, e = .returned (.slice (some ⟨B, 0, none⟩) m m) ∧ Mine W B m (fun s => MM.atN p.P p.Q i (F s) (L s)) w' := by
  have hx1 := PBox.new W p
  have hb1 := below_box W (.cells p.cells 25)
  obtain ⟨g, hg⟩ : ∃ g, W.heap.size = g := ⟨_, rfl⟩
  obtain ⟨W1, hW1⟩ : ∃ W1, W.alloc (.cells p.cells 25) = W1 := ⟨_, rfl⟩
  rw [hW1] at hb1 hx1
  have HM0 := Mine.made W1 m
  have hmk := run_made m (by omega) W1
  have hb2 := below_box W1 (.cells (madeCells (Value.int .u64 0).cells (m * 1)) 23)
  obtain ⟨W2, hW2⟩ : ∃ W2, W1.alloc (.cells (madeCells (Value.int .u64 0).cells (m * 1)) 23) = W2 := ⟨_, rfl⟩
  obtain ⟨B, hB⟩ : ∃ B, W1.heap.size = B := ⟨_, rfl⟩
  rw [hW2] at HM0 hmk hb2
  rw [hB] at HM0 hmk
  have HM1 : Hid (Mine W B m (fun _ => 0) W2 ∧ PBox W2 g p) := Lib.hid ⟨⟨HM0.block, Nat.le_trans hb1.size HM0.low, hb1.trans (HM0.below.mono hb1.size)⟩, by rw [hg] at hx1; exact hx1.below hb2⟩
  have HR := Lib.hid hr
  have HAT := Lib.hid (fun s (hs : s < m) (u : World) (bo : Option Addr) (c : Nat) (h : SrcN u bo (L s) c (F s)) => at_gen p bo (L s) c i (F s) (hF s) hi (by have := hL s hs; omega) u h)
  clear hr HM0 hB hW2 hb1 hx1 hb2 hL hF hi
  go_enter Try.func13, Try.ntmps13
  go_wp2_with fail
  clear hmk hW1 hg
  go_loopw [15] (fun s15 wx => ∃ k : Nat, k ≤ m ∧ s15 = .int .i64 (k : Int) ∧ Hid (Mine W B m (fun s => if s < k then MM.atN p.P p.Q i (F s) (L s) else 0) wx ∧ PBox wx g p)) (fun s15 _ => m - (RowKit.intOf s15).toNat)
  case atStart => exact ⟨0, Nat.zero_le _, rfl, Lib.hid ⟨HM1.out.1.congr fun k _ => by simp, HM1.out.2⟩⟩
  case round =>
    clear HM1
    obtain ⟨k, hk, rfl, HJ⟩ := hrel
    by_cases hlt : k < m
    · obtain ⟨ad, bo, c, rfl, hc, hs⟩ := HR.out k hlt
      have hcw := (HJ.out.1.below.cell (World.block_lt_of_cell? W _ hc)).trans hc
      have HA := Lib.hid (HAT.out k hlt wr bo c (hs.below HJ.out.1.below))
      have HN : Hid (∀ w', Below wr.heap.size wr w' → (Mine W B m (fun s => if s < k + 1 then MM.atN p.P p.Q i (F s) (L s) else 0) (w'.setCell ⟨B, k, none⟩ (.int .u64 ((MM.atN p.P p.Q i (F k) (L k) : Nat) : Int))) ∧ PBox (w'.setCell ⟨B, k, none⟩ (.int .u64 ((MM.atN p.P p.Q i (F k) (L k) : Nat) : Int))) g p) ∧ w'.cell? ⟨B, k, none⟩ = some (.int .u64 0) ∧ w'.frozen? ⟨B, k, none⟩ = false) := Lib.hid fun w' hb => by
        have h1 := HJ.out.1.step hb
        have hne : g ≠ B := fun e => by
          obtain ⟨cs, h2, h3, _⟩ := HJ.out.1.block
          have := HJ.out.2
          unfold PBox at this
          rw [e, h2] at this
          injection this with this
          injection this with _ e2 _
          exact absurd e2 (by decide)
        refine ⟨⟨h1.set k _ fun j _ => ?_, (Below.heap_setCell w' ⟨B, k, none⟩ _ g hne).trans (HJ.out.2.below hb)⟩, ?_, h1.free k⟩
        · by_cases e : j = k
          · subst e; rw [if_pos (by omega), if_pos rfl]
          · rw [if_neg e]
            by_cases h : j < k
            · rw [if_pos (by omega), if_pos h]
            · rw [if_neg (by omega), if_neg h]
        · have := h1.cell hlt
          simpa using this
      have hk0 : (0 : Int) ≤ (k : Int) := Int.natCast_nonneg _
      have hk1 : (k : Int) < (m : Int) := by omega
      generalize MM.atN p.P p.Q i (F k) (L k) = x at *
      clear hc hs
      go_wp2_with (first | (refine wpList_row_if ?_ 25 _ rfl g rfl 25 p.cells (0, 0) _ HJ.out.2 Try.underlying25 rfl (by kernel_rfl) ?_; first | rfl | (simp [Region.wanted, yielded]; done)) | (go_at_call 25; refine HA.out.mono ?_; rintro e w' ⟨rfl, hb⟩; obtain ⟨hn1, hcl, hfr⟩ := HN.out w' hb; have HN1 := Lib.hid hn1; clear hn1 hb))
      go_roundw
      case rel => exact ⟨k + 1, by omega, by go_num, HN1⟩
      case measure => simp [RowKit.intOf]; omega
    · obtain rfl : k = m := by omega
      go_wp2_with fail
      go_ret
      exact ⟨_, rfl, HJ.out.1.congr fun j hj => by rw [if_pos hj]⟩
set_option maxHeartbeats 1000000 in
theorem secrets_any (p : Pm) (hK : 0 ≤ p.K ∧ p.K ≤ 1000) (hD : 0 ≤ p.D ∧ p.D ≤ 1000) : RetB 18 #[.agg p.cells] (.int .u64 ((p.K.toNat * (p.D.toNat + 1) : Nat) : Int)) := by
  intro w
  have HB : Hid (In1 w w.heap.size p (w.alloc (.cells p.cells 25))) := Lib.hid (In1.new w p)
  obtain ⟨k, hk⟩ := Int.eq_ofNat_of_zero_le hK.1
  obtain ⟨d, hd⟩ := Int.eq_ofNat_of_zero_le hD.1
  have hkb : k ≤ 1000 := by omega
  have hdb : d ≤ 1000 := by omega
  have hp : p.K.toNat * (p.D.toNat + 1) = k * (d + 1) := by rw [hk, hd]; rfl
  rw [hp]
  have hm : k * (d + 1) ≤ 1000 * 1001 := Nat.mul_le_mul hkb (by omega)
  have hw1 : IntKind.u64.wrap (k : Int) = (k : Int) := wrapN _ (by omega)
  have hw2 : IntKind.u64.wrap (d : Int) = (d : Int) := wrapN _ (by omega)
  have hw3 : IntKind.u64.wrap ((d : Int) + 1) = (d : Int) + 1 := wrapN (d + 1) (by omega)
  have hw4 : IntKind.u64.wrap ((k : Int) * ((d : Int) + 1)) = ((k * (d + 1) : Nat) : Int) := by rw [show (k : Int) * ((d : Int) + 1) = ((k * (d + 1) : Nat) : Int) by rw [Int.natCast_mul]; rfl]; exact wrapN _ (by omega)
  generalize k * (d + 1) = kd at *
  go_enter Try.func18, Try.ntmps18
  go_upto_region 1 with fail
  generalize hg : w.heap.size = g at HB ⊢
  have HE := Lib.hid hg
  clear hg
  generalize w.alloc (.cells p.cells 25) = w1 at *
  have c7 := HB.out.box.cell 7
  have c8 := HB.out.box.cell 8
  rw [show p.cells[7]? = some (.int .i64 p.K) from rfl, hk] at c7
  rw [show p.cells[8]? = some (.int .i64 p.D) from rfl, hd] at c8
  clear hk hd hK hD hp
  go_wp2_with fail
  go_ret
  exact ⟨rfl, HE.out ▸ HB.out.below⟩
end M
end Go.Proofs.Ytlnlepadninnaaa
/- The walks of package pedersen's commitments to rows and to columns. -/
namespace Go.Proofs.Ytlnlepadninnaaa
open Go Go.RowKit Go.Lib
namespace MM
/-- The value at x of what the first lists have at j. -/
def rowT (P Q x : Nat) (L : Nat → Nat) (F : Nat → Nat → Nat) (j : Nat) : Nat → Nat
  | 0 => addU 0 1 P
  | n + 1 => if j < L n then times2U (rowT P Q x L F j n) (powU (F n j) (powU x n Q) P) P else rowT P Q x L F j n
/-- The same, while of the list n only the first k numbers were put. -/
def rowTK (P Q x : Nat) (L : Nat → Nat) (F : Nat → Nat → Nat) (n k j : Nat) : Nat := if j < k then times2U (rowT P Q x L F j n) (powU (F n j) (powU x n Q) P) P else rowT P Q x L F j n
section
variable (P Q x : Nat) (L : Nat → Nat) (F : Nat → Nat → Nat)
theorem rowTK_zero (n j : Nat) : rowTK P Q x L F n 0 j = rowT P Q x L F j n := by unfold rowTK; rw [if_neg (by omega)]
theorem rowTK_end (n j : Nat) : rowTK P Q x L F n (L n) j = rowT P Q x L F j (n + 1) := rfl
theorem rowTK_at (n k : Nat) : rowTK P Q x L F n k k = rowT P Q x L F k n := by unfold rowTK; rw [if_neg (by omega)]
theorem rowTK_step (n k j : Nat) : rowTK P Q x L F n (k + 1) j = if j = k then times2U (rowTK P Q x L F n k k) (powU (F n k) (powU x n Q) P) P else rowTK P Q x L F n k j := by
  rw [rowTK_at]
  unfold rowTK
  by_cases h : j = k
  · subst h; rw [if_pos rfl, if_pos (by omega)]
  · rw [if_neg h]
    by_cases h2 : j < k
    · rw [if_pos (by omega), if_pos h2]
    · rw [if_neg (by omega), if_neg h2]
theorem rowT_lt (j : Nat) : ∀ n, rowT P Q x L F j n < 18446744073709551616
  | 0 => addU_lt _ _ _
  | n + 1 => by
    unfold rowT
    by_cases h : j < L n
    · rw [if_pos h]; exact times2U_lt _ _ _
    · rw [if_neg h]; exact rowT_lt j n
theorem rowTK_lt (n k j : Nat) : rowTK P Q x L F n k j < 18446744073709551616 := by
  unfold rowTK
  by_cases h : j < k
  · rw [if_pos h]; exact times2U_lt _ _ _
  · rw [if_neg h]; exact rowT_lt P Q x L F j n
end
end MM
namespace M
/-- What the walk of rowValues carries along: the row, the parameters. -/
structure RV (W : World) (B N g : Nat) (p : Pm) (z : Nat → Nat) (w : World) : Prop where
  row : Mine W B N z w
  box : PBox w g p
section
variable {W w w' : World} {B N g : Nat} {p : Pm} {z y : Nat → Nat}
theorem RV.step (h : RV W B N g p z w) (hb : Below w.heap.size w w') : RV W B N g p z w' := ⟨h.row.step hb, h.box.below hb⟩
theorem RV.congr (h : RV W B N g p z w) (e : ∀ k, k < N → z k = y k) : RV W B N g p y w := ⟨h.row.congr e, h.box⟩
theorem RV.ne (h : RV W B N g p z w) : g ≠ B := fun e => by
  obtain ⟨cs, h2, h3, _⟩ := h.row.block
  have := h.box
  unfold PBox at this
  rw [e, h2] at this
  injection this with this
  injection this with _ e2 _
  exact absurd e2 (by decide)
theorem RV.set (h : RV W B N g p z w) (k x : Nat) (hy : ∀ j, j < N → y j = if j = k then x else z j) : RV W B N g p y (w.setCell ⟨B, k, none⟩ (.int .u64 (x : Int))) :=
  ⟨h.row.set k x hy, (Below.heap_setCell w ⟨B, k, none⟩ _ g h.ne).trans h.box⟩
end

set_option maxRecDepth 100000 in
set_option maxHeartbeats 8000000 in
theorem rowValues_any (p : Pm) (ao : Option Addr) (m cap x : Nat) (L : Nat → Nat) (F : Nat → Nat → Nat) (hm : m ≤ 1000) (hL : ∀ s, s < m → L s ≤ 1000) (hF : ∀ s j, F s j < 18446744073709551616) (hx : x < 18446744073709551616) (W : World) (hr : Mat W ao m L F) :
    Calls Try.prog 17 #[.agg p.cells, .slice ao m cap, .int .u64 (x : Int)] W fun e w' => ∃ B, e = .returned (.slice (some ⟨B, 0, none⟩) (MM.widU L m) (MM.widU L m)) ∧ Mine W B (MM.widU L m) (fun j => MM.rowT p.P p.Q x L F j m) w' := by
  have hx1 := PBox.new W p
  have hb1 := below_box W (.cells p.cells 25)
  obtain ⟨g, hg⟩ : ∃ g, W.heap.size = g := ⟨_, rfl⟩
  obtain ⟨W1, hW1⟩ : ∃ W1, W.alloc (.cells p.cells 25) = W1 := ⟨_, rfl⟩
  rw [hW1] at hb1 hx1
  have hN9 : MM.widU L m ≤ 1000 := MM.widU_le m hL
  obtain ⟨N, hN⟩ : ∃ N, MM.widU L m = N := ⟨_, rfl⟩
  have HM0 := Mine.made W1 N
  have hmk := run_made N (by omega) W1
  have hb2 := below_box W1 (.cells (madeCells (Value.int .u64 0).cells (N * 1)) 23)
  obtain ⟨W2, hW2⟩ : ∃ W2, W1.alloc (.cells (madeCells (Value.int .u64 0).cells (N * 1)) 23) = W2 := ⟨_, rfl⟩
  obtain ⟨B, hB⟩ : ∃ B, W1.heap.size = B := ⟨_, rfl⟩
  rw [hW2] at HM0 hmk hb2
  rw [hB] at HM0 hmk
  have HM1 : Hid (RV W B N g p (fun _ => 0) W2) := Lib.hid ⟨⟨HM0.block, Nat.le_trans hb1.size HM0.low, hb1.trans (HM0.below.mono hb1.size)⟩, by rw [hg] at hx1; exact hx1.below hb2⟩
  have HR := Lib.hid hr
  have HR1 := Lib.hid (hr.below hb1)
  have HNE := Lib.hid hN
  have HL := Lib.hid hL
  have HF := Lib.hid hF
  have HT0 := times_nil p
  have HT0e : Hid (∀ j, MM.rowT p.P p.Q x L F j 0 = MM.addU 0 1 p.P) := Lib.hid fun _ => rfl
  rw [hN] at hN9 ⊢
  have HPW : Hid (∀ k, k < m → Ret 30 #[.int .u64 (x : Int), .int .u64 (k : Int), .int .u64 (p.Q : Int)] (.int .u64 ((MM.powU x k p.Q : Nat) : Int))) := Lib.hid fun k hk => ret_powU x k p.Q hx (by omega)
  clear hr HM0 hB hW2 hb1 hx1 hb2 hL hF hx hN
  go_enter Try.func17, Try.ntmps17
  go_wp2_with fail
  go_loop [7, 19] (fun s7 s19 => ∃ k : Nat, k ≤ m ∧ s19 = .int .i64 (k : Int) ∧ s7 = .int .i64 ((MM.widU L k : Nat) : Int)) (fun _ s19 => m - (RowKit.intOf s19).toNat)
  case atStart => exact ⟨0, Nat.zero_le _, rfl, rfl⟩
  case round =>
    obtain ⟨k, hk, rfl, rfl⟩ := hrel
    by_cases hlt : k < m
    · obtain ⟨ad, bo, c, rfl, hc, _⟩ := HR1.out k hlt
      have HS : Hid (MM.widU L (k + 1) = max (MM.widU L k) (L k)) := Lib.hid rfl
      have hx := MM.widU_le (n := 1000) k (fun i hi => HL.out i (by omega))
      have hy := HL.out k hlt
      generalize MM.widU L k = x9 at *
      generalize L k = y9 at *
      obtain ⟨z9, hz⟩ : ∃ z9, max x9 y9 = z9 := ⟨_, rfl⟩
      rw [hz] at HS
      have hzI : max (x9 : Int) (y9 : Int) = (z9 : Int) := by omega
      have hk0 : (0 : Int) ≤ (k : Int) := Int.natCast_nonneg _
      have hk1 : (k : Int) < (m : Int) := by omega
      clear hz
      go_wp2_with fail
      go_round
      case rel => exact ⟨k + 1, by omega, by go_num, by rw [HS.out]⟩
      case measure => simp [RowKit.intOf]; omega
    · obtain rfl : k = m := by omega
      rw [HNE.out]
      have hk1 : ¬ (k : Int) < (k : Int) := by omega
      go_wp2_with fail
      clear hmk hk1
      go_loopw [32] (fun s32 wx => ∃ j : Nat, j ≤ N ∧ s32 = .int .i64 (j : Int) ∧ Hid (RV W B N g p (fun i => if i < j then MM.rowT p.P p.Q x L F i 0 else 0) wx)) (fun s32 _ => N - (RowKit.intOf s32).toNat)
      case atStart => exact ⟨0, Nat.zero_le _, rfl, Lib.hid (HM1.out.congr fun i _ => by rw [if_neg (by omega)])⟩
      case round =>
        clear HM1
        obtain ⟨j, hj, rfl, HJ⟩ := hrel
        by_cases hltj : j < N
        · have hj0 : (0 : Int) ≤ (j : Int) := Int.natCast_nonneg _
          have hj1 : (j : Int) < (N : Int) := by omega
          have HN : Hid (∀ w', Below wr.heap.size wr w' → RV W B N g p (fun i => if i < j + 1 then MM.rowT p.P p.Q x L F i 0 else 0) (w'.setCell ⟨B, j, none⟩ (.int .u64 ((MM.addU 0 1 p.P : Nat) : Int))) ∧ w'.cell? ⟨B, j, none⟩ = some (.int .u64 0) ∧ w'.frozen? ⟨B, j, none⟩ = false) := Lib.hid fun w' hb => by
            have h1 := HJ.out.step hb
            refine ⟨h1.set j _ fun i _ => ?_, ?_, h1.row.free j⟩
            · by_cases e : i = j
              · subst e; rw [if_pos (by omega), if_pos rfl]; exact HT0e.out i
              · rw [if_neg e]
                by_cases h : i < j
                · rw [if_pos (by omega), if_pos h]
                · rw [if_neg (by omega), if_neg h]
            · have := h1.row.cell hltj
              simpa using this
          generalize MM.addU 0 1 p.P = y9 at *
          go_wp2_with (first | (refine wpList_row_if ?_ 25 _ rfl g rfl 25 p.cells (0, 0) _ HJ.out.box Try.underlying25 rfl (by kernel_rfl) ?_; first | rfl | (simp [Region.wanted, yielded]; done)) | (go_at_call 29; (with_reducible refine (HT0.at _).mono ?_); rintro e w' ⟨rfl, hb⟩; obtain ⟨hn1, hcl, hfr⟩ := HN.out w' hb; have HN1 := Lib.hid hn1; clear hn1 hb))
          go_roundw
          case rel => exact ⟨j + 1, by omega, by go_num, HN1⟩
          case measure => simp [RowKit.intOf]; omega
        · obtain rfl : j = N := by omega
          have hk1 : ¬ (j : Int) < (j : Int) := by omega
          go_wp2_with fail
          clear hk1
          have HJ0 : Hid (RV W B j g p (fun i => MM.rowT p.P p.Q x L F i 0) wr) := Lib.hid (HJ.out.congr fun i hi => by rw [if_pos hi])
          clear HJ
          go_loopw [43] (fun s43 wx => ∃ n : Nat, n ≤ k ∧ s43 = .int .i64 (n : Int) ∧ Hid (RV W B j g p (fun i => MM.rowT p.P p.Q x L F i n) wx)) (fun s43 _ => k - (RowKit.intOf s43).toNat)
          case atStart => exact ⟨0, Nat.zero_le _, rfl, HJ0⟩
          case round =>
            clear HJ0
            obtain ⟨n, hn, rfl, HJ⟩ := hrel
            by_cases hltn : n < k
            · obtain ⟨ad, bo, c, rfl, hc, hs⟩ := HR.out n hltn
              have hcw := (HJ.out.row.below.cell (World.block_lt_of_cell? W _ hc)).trans hc
              have hn0 : (0 : Int) ≤ (n : Int) := Int.natCast_nonneg _
              have hn1 : (n : Int) < (k : Int) := by omega
              have hwk : IntKind.u64.wrap (n : Int) = (n : Int) := wrapN _ (by omega)
              have q1 := HJ.out.box.cell 1
              have HP := HPW.out n hltn
              have HSR := Lib.hid hs
              have hln := HL.out n hltn
              have hlw : L n ≤ j := by rw [← HNE.out]; exact MM.le_widU hltn
              have HE := Lib.hid (fun i => MM.rowTK_end p.P p.Q x L F n i)
              have HZ := Lib.hid (fun i => MM.rowTK_zero p.P p.Q x L F n i)
              have HSP := Lib.hid (fun k i => MM.rowTK_step p.P p.Q x L F n k i)
              have hpwl : MM.powU x n p.Q < 18446744073709551616 := MM.powU_lt _ _ _
              generalize MM.powU x n p.Q = pw at *
              have HLN := Lib.hid (rfl : L n = L n)
              obtain ⟨ln, hlnE⟩ : ∃ ln, L n = ln := ⟨_, rfl⟩
              rw [hlnE] at hcw HSR hln hlw HE
              clear hc hs hlnE
              go_upto_region 17 with (go_at_call 30; (with_reducible refine (HP.at _).mono ?_); rintro e w' ⟨rfl, nd, rfl⟩)
              have HJ1 : Hid (RV W B j g p (fun i => MM.rowTK p.P p.Q x L F n 0 i) (wr.drewN nd)) := Lib.hid ((HJ.out.step (below_drewN' wr nd _)).congr fun i _ => (HZ.out i).symm)
              clear HJ HP q1 hcw hwk
              generalize wr.drewN nd = w3 at *
              go_wp2_with fail
              go_loopw [56] (fun s56 wx => ∃ i : Nat, i ≤ ln ∧ s56 = .int .i64 (i : Int) ∧ Hid (RV W B j g p (fun a => MM.rowTK p.P p.Q x L F n i a) wx)) (fun s56 _ => ln - (RowKit.intOf s56).toNat)
              case atStart => exact ⟨0, Nat.zero_le _, rfl, HJ1⟩
              case round =>
                clear HJ1
                obtain ⟨i, hi, rfl, HK⟩ := hrel
                by_cases hlti : i < ln
                · have hi0 : (0 : Int) ≤ (i : Int) := Int.natCast_nonneg _
                  have hi1 : (i : Int) < (ln : Int) := by omega
                  have hi2 : (i : Int) < (j : Int) := by omega
                  obtain ⟨ad2, rfl, hcz⟩ := (HSR.out.below HK.out.row.below).1.at_ hlti
                  have hij : i < j := by omega
                  go_upto_region 20 with fail
                  have hcur := HK.out.row.cell hij
                  have hcl0 := MM.rowTK_lt p.P p.Q x L F n i i
                  have HSTEP : Hid (∀ w', Below wr.heap.size wr w' → RV W B j g p (fun a => MM.rowTK p.P p.Q x L F n (i + 1) a) (w'.setCell ⟨B, i, none⟩ (.int .u64 ((MM.times2U (MM.rowTK p.P p.Q x L F n i i) (MM.powU (F n i) pw p.P) p.P : Nat) : Int)))) := Lib.hid fun w' hb => (HK.out.step hb).set i _ fun a _ => HSP.out i a
                  have hKX := HK.out
                  have hpwr := power_any p (F n i) pw (HF.out n i) hpwl
                  have htt := times_two p (MM.rowTK p.P p.Q x L F n i i) (MM.powU (F n i) pw p.P) _ hcl0 (MM.powU_lt _ _ _) rfl
                  clear hcz HK hcl0 HSP
                  generalize F n i = fz at *
                  generalize MM.rowTK p.P p.Q x L F n i i = cu at *
                  generalize MM.times2U cu (MM.powU fz pw p.P) p.P = tv at *
                  generalize MM.powU fz pw p.P = pv at *
                  refine RK.region (fun W' => PBox W' g p ∧ W'.cell? ⟨B, i, none⟩ = some (.int .u64 ((cu : Nat) : Int))) 14 (by kernel_rfl) ?_
                  have HS0 : PBox wr.drew g p ∧ wr.drew.cell? ⟨B, i, none⟩ = some (.int .u64 ((cu : Nat) : Int)) := ⟨hKX.box, hcur⟩
                  refine RK.Any.take 0 61 (.slice (some ⟨B, 0, none⟩) j j) rfl rfl (by kernel_rfl) (by kernel_rfl) (by kernel_rfl) (by kernel_rfl) (fun _ _ _ h => h) (by rfl) (fun W' hb => ?_) HS0 ?_
                  · skip; go_simp
                  simp only [List.setIfInBounds_toArray, List.set_cons_zero, List.set_cons_succ]
                  refine RK.Any.take 1 62 (.int .i64 (i : Int)) rfl rfl (by kernel_rfl) (by kernel_rfl) (by kernel_rfl) (by kernel_rfl) (fun _ _ _ h => h) (by rfl) (fun W' hb => ?_) HS0 ?_
                  · skip; go_simp
                  simp only [List.setIfInBounds_toArray, List.set_cons_zero, List.set_cons_succ]
                  refine RK.Any.take 2 63 (.agg p.cells) rfl rfl (by kernel_rfl) (by kernel_rfl) (by kernel_rfl) (by kernel_rfl) (fun _ _ _ h => h) (by rfl) (fun W' hb => load_pbox hb.1 rfl rfl) HS0 ?_
                  simp only [List.setIfInBounds_toArray, List.set_cons_zero, List.set_cons_succ]
                  refine RK.Any.take 3 64 (.slice (some ⟨B, 0, none⟩) j j) rfl rfl (by kernel_rfl) (by kernel_rfl) (by kernel_rfl) (by kernel_rfl) (fun _ _ _ h => h) (by rfl) (fun W' hb => ?_) HS0 ?_
                  · skip; go_simp
                  simp only [List.setIfInBounds_toArray, List.set_cons_zero, List.set_cons_succ]
                  refine RK.Any.take 4 65 (.int .i64 (i : Int)) rfl rfl (by kernel_rfl) (by kernel_rfl) (by kernel_rfl) (by kernel_rfl) (fun _ _ _ h => h) (by rfl) (fun W' hb => ?_) HS0 ?_
                  · skip; go_simp
                  simp only [List.setIfInBounds_toArray, List.set_cons_zero, List.set_cons_succ]
                  refine RK.Any.take 5 66 (.pointer (some ⟨B, i, none⟩)) rfl rfl (by kernel_rfl) (by kernel_rfl) (by kernel_rfl) (by kernel_rfl) (fun _ _ _ h => h) (by rfl) (fun W' hb => ?_) HS0 ?_
                  · skip; go_simp
                  simp only [List.setIfInBounds_toArray, List.set_cons_zero, List.set_cons_succ]
                  refine RK.Any.take 6 67 (.int .u64 (cu : Int)) rfl rfl (by kernel_rfl) (by kernel_rfl) (by kernel_rfl) (by kernel_rfl) (fun _ _ _ h => h) (by rfl) (fun W' hb => ?_) HS0 ?_
                  · have c := hb.2; go_simp
                  simp only [List.setIfInBounds_toArray, List.set_cons_zero, List.set_cons_succ]
                  refine RK.Any.take 7 68 (.agg p.cells) rfl rfl (by kernel_rfl) (by kernel_rfl) (by kernel_rfl) (by kernel_rfl) (fun _ _ _ h => h) (by rfl) (fun W' hb => load_pbox hb.1 rfl rfl) HS0 ?_
                  simp only [List.setIfInBounds_toArray, List.set_cons_zero, List.set_cons_succ]
                  refine RK.Any.take 8 69 (.int .u64 (fz : Int)) rfl rfl (by kernel_rfl) (by kernel_rfl) (by kernel_rfl) (by kernel_rfl) (fun _ _ _ h => h) (by rfl) (fun W' hb => ?_) HS0 ?_
                  · skip; go_simp
                  simp only [List.setIfInBounds_toArray, List.set_cons_zero, List.set_cons_succ]
                  refine RK.Any.take 9 70 (.int .u64 (pw : Int)) rfl rfl (by kernel_rfl) (by kernel_rfl) (by kernel_rfl) (by kernel_rfl) (fun _ _ _ h => h) (by rfl) (fun W' hb => ?_) HS0 ?_
                  · skip; go_simp
                  simp only [List.setIfInBounds_toArray, List.set_cons_zero, List.set_cons_succ]
                  have hbA : Below wr.heap.size wr wr.drew := below_drewN' wr 1 _
                  have hstp : ∀ {X Y : World}, Below X.heap.size X Y → (PBox X g p ∧ X.cell? ⟨B, i, none⟩ = some (.int .u64 ((cu : Nat) : Int))) → PBox Y g p ∧ Y.cell? ⟨B, i, none⟩ = some (.int .u64 ((cu : Nat) : Int)) := fun hb h => ⟨h.1.below hb, (CellsAs.of_below hb).cell h.2⟩
                  have hBB := hKX.row
                  generalize wr.drew = Y0 at *
                  refine RK.Any.call 10 71 31 #[.agg p.cells, .int .u64 (fz : Int), .int .u64 (pw : Int)] (by kernel_rfl) rfl rfl (by rfl) (by go_simp) (Calls.mono (hpwr.at Y0) ?_)
                  rintro E Y1 ⟨rfl, hb1⟩
                  have HS1 := hstp hb1 HS0
                  refine ⟨_, rfl, fun _ => HS1, ?_⟩
                  simp only [List.setIfInBounds_toArray, List.set_cons_zero, List.set_cons_succ]
                  have hb2 := below_box Y1 (.cells #[.int .u64 (cu : Int), .int .u64 (pv : Int)] 23)
                  have hnew := heap_alloc_new Y1 (.cells #[.int .u64 (cu : Int), .int .u64 (pv : Int)] 23)
                  obtain ⟨Y2, hY2⟩ : ∃ Y2, Y1.alloc (.cells #[.int .u64 (cu : Int), .int .u64 (pv : Int)] 23) = Y2 := ⟨_, rfl⟩
                  rw [hY2] at hb2 hnew
                  have HS2 := hstp hb2 HS1
                  refine RK.Any.exec 11 72 (.slice (some ⟨Y1.heap.size, 0, none⟩) 2 2) (w1 := Y2) (by kernel_rfl) rfl rfl (by rfl) (by go_simp) HS2 ?_
                  simp only [List.setIfInBounds_toArray, List.set_cons_zero, List.set_cons_succ]
                  refine RK.Any.call 12 73 29 #[.agg p.cells, .slice (some ⟨Y1.heap.size, 0, none⟩) 2 2] (by kernel_rfl) rfl rfl (by rfl) (by go_simp) (Calls.mono (htt Y2 Y1.heap.size hnew) ?_)
                  rintro E Y3 ⟨rfl, hb3⟩
                  have HS3 := hstp hb3 HS2
                  refine ⟨_, rfl, fun _ => HS3, ?_⟩
                  simp only [List.setIfInBounds_toArray, List.set_cons_zero, List.set_cons_succ]
                  have hbT : Below wr.heap.size wr Y3 := ((hbA.trans (hb1.mono hbA.size)).trans (hb2.mono (Nat.le_trans hbA.size hb1.size))).trans (hb3.mono (Nat.le_trans (Nat.le_trans hbA.size hb1.size) hb2.size))
                  refine RK.Any.take 13 74 (.pointer (some ⟨B, i, none⟩)) rfl rfl (by kernel_rfl) (by kernel_rfl) (by kernel_rfl) (by kernel_rfl) (fun _ _ _ h => h) (by rfl) (fun W' hb => ?_) HS3 ?_
                  · skip; go_simp
                  simp only [List.setIfInBounds_toArray, List.set_cons_zero, List.set_cons_succ]
                  have hcl3 := HS3.2
                  have hfr3 := (hKX.row.step hbT).free i
                  refine RK.Any.store 14 (w1 := Y3.setCell ⟨B, i, none⟩ (.int .u64 (tv : Int))) (by kernel_rfl) rfl rfl (by rfl) (by go_simp) (fun e => absurd rfl e) ?_
                  refine RK.Any.done (by kernel_rfl) ?_
                  have HNW := Lib.hid (HSTEP.out Y3 hbT)
                  clear hKX HS0 HS1 HS2 HS3 hcl3 hfr3 hbT hb1 hb2 hb3 hbA hnew hY2 hpwr htt hstp hBB HSTEP hcur
                  go_wp2_with fail
                  go_roundw
                  case rel => exact ⟨i + 1, by omega, by go_num, HNW⟩
                  case measure => simp [RowKit.intOf]; omega
                · obtain rfl : i = ln := by omega
                  have hk1 : ¬ (i : Int) < (i : Int) := by omega
                  have HNX : Hid (RV W B j g p (fun a => MM.rowT p.P p.Q x L F a (n + 1)) wr) := Lib.hid (HK.out.congr fun a _ => HE.out a)
                  clear HK
                  go_wp2_with fail
                  go_roundw
                  case rel => exact ⟨n + 1, by omega, by go_num, HNX⟩
                  case measure => simp [RowKit.intOf]; omega
            · obtain rfl : n = k := by omega
              have hk1 : ¬ (n : Int) < (n : Int) := by omega
              go_wp2_with fail
              go_ret
              exact ⟨_, rfl, HJ.out.row⟩
end M
end Go.Proofs.Ytlnlepadninnaaa
