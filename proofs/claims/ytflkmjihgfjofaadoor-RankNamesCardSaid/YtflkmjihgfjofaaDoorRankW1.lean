/- The walks of rank.widest, rank.newBasis and wide. -/
import Derived.Test.YtflkmjihgfjofaaDoorRankBas
import Derived.Laws.CopyOwn
import Derived.IntWalk
import Derived.Deep.CutBlock
namespace Go.Proofs.YtflkmjihgfjofaaDoor
open Go Go.RowKit Go.Lib
namespace MM
theorem wid_take {rows : List (List Nat)} {k : Nat} (h : k < rows.length) : widU (rows.take (k + 1)) = max (widU (rows.take k)) (rows.getD k []).length := by
  rw [List.take_succ_eq_append_getElem h, widU_snoc, List.getD_eq_getElem?_getD, List.getElem?_eq_getElem h]; rfl
theorem wid_take_le {rows : List (List Nat)} {n : Nat} (h : ∀ r ∈ rows, r.length ≤ n) (k : Nat) : widU (rows.take k) ≤ n := widU_le fun r hr => h r (List.mem_of_mem_take hr)
theorem len_getD {rows : List (List Nat)} {n : Nat} (h : ∀ r ∈ rows, r.length ≤ n) (k : Nat) : (rows.getD k []).length ≤ n := by
  rw [List.getD_eq_getElem?_getD]
  rcases Nat.lt_or_ge k rows.length with hk | hk
  · rw [List.getElem?_eq_getElem hk]; exact h _ (List.getElem_mem hk)
  · rw [List.getElem?_eq_none hk]; exact Nat.zero_le _
end MM
namespace M
set_option maxHeartbeats 2000000 in
theorem widest_any (ao : Option Addr) (cap n : Nat) (rows : List (List Nat)) (hn : rows.length = n) (hn1 : n ≤ 1000000) (hl : ∀ r ∈ rows, r.length ≤ 1000000) (W : World) (hr : NRows W ao rows) :
    Calls Tryd.prog 30 #[.slice ao n cap] W fun e w' => e = .returned (.int .i64 ((MM.widU rows : Nat) : Int)) ∧ W = w' := by
  have HR := Lib.hid hr
  have HL := Lib.hid hl
  have HN := Lib.hid hn
  clear hr hl hn
  go_enter Tryd.func30, Tryd.ntmps30
  go_wp2_with fail
  go_loop [3, 8] (fun s3 s8 => ∃ k : Nat, k ≤ n ∧ s8 = .int .i64 (k : Int) ∧ s3 = .int .i64 ((MM.widU (rows.take k) : Nat) : Int)) (fun _ s8 => n - (RowKit.intOf s8).toNat)
  case atStart => exact ⟨0, Nat.zero_le _, rfl, rfl⟩
  case round =>
    obtain ⟨k, hk, rfl, rfl⟩ := hrel
    by_cases hlt : k < n
    · obtain ⟨ad, bo, c, rfl, hc, _⟩ := HR.out k (by have := HN.out; omega)
      have HS := Lib.hid (MM.wid_take (rows := rows) (k := k) (by have := HN.out; omega))
      have hx := MM.wid_take_le HL.out k
      have hy := MM.len_getD HL.out k
      generalize MM.widU (rows.take k) = x at *
      generalize (rows.getD k []).length = y at *
      obtain ⟨z, hz⟩ : ∃ z, max x y = z := ⟨_, rfl⟩
      rw [hz] at HS
      have hzI : max (x : Int) (y : Int) = (z : Int) := by omega
      clear hz
      go_wp2_with fail
      go_round
      case rel => exact ⟨k + 1, by omega, by go_num, by rw [HS.out]⟩
      case measure => simp [RowKit.intOf]; omega
    · obtain rfl : k = n := by omega
      have HT : Hid (MM.widU (rows.take k) = MM.widU rows) := Lib.hid (by rw [List.take_of_length_le (by have := HN.out; omega)])
      go_wp2_with fail
      go_ret
      exact ⟨by rw [HT.out]; rfl, rfl⟩
set_option maxHeartbeats 2000000 in
theorem newBasis_any (wd q : Nat) (W : World) :
    Calls Tryd.prog 29 #[.int .i64 (wd : Int), .int .u64 (q : Int)] W fun e w' => ∃ m, e = .returned (.agg (bCells m wd q)) ∧ Below W.heap.size W w' ∧ W.heap.size ≤ m ∧ Bas w' m w'.heap.size 0 wd (fun _ => none) := by
  have hmm := @run_makeMap Tryd.prog
  go_enter Tryd.func29, Tryd.ntmps29
  go_wp2_with fail
  clear hmm
  obtain ⟨W1, hW1⟩ : ∃ W1, W.alloc (Obj.cells (bCells (W.heap.size + 1) wd q) 47) = W1 := ⟨_, rfl⟩
  have hb1 : Below W.heap.size W W1 := hW1 ▸ below_box _ _
  have hs1 : W1.heap.size = W.heap.size + 1 := by rw [← hW1, World.size_alloc]
  have hb2 := below_box W1 (.map #[] 0)
  refine bodyPost_ret (v := .agg (bCells (W.heap.size + 1) wd q)) (by simp [results, Tryd.results29, go_sem]) rfl ⟨_, rfl, ?_, ?_, ?_⟩
  · rw [hW1]; exact hb1.trans (hb2.mono hb1.size)
  · omega
  · rw [hW1]; exact Bas.empty (by have h := heap_alloc_new W1 (.map #[] 0); rwa [hs1] at h) wd
theorem Mine.low' {w0 w1 w : World} {B n : Nat} {z : Nat → Nat} (h : Mine w1 B n z w) (hb : Below w0.heap.size w0 w1) : Mine w0 B n z w := ⟨h.block, Nat.le_trans hb.size h.low, hb.trans (h.below.mono hb.size)⟩
theorem zeros_cells (n : Nat) : (madeCells (Value.int .u64 0).cells (n * 1)) = (List.replicate n (Value.int .u64 0)).toArray := by
  apply Array.ext_getElem?
  intro i
  by_cases h : i < n
  · simp [madeCells, h, Value.cells, Nat.mod_one]
  · simp [madeCells, h]
theorem ret_add0 (a m : Nat) : Ret 26 #[.int .u64 (a : Int), .int .u64 0, .int .u64 (m : Int)] (.int .u64 ((MM.addU a 0 m : Nat) : Int)) := ret_addU a 0 m
/-- The struct of the independent rows stands in its box. -/
def Boxed (w : World) (g m wd q : Nat) : Prop := w.heap[g]? = some (.cells (bCells m wd q) 47 (0, 0))
section
variable {w w' : World} {g m wd q : Nat}
theorem Boxed.of (h : Boxed w g m wd q) (e : w'.heap[g]? = w.heap[g]?) : Boxed w' g m wd q := e.trans h
theorem Boxed.drewN (h : Boxed w g m wd q) (n : Nat) : Boxed (w.drewN n) g m wd q := h
theorem Boxed.setCell (h : Boxed w g m wd q) {B : Nat} (hne : g ≠ B) (i : Nat) (v : Value) : Boxed (w.setCell ⟨B, i, none⟩ v) g m wd q := h.of (Below.heap_setCell w ⟨B, i, none⟩ v g hne)
theorem Boxed.rows (h : Boxed w g m wd q) : w.cell? ⟨g, 0, none⟩ = some (.map (some m)) := by rw [cell_of_row w g 0 _ _ _ h]; rfl
theorem Boxed.width (h : Boxed w g m wd q) : w.cell? ⟨g, 1, none⟩ = some (.int .i64 (wd : Int)) := by rw [cell_of_row w g 1 _ _ _ h]; rfl
theorem Boxed.num (h : Boxed w g m wd q) : w.cell? ⟨g, 2, none⟩ = some (.int .u64 (q : Int)) := by rw [cell_of_row w g 2 _ _ _ h]; rfl
end
theorem splice_get {wd n : Nat} {z : Nat → Nat} (hn : n ≤ wd) (hz0 : ∀ k, n ≤ k → z k = 0) : (splice (List.replicate wd (Value.int .u64 0)) 0 (zlist n z)).toArray.size = wd ∧ ∀ k, k < wd → (splice (List.replicate wd (Value.int .u64 0)) 0 (zlist n z)).toArray[k]? = some (.int .u64 ((z k : Nat) : Int)) := by
  have hl : (zlist n z).length = n := by rw [zlist_len]; omega
  refine ⟨by simp [splice, hl]; omega, fun k hk => ?_⟩
  simp only [splice, List.take_zero, List.nil_append, Nat.zero_add, hl, List.getElem?_toArray]
  by_cases h : k < n
  · rw [List.getElem?_append_left (by omega), zlist_get h]
  · rw [List.getElem?_append_right (by omega), hl, List.drop_replicate, List.getElem?_replicate, if_pos (by omega), hz0 k (by omega)]; rfl
set_option maxHeartbeats 4000000 in
theorem wide_any (m wd q n cap : Nat) (ao : Option Addr) (z : Nat → Nat) (hz : ∀ k, z k < 18446744073709551616) (hz0 : ∀ k, n ≤ k → z k = 0) (hn : n ≤ wd) (hwd : wd ≤ 1000000000) (W : World) (hr : Rd W ao n z) :
    Calls Tryd.prog 32 #[.agg (bCells m wd q), .slice ao n cap] W fun e w' => ∃ B, e = .returned (.slice (some ⟨B, 0, none⟩) wd wd) ∧ Mine W B wd (MM.wideU q z) w' := by
  have HR := Lib.hid hr
  have HZ := Lib.hid hz
  have HZ0 := Lib.hid hz0
  have hmk0 : ∃ W2, (Instr.makeSlice 25 (.int .i64 (wd : Int)) (.int .i64 (wd : Int))).run Tryd.prog (W.alloc (Obj.cells (bCells m wd q) 47)) = .ok (.slice (some ⟨W.heap.size + 1, 0, none⟩) wd wd) W2 ∧
      W2.heap[W.heap.size]? = some (.cells (bCells m wd q) 47 (0, 0)) ∧ Mine W (W.heap.size + 1) wd (fun _ => 0) W2 ∧ W2.heap.size = W.heap.size + 2 ∧ W2.heap[W.heap.size + 1]? = some (.cells (List.replicate wd (Value.int .u64 0)).toArray 24 (0, 0)) := by
    obtain ⟨W1, hW1⟩ : ∃ W1, W.alloc (Obj.cells (bCells m wd q) 47) = W1 := ⟨_, rfl⟩
    have hb1 : Below W.heap.size W W1 := hW1 ▸ below_box _ _
    have hs1 : W1.heap.size = W.heap.size + 1 := by rw [← hW1, World.size_alloc]
    have hx1 : W1.heap[W.heap.size]? = some (.cells (bCells m wd q) 47 (0, 0)) := by rw [← hW1]; exact heap_alloc_new _ _
    have h1 := run_made wd hwd W1
    have h2 := Mine.made W1 wd
    have h3 := below_box W1 (.cells (madeCells (Value.int .u64 0).cells (wd * 1)) 24)
    have h4 := heap_alloc_new W1 (.cells (madeCells (Value.int .u64 0).cells (wd * 1)) 24)
    rw [hs1] at h1 h2 h4
    rw [hW1]
    refine ⟨_, h1, (h3.block _ (by omega)).trans hx1, h2.low' hb1, by rw [World.size_alloc, hs1], ?_⟩
    rw [h4, zeros_cells]
  obtain ⟨W2, hmk1, hx2, hM2, hs2, hc2⟩ := hmk0
  have hfb : W2.cell? ⟨W.heap.size, 2, none⟩ = some (.int .u64 (q : Int)) := by rw [cell_of_row W2 W.heap.size 2 _ _ _ hx2]; rfl
  have HX2 := Lib.hid hx2
  have HM2 := Lib.hid hM2
  have HS2 := Lib.hid hs2
  have HC2 := Lib.hid hc2
  have HFB := Lib.hid hfb
  clear hr hz hz0 hx2 hM2 hs2 hc2 hfb
  go_enter Tryd.func32, Tryd.ntmps32
  go_upto_region 2 with fail
  clear hmk1
  have hlen : (zlist n z).length = n := by rw [zlist_len]; omega
  have hmin : (zlist n z).length = Nat.min n wd := by rw [hlen]; exact (Nat.min_eq_left hn).symm
  have hsrc : 0 < (zlist n z).length → (some (⟨W.heap.size + 1, 0, none⟩ : Addr)) = some ⟨W.heap.size + 1, 0, none⟩ ∧ ∃ ad, ao = some ad ∧ ∀ j v, (zlist n z)[j]? = some v → W2.cell? (ad.add j) = some v := fun h => by
    obtain ⟨ad, e, hrow⟩ := HR.out.below HM2.out.below (by omega)
    exact ⟨rfl, ad, e, zlist_cells hrow⟩
  have hfit : 0 + (zlist n z).length ≤ (List.replicate wd (Value.int .u64 0)).length := by rw [hlen, List.length_replicate]; omega
  have hcg : ((zlist n z).length : Int) = (n : Int) := by rw [hlen]
  have HLEN := Lib.hid hlen
  have HMIN := Lib.hid hmin
  have HSRC := Lib.hid hsrc
  have HFIT := Lib.hid hfit
  clear hlen hmin hsrc hfit hcg
  go_wp2_with (refine wpList_copy_splice (o := ⟨some 13, _, _, _, _, _⟩) rfl (.tmp 11) (.tmp 12) 25 25 rfl 24 Tryd.underlying25 (by kernel_rfl) (some ⟨W.heap.size + 1, 0, none⟩) ao wd wd n cap rfl rfl (W.heap.size + 1) 0 (List.replicate wd (Value.int .u64 0)) 24 HC2.out (zlist n z) HMIN.out HSRC.out HFIT.out (zlist_one n z) (W.heap.size + 1) W2 (Below.refl _ _) (Nat.le_refl _) ?_; intro w1 hcells hbel)
  have HM1 : Hid (Mine W (W.heap.size + 1) wd (fun k => if k < 0 then MM.addU (z k) 0 q else z k) w1) := by
    obtain ⟨h1, h2⟩ := splice_get hn HZ0.out (wd := wd)
    exact ⟨⟨_, hcells, h1, fun k hk => by rw [h2 k hk, if_neg (by omega)]⟩, HM2.out.low, HM2.out.below.trans (hbel.mono (by omega))⟩
  have HX1 : Hid (Boxed w1 W.heap.size m wd q) := Lib.hid ((hbel.block W.heap.size (by omega)).trans HX2.out)
  clear HX2 HM2 HS2 HC2 HFB HLEN HMIN HSRC HFIT hcells hbel HR
  go_loopw [16] (fun s16 wx => ∃ k : Nat, k ≤ wd ∧ s16 = .int .i64 (k : Int) ∧ Hid (Mine W (W.heap.size + 1) wd (fun j => if j < k then MM.addU (z j) 0 q else z j) wx) ∧ Hid (Boxed wx W.heap.size m wd q)) (fun s16 _ => wd - (RowKit.intOf s16).toNat)
  case atStart => exact ⟨0, Nat.zero_le _, rfl, HM1, HX1⟩
  case round =>
    clear HM1 HX1
    obtain ⟨k, hk, rfl, HI, HX⟩ := hrel
    by_cases hlt : k < wd
    · have hq0 := HX.out.num
      have hc0 := HI.out.cell hlt
      rw [if_neg (by omega)] at hc0
      have hf0 := HI.out.free k
      have HA := ret_add0 (z k) q
      have HN : Hid (∀ n, Mine W (W.heap.size + 1) wd (fun j => if j < k + 1 then MM.addU (z j) 0 q else z j) ((wr.drewN n).setCell ⟨W.heap.size + 1, k, none⟩ (.int .u64 ((MM.addU (z k) 0 q : Nat) : Int)))) := Lib.hid fun n => (HI.out.drewN n).set k _ fun j hj => by
        by_cases e : j = k
        · subst e; simp
        · rw [if_neg e]
          by_cases h : j < k
          · rw [if_pos h, if_pos (by omega)]
          · rw [if_neg h, if_neg (by omega)]
      have HXN : Hid (∀ n, Boxed ((wr.drewN n).setCell ⟨W.heap.size + 1, k, none⟩ (.int .u64 ((MM.addU (z k) 0 q : Nat) : Int))) W.heap.size m wd q) := Lib.hid fun n => (HX.out.drewN n).setCell (by omega) _ _
      generalize MM.addU (z k) 0 q = x at *
      generalize hzk : z k = y at *
      clear hzk HI HX
      go_wp2_with (go_at_call 26; (with_reducible refine (HA.at _).mono ?_); rintro e w' ⟨rfl, n, rfl⟩)
      go_roundw
      case rel => exact ⟨k + 1, by omega, by go_num, Lib.hid (HN.out n), Lib.hid (HXN.out n)⟩
      case measure => simp [RowKit.intOf]; omega
    · obtain rfl : k = wd := by omega
      go_wp2_with fail
      go_ret
      exact ⟨_, rfl, HI.out.congr fun j hj => by rw [if_pos hj]; rfl⟩
end M
end Go.Proofs.YtflkmjihgfjofaaDoor
