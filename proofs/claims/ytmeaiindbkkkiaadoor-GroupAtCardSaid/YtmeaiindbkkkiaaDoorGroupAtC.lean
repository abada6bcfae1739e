/- The walk of GroupAt over variables: given what each call answers, it returns true. -/
import Derived.Test.YtmeaiindbkkkiaaDoorGrpLaw
import Derived.Deep.Cut
import Derived.Deep.DeepCutAuto
import Derived.Deep.RegionHeld3
import Derived.Deep.AppendLies
import Derived.Test.YtmeaiindbkkkiaaDoorQuietTail
import Derived.OwnWalk
namespace Go.Proofs.YtmeaiindbkkkiaaDoor
open Go Go.RowKit Go.Lib
namespace GroupAt
open M
attribute [local go_sem] setCell_drewN alloc_drewN
theorem info_u64 : (Tryd.prog.info? 23).map (fun i => (i.zero, i.size, i.bytes)) = some (some (.int .u64 0), 1, 8) := by kernel_rfl
/-- A row's first numbers, as values. -/
def zlist (n : Nat) (z : Nat → Nat) : List Value := (List.range n).map fun k => .int .u64 ((z k : Nat) : Int)
theorem zlist_len (n : Nat) (z : Nat → Nat) : (zlist n z).length = n * 1 := by simp [zlist]
theorem zlist_get {n : Nat} {z : Nat → Nat} {k : Nat} (h : k < n) : (zlist n z)[k]? = some (.int .u64 ((z k : Nat) : Int)) := by simp [zlist, h]
theorem zlist_succ (n : Nat) (z : Nat → Nat) : zlist n z ++ [.int .u64 ((z n : Nat) : Int)] = zlist (n + 1) z := by simp [zlist, List.range_succ]
/-- What the loop keeps: the parameters' box, the pair of values, the commitments so far in a row of the call's own, nothing old has changed. -/
structure At (w0 : World) (g0 gv : Nat) (p : Pm) (vs vb : Nat) (v : Value) (k : Nat) (z : Nat → Nat) (w : World) : Prop where
  prow : w.heap[g0]? = some (.cells p.cells 25 (0, 0))
  vrow : w.heap[gv]? = some (.cells (pair vs vb) 35 (0, 0))
  ne : g0 < gv
  own : w.ownsRow (gv + 1) 23 1 v k (zlist k z)
  size : gv + 1 ≤ w.heap.size
  low : w0.heap.size ≤ g0
  below : Below w0.heap.size w0 w
section
variable {w0 w w' : World} {g0 gv vs vb k : Nat} {p : Pm} {v : Value} {z : Nat → Nat}
theorem At.prow_cell (h : At w0 g0 gv p vs vb v k z w) (j : Nat) : w.cell? ⟨g0, j, none⟩ = p.cells[j]? := cell_of_row w g0 j _ _ _ h.prow
theorem At.vrow_cell (h : At w0 g0 gv p vs vb v k z w) (j : Nat) : w.cell? ⟨gv, j, none⟩ = (pair vs vb)[j]? := cell_of_row w gv j _ _ _ h.vrow
theorem At.vfree (h : At w0 g0 gv p vs vb v k z w) (j : Nat) : w.frozen? ⟨gv, j, none⟩ = false := by have h1 := h.vrow; simp [World.frozen?, h1]
theorem At.old (h : At w0 g0 gv p vs vb v k z w) {a : Addr} {u : Value} (hc : w0.cell? a = some u) : w.cell? a = some u := (h.below.cell (World.block_lt_of_cell? w0 _ hc)).trans hc
theorem At.laid (h : At w0 g0 gv p vs vb v k z w) (hl : Laid w0) : Laid w := hl.below h.below
theorem At.gv_ne (h : At w0 g0 gv p vs vb v k z w) : v.ownBlock ≠ some gv := fun e => by have := (h.own.lt gv e).1; omega
theorem At.g0_ne (h : At w0 g0 gv p vs vb v k z w) : v.ownBlock ≠ some g0 := fun e => by have := (h.own.lt g0 e).1; have := h.ne; omega
theorem At.step (h : At w0 g0 gv p vs vb v k z w) (hb : Below w.heap.size w w') : At w0 g0 gv p vs vb v k z w' :=
  ⟨(hb.block _ (row_lt h.prow)).trans h.prow, (hb.block _ (row_lt h.vrow)).trans h.vrow, h.ne,
   h.own.kept (row := none) ⟨hb.os, hb.tape, hb.output, hb.size, fun k hk _ => hb.block k hk⟩ (by cases v.ownBlock <;> simp),
   Nat.le_trans h.size hb.size, h.low, h.below.trans (hb.mono h.below.size)⟩
theorem At.drewN (h : At w0 g0 gv p vs vb v k z w) (n : Nat) : At w0 g0 gv p vs vb v k z (w.drewN n) := h.step (below_drewN' w n _)
theorem At.drew (h : At w0 g0 gv p vs vb v k z w) : At w0 g0 gv p vs vb v k z w.drew := h.drewN 1
theorem At.alloc (h : At w0 g0 gv p vs vb v k z w) (o : Obj) : At w0 g0 gv p vs vb v k z (w.alloc o) := h.step (below_box _ _)
theorem At.grow (h : At w0 g0 gv p vs vb v k z w) {v' : Value} {k' : Nat} {xs : List Value} (ho : w'.ownsRow (gv + 1) 23 1 v' k' xs) (hx : xs = zlist k' z) (hg : w.grownBy w' v.ownBlock) : At w0 g0 gv p vs vb v' k' z w' :=
  ⟨(hg.block _ (row_lt h.prow) (Ne.symm h.g0_ne)).trans h.prow, (hg.block _ (row_lt h.vrow) (Ne.symm h.gv_ne)).trans h.vrow, h.ne, hx ▸ ho, Nat.le_trans h.size hg.size, h.low,
   h.below.trans ⟨hg.os, hg.tape, hg.output, hg.size, fun j hj => hg.block j (Nat.lt_of_lt_of_le hj h.below.size) (fun e => by have := (h.own.lt j e.symm).1; have := h.ne; have := h.low; omega)⟩⟩
theorem At.grownset (_h : At w0 g0 gv p vs vb v k z w) (j : Nat) (u : Value) : w.grownBy (w.setCell ⟨gv, j, none⟩ u) (some gv) :=
  ⟨rfl, rfl, rfl, by simp, fun i _ hi => Below.heap_setCell w ⟨gv, j, none⟩ u i (fun e => hi (by rw [e]))⟩
theorem At.set0 (h : At w0 g0 gv p vs vb v k z w) (x : Nat) : At w0 g0 gv p x vb v k z (w.setCell ⟨gv, 0, none⟩ (.int .u64 (x : Int))) :=
  ⟨((h.grownset 0 _).block _ (row_lt h.prow) (by have := h.ne; simp; omega)).trans h.prow, by have h1 := h.vrow; simp [World.setCell, Array.getElem?_modify, h1], h.ne, h.own.kept (h.grownset 0 _) (.inr h.gv_ne), by simpa using h.size, h.low,
   h.below.trans ⟨rfl, rfl, rfl, by simp, fun j hj => Below.heap_setCell w ⟨gv, 0, none⟩ _ j (by have := h.ne; have := h.low; simp; omega)⟩⟩
theorem At.set1 (h : At w0 g0 gv p vs vb v k z w) (x : Nat) : At w0 g0 gv p vs x v k z (w.setCell ⟨gv, 1, none⟩ (.int .u64 (x : Int))) :=
  ⟨((h.grownset 1 _).block _ (row_lt h.prow) (by have := h.ne; simp; omega)).trans h.prow, by have h1 := h.vrow; simp [World.setCell, Array.getElem?_modify, h1], h.ne, h.own.kept (h.grownset 1 _) (.inr h.gv_ne), by simpa using h.size, h.low,
   h.below.trans ⟨rfl, rfl, rfl, by simp, fun j hj => Below.heap_setCell w ⟨gv, 1, none⟩ _ j (by have := h.ne; have := h.low; simp; omega)⟩⟩
theorem At.row (h : At w0 g0 gv p vs vb v k z w) (hk : 0 < k) : ∃ g c, v = .slice (some ⟨g, 0, none⟩) k c ∧ Row w ⟨g, 0, none⟩ k z := by
  obtain ⟨_, ⟨_, h1⟩ | ⟨g, cap, cur, h1, _, h3, _, _, _, h7⟩⟩ := h.own
  · omega
  · refine ⟨g, cap, h1, Row.of_block h3 fun j hj => ?_⟩
    have e1 : (cur.toList.take (k * 1))[j]? = (zlist k z)[j]? := by rw [h7]
    rw [zlist_get hj, List.getElem?_take_of_lt (by omega)] at e1
    simpa using e1
end
set_option maxHeartbeats 8000000 in
set_option maxRecDepth 100000 in
theorem core (p : Pm) (ba off n cap i i2 r : Nat) (s b com e vs vb : Nat → Nat) (w : World) (hl : Laid w) (hn : n ≤ 20) (hpos : 0 < n)
    (hc : ∀ k, k < n → w.cell? ⟨ba, off + k * 2, none⟩ = some (.int .u64 ((s k : Nat) : Int)) ∧ w.cell? ⟨ba, off + k * 2 + 1, none⟩ = some (.int .u64 ((b k : Nat) : Int)))
    (h0s : vs 0 = 0) (h0b : vb 0 = 0) (h0e : e 0 = 1) (hQ0 : p.Q ≠ 0) (he2 : Int.tmod (i : Int) (p.Q : Int) = (i2 : Int))
    (HK : RetBL 10 #[] (.bool true)) (HM : RetBL 12 #[.agg p.cells] (.bool true))
    (HC : ∀ k, k < n → RetB 16 #[.agg p.cells, .agg (pair (s k) (b k))] (.int .u64 ((com k : Nat) : Int)))
    (H1 : ∀ k, k < n → ∃ x : Nat, Ret 20 #[.int .u64 ((s k : Nat) : Int), .int .u64 ((e k : Nat) : Int), .int .u64 (p.Q : Int)] (.int .u64 (x : Int)) ∧ Ret 19 #[.int .u64 ((vs k : Nat) : Int), .int .u64 (x : Int), .int .u64 (p.Q : Int)] (.int .u64 ((vs (k + 1) : Nat) : Int)))
    (H2 : ∀ k, k < n → ∃ x : Nat, Ret 20 #[.int .u64 ((b k : Nat) : Int), .int .u64 ((e k : Nat) : Int), .int .u64 (p.Q : Int)] (.int .u64 (x : Int)) ∧ Ret 19 #[.int .u64 ((vb k : Nat) : Int), .int .u64 (x : Int), .int .u64 (p.Q : Int)] (.int .u64 ((vb (k + 1) : Nat) : Int)))
    (H3 : ∀ k, k < n → Ret 20 #[.int .u64 ((e k : Nat) : Int), .int .u64 (i : Int), .int .u64 (p.Q : Int)] (.int .u64 ((e (k + 1) : Nat) : Int)))
    (HA : ∀ (a' : Addr) (cap' : Nat) (W' : World), Row W' a' n com → Calls Tryd.prog 17 #[.agg p.cells, .slice (some a') n cap', .int .u64 (i : Int)] W' fun e w' => e = .returned (.int .u64 (r : Int)) ∧ Below W'.heap.size W' w')
    (HA2 : ∀ (a' : Addr) (cap' : Nat) (W' : World), Row W' a' n com → Calls Tryd.prog 17 #[.agg p.cells, .slice (some a') n cap', .int .u64 (i2 : Int)] W' fun e w' => e = .returned (.int .u64 (r : Int)) ∧ Below W'.heap.size W' w')
    (HV : RetB 16 #[.agg p.cells, .agg (pair (vs n) (vb n))] (.int .u64 (r : Int))) :
    Calls Tryd.prog 8 #[.agg p.cells, .slice (some ⟨ba, off, none⟩) n cap, .int .u64 (i : Int)] w fun e w' => e = .returned (.bool true) ∧ Below w.heap.size w w' := by
  have HL := Lib.hid hc
  have HH1 := Lib.hid H1
  have HH2 := Lib.hid H2
  have HH3 := Lib.hid H3
  have HHC := Lib.hid HC
  have HZ := Lib.hid (show vs 0 = 0 ∧ vb 0 = 0 ∧ e 0 = 1 from ⟨h0s, h0b, h0e⟩)
  have HQ := Lib.hid (show p.Q ≠ 0 ∧ Int.tmod (i : Int) (p.Q : Int) = (i2 : Int) from ⟨hQ0, he2⟩)
  clear hc H1 H2 H3 HC h0s h0b h0e hQ0 he2
  obtain ⟨i0, hi, hz0, hz1, hz2⟩ := info_parts info_u64
  have HI0 : Hid (In w w.heap.size p (w.alloc (.cells p.cells 25))) := Lib.hid (In.new w p hl)
  have HLD := Lib.hid hl
  generalize hg : w.heap.size = g0 at HI0
  have HE := Lib.hid hg
  clear hl hg
  go_enter Tryd.func8, Tryd.ntmps8
  go_upto_region 1 with fail
  rw [HE.out]
  generalize w.alloc (.cells p.cells 25) = w1 at *
  have HI := HI0
  clear HI0
  go_upto_region 4 with (first | (go_at_call 10; (first | (with_reducible refine (HK.at _ HI.out.laid).mono ?_)); rintro e w1 ⟨rfl, hb⟩; replace HI := Lib.hid (HI.out.step hb); clear hb) | (go_at_call 12; (first | (with_reducible refine (HM.at _ HI.out.laid).mono ?_)); rintro e w1 ⟨rfl, hb⟩; replace HI := Lib.hid (HI.out.step hb); clear hb) | (refine wpList_row_if ?_ 25 _ rfl g0 rfl 25 p.cells (0, 0) _ HI.out.box Tryd.underlying25 rfl (by kernel_rfl) ?_; first | rfl | (simp [Region.wanted, yielded]; done)))
  have HV0 : Hid (At w g0 w1.heap.size p 0 0 (.slice none 0 0) 0 com (w1.alloc (.cells #[.int .u64 0, .int .u64 0] 35))) := Lib.hid
    ⟨(heap_alloc_old _ _ (row_lt HI.out.box)).trans HI.out.box, heap_alloc_new _ _, row_lt HI.out.box, ⟨by simp [zlist], .inl ⟨rfl, rfl⟩⟩, by simp, by have := HE.out; omega, (HI.out.alloc _).below⟩
  clear HI HK HM
  go_wp2_with fail
  generalize w1.alloc (.cells #[.int .u64 0, .int .u64 0] 35) = w2 at *
  generalize w1.heap.size = gv at *
  go_loopw [7, 9, 10] (fun s7 s9 s10 wx => ∃ k : Nat, k ≤ n ∧ s10 = .int .i64 (k : Int) ∧ s9 = .int .u64 ((e k : Nat) : Int) ∧ Hid (At w g0 gv p (vs k) (vb k) s7 k com wx)) (fun _ _ s10 _ => n - (RowKit.intOf s10).toNat)
  case atStart => exact ⟨0, Nat.zero_le _, rfl, by rw [HZ.out.2.2]; rfl, by rw [HZ.out.1, HZ.out.2.1]; exact HV0⟩
  case round =>
    obtain ⟨k, hk, rfl, rfl, HJ0⟩ := hrel
    rename_i wr
    clear HV0
    by_cases hlt : k < n
    · have HC := HHC.out k hlt
      have kS9 : ∀ {w' : World} {vs vb j : Nat} {v : Value}, At w g0 gv p vs vb v j com w' → w'.cell? ⟨ba, off + k * 2, none⟩ = some (.int .u64 ((s k : Nat) : Int)) ∧ w'.cell? ⟨ba, off + k * 2 + 1, none⟩ = some (.int .u64 ((b k : Nat) : Int)) ∧ w'.cell? ⟨g0, 0, none⟩ = some (.int .u64 (p.P : Int)) ∧ w'.cell? ⟨g0, 1, none⟩ = some (.int .u64 (p.Q : Int)) ∧ w'.cell? ⟨g0, 2, none⟩ = some (.int .u64 (p.G : Int)) ∧ w'.cell? ⟨g0, 3, none⟩ = some (.int .u64 (p.H : Int)) ∧ w'.cell? ⟨g0, 4, none⟩ = some (.int .i64 p.Nodes) ∧ w'.cell? ⟨g0, 5, none⟩ = some (.int .i64 p.N) ∧ w'.cell? ⟨g0, 6, none⟩ = some (.int .i64 p.T) ∧ w'.cell? ⟨g0, 7, none⟩ = some (.int .i64 p.K) ∧ w'.cell? ⟨g0, 8, none⟩ = some (.int .i64 p.D) ∧ w'.cell? ⟨g0, 9, none⟩ = some (.int .i64 p.R) ∧ w'.cell? ⟨g0, 10, none⟩ = some (.int .i64 p.M) ∧ w'.cell? ⟨g0, 11, none⟩ = some (.int .i64 p.X) := fun h => ⟨(h.old (HL.out k hlt).1), (h.old (HL.out k hlt).2), h.prow_cell 0, h.prow_cell 1, h.prow_cell 2, h.prow_cell 3, h.prow_cell 4, h.prow_cell 5, h.prow_cell 6, h.prow_cell 7, h.prow_cell 8, h.prow_cell 9, h.prow_cell 10, h.prow_cell 11⟩
      have HJ := HJ0.out
      clear HJ0
      go_upto_region 9 with fail
      have hk0 : (0 : Int) ≤ (k : Int) := Int.natCast_nonneg _
      have hk1 : (k : Int) < (n : Int) := by omega
      obtain ⟨y0, y1, y2, y3, y4, y5, y6, y7, y8, y9, y10, y11, y12, y13⟩ := kS9 HJ
      go_region_held3 (fun w' => w'.cell? ⟨ba, off + k * 2, none⟩ = some (.int .u64 ((s k : Nat) : Int)) ∧ w'.cell? ⟨ba, off + k * 2 + 1, none⟩ = some (.int .u64 ((b k : Nat) : Int)) ∧ w'.cell? ⟨g0, 0, none⟩ = some (.int .u64 (p.P : Int)) ∧ w'.cell? ⟨g0, 1, none⟩ = some (.int .u64 (p.Q : Int)) ∧ w'.cell? ⟨g0, 2, none⟩ = some (.int .u64 (p.G : Int)) ∧ w'.cell? ⟨g0, 3, none⟩ = some (.int .u64 (p.H : Int)) ∧ w'.cell? ⟨g0, 4, none⟩ = some (.int .i64 p.Nodes) ∧ w'.cell? ⟨g0, 5, none⟩ = some (.int .i64 p.N) ∧ w'.cell? ⟨g0, 6, none⟩ = some (.int .i64 p.T) ∧ w'.cell? ⟨g0, 7, none⟩ = some (.int .i64 p.K) ∧ w'.cell? ⟨g0, 8, none⟩ = some (.int .i64 p.D) ∧ w'.cell? ⟨g0, 9, none⟩ = some (.int .i64 p.R) ∧ w'.cell? ⟨g0, 10, none⟩ = some (.int .i64 p.M) ∧ w'.cell? ⟨g0, 11, none⟩ = some (.int .i64 p.X)) (first | exact kS9 HJ | exact kS9 (At.drew HJ) | exact kS9 (At.drewN HJ _) | exact kS9 (At.alloc HJ _) | exact kS9 (At.alloc (At.drew HJ) _) | exact kS9 (At.alloc (At.drewN HJ _) _) | exact kS9 (At.drew (At.alloc HJ _)) | exact kS9 (At.drewN (At.alloc HJ _) _))
        (first | ((first | (refine step_append_lies _ (by rfl) _ _ _ (by rfl) (gv + 1) 23 i0 (.int .u64 0) 1 8 Tryd.underlying29 hi hz0 hz1 hz2 rfl (by decide) u7 k (zlist k com) (by rfl) (At.alloc HJ _).own ⟨w1.heap.size, 0, none⟩ 1 1 [.int .u64 ((com k : Nat) : Int)] (by rfl) (by rfl) (World.news_of_block (cs := #[.int .u64 ((com k : Nat) : Int)]) (t := 23) (fr := (0, 0)) (heap_alloc_new _ _)) (by simp [Value.oneCell']) (by omega) (by unfold maxLen; omega) (by omega) (At.alloc HJ _).size (w1.heap.size + 1) (by simp) ?_; intro gg cap w1 hown1 hgrow hat hlt1; have HJ := At.grow (At.alloc HJ _) hown1 (zlist_succ k com) hgrow; clear hown1 hgrow hat hlt1) | (refine step_append_lies _ (by rfl) _ _ _ (by rfl) (gv + 1) 23 i0 (.int .u64 0) 1 8 Tryd.underlying29 hi hz0 hz1 hz2 rfl (by decide) u7 k (zlist k com) (by rfl) (At.alloc (At.drew HJ) _).own ⟨w1.heap.size, 0, none⟩ 1 1 [.int .u64 ((com k : Nat) : Int)] (by rfl) (by rfl) (World.news_of_block (cs := #[.int .u64 ((com k : Nat) : Int)]) (t := 23) (fr := (0, 0)) (heap_alloc_new _ _)) (by simp [Value.oneCell']) (by omega) (by unfold maxLen; omega) (by omega) (At.alloc (At.drew HJ) _).size (w1.heap.size + 1) (by simp) ?_; intro gg cap w1 hown1 hgrow hat hlt1; have HJ := At.grow (At.alloc (At.drew HJ) _) hown1 (zlist_succ k com) hgrow; clear hown1 hgrow hat hlt1) | (refine step_append_lies _ (by rfl) _ _ _ (by rfl) (gv + 1) 23 i0 (.int .u64 0) 1 8 Tryd.underlying29 hi hz0 hz1 hz2 rfl (by decide) u7 k (zlist k com) (by rfl) (At.alloc (At.drewN HJ _) _).own ⟨w1.heap.size, 0, none⟩ 1 1 [.int .u64 ((com k : Nat) : Int)] (by rfl) (by rfl) (World.news_of_block (cs := #[.int .u64 ((com k : Nat) : Int)]) (t := 23) (fr := (0, 0)) (heap_alloc_new _ _)) (by simp [Value.oneCell']) (by omega) (by unfold maxLen; omega) (by omega) (At.alloc (At.drewN HJ _) _).size (w1.heap.size + 1) (by simp) ?_; intro gg cap w1 hown1 hgrow hat hlt1; have HJ := At.grow (At.alloc (At.drewN HJ _) _) hown1 (zlist_succ k com) hgrow; clear hown1 hgrow hat hlt1) | (refine step_append_lies _ (by rfl) _ _ _ (by rfl) (gv + 1) 23 i0 (.int .u64 0) 1 8 Tryd.underlying29 hi hz0 hz1 hz2 rfl (by decide) u7 k (zlist k com) (by rfl) (At.drew (At.alloc HJ _)).own ⟨w1.heap.size, 0, none⟩ 1 1 [.int .u64 ((com k : Nat) : Int)] (by rfl) (by rfl) (World.news_of_block (cs := #[.int .u64 ((com k : Nat) : Int)]) (t := 23) (fr := (0, 0)) (heap_alloc_new _ _)) (by simp [Value.oneCell']) (by omega) (by unfold maxLen; omega) (by omega) (At.drew (At.alloc HJ _)).size (w1.heap.size + 1) (by simp) ?_; intro gg cap w1 hown1 hgrow hat hlt1; have HJ := At.grow (At.drew (At.alloc HJ _)) hown1 (zlist_succ k com) hgrow; clear hown1 hgrow hat hlt1) | (refine step_append_lies _ (by rfl) _ _ _ (by rfl) (gv + 1) 23 i0 (.int .u64 0) 1 8 Tryd.underlying29 hi hz0 hz1 hz2 rfl (by decide) u7 k (zlist k com) (by rfl) (At.drewN (At.alloc HJ _) _).own ⟨w1.heap.size, 0, none⟩ 1 1 [.int .u64 ((com k : Nat) : Int)] (by rfl) (by rfl) (World.news_of_block (cs := #[.int .u64 ((com k : Nat) : Int)]) (t := 23) (fr := (0, 0)) (heap_alloc_new _ _)) (by simp [Value.oneCell']) (by omega) (by unfold maxLen; omega) (by omega) (At.drewN (At.alloc HJ _) _).size (w1.heap.size + 1) (by simp) ?_; intro gg cap w1 hown1 hgrow hat hlt1; have HJ := At.grow (At.drewN (At.alloc HJ _) _) hown1 (zlist_succ k com) hgrow; clear hown1 hgrow hat hlt1))) | (go_at_call 16; (with_reducible refine (HC.at _).mono ?_); rintro e w1 ⟨rfl, hb⟩; (first | (have HJ := At.step HJ hb) | (have HJ := At.step (At.drew HJ) hb) | (have HJ := At.step (At.drewN HJ _) hb) | (have HJ := At.step (At.alloc HJ _) hb) | (have HJ := At.step (At.alloc (At.drew HJ) _) hb) | (have HJ := At.step (At.alloc (At.drewN HJ _) _) hb) | (have HJ := At.step (At.drew (At.alloc HJ _)) hb) | (have HJ := At.step (At.drewN (At.alloc HJ _) _) hb)); clear hb))
      clear kS9 HC y0 y1 y2 y3 y4 y5 y6 y7 y8 y9 y10 y11 y12 y13
      go_upto_region 10 with fail
      obtain ⟨x, HM1, HA1⟩ := HH1.out k hlt
      have kS10 : ∀ {w' : World} {vs vb j : Nat} {v : Value}, At w g0 gv p vs vb v j com w' → w'.cell? ⟨ba, off + k * 2, none⟩ = some (.int .u64 ((s k : Nat) : Int)) ∧ w'.cell? ⟨g0, 0, none⟩ = some (.int .u64 (p.P : Int)) ∧ w'.cell? ⟨g0, 1, none⟩ = some (.int .u64 (p.Q : Int)) ∧ w'.cell? ⟨g0, 2, none⟩ = some (.int .u64 (p.G : Int)) ∧ w'.cell? ⟨g0, 3, none⟩ = some (.int .u64 (p.H : Int)) ∧ w'.cell? ⟨g0, 4, none⟩ = some (.int .i64 p.Nodes) ∧ w'.cell? ⟨g0, 5, none⟩ = some (.int .i64 p.N) ∧ w'.cell? ⟨g0, 6, none⟩ = some (.int .i64 p.T) ∧ w'.cell? ⟨g0, 7, none⟩ = some (.int .i64 p.K) ∧ w'.cell? ⟨g0, 8, none⟩ = some (.int .i64 p.D) ∧ w'.cell? ⟨g0, 9, none⟩ = some (.int .i64 p.R) ∧ w'.cell? ⟨g0, 10, none⟩ = some (.int .i64 p.M) ∧ w'.cell? ⟨g0, 11, none⟩ = some (.int .i64 p.X) := fun h => ⟨(h.old (HL.out k hlt).1), h.prow_cell 0, h.prow_cell 1, h.prow_cell 2, h.prow_cell 3, h.prow_cell 4, h.prow_cell 5, h.prow_cell 6, h.prow_cell 7, h.prow_cell 8, h.prow_cell 9, h.prow_cell 10, h.prow_cell 11⟩
      obtain ⟨y0, y1, y2, y3, y4, y5, y6, y7, y8, y9, y10, y11, y12⟩ := kS10 HJ
      have hv0 : w1.cell? ⟨gv, 0, none⟩ = some (.int .u64 ((vs k : Nat) : Int)) := HJ.vrow_cell 0
      have hf0 : w1.frozen? ⟨gv, 0, none⟩ = false := HJ.vfree 0
      clear kS10
      refine QT.region 15 (by kernel_rfl) (by kernel_rfl) ?_
      simp only [List.take_succ_cons, List.take_zero, List.drop_succ_cons, List.drop_zero]
      repeat (quiet_step ((first | (go_at_call 20; exact (HM1).quiet) | (go_at_call 19; exact (HA1).quiet))))
      refine wpQuiet_nil ?_
      intro nq
      go_wp2_with fail
      have HJ := (At.set0 HJ (vs (k + 1))).drewN nq
      generalize (w1.setCell ⟨gv, 0, none⟩ (.int .u64 ((vs (k + 1) : Nat) : Int))).drewN nq = w3 at HJ ⊢
      clear y0 y1 y2 y3 y4 y5 y6 y7 y8 y9 y10 y11 y12 hv0 hf0 HM1 HA1
      go_upto_region 11 with fail
      obtain ⟨x2, HM1, HA1⟩ := HH2.out k hlt
      have kS11 : ∀ {w' : World} {vs vb j : Nat} {v : Value}, At w g0 gv p vs vb v j com w' → w'.cell? ⟨ba, off + k * 2 + 1, none⟩ = some (.int .u64 ((b k : Nat) : Int)) ∧ w'.cell? ⟨g0, 0, none⟩ = some (.int .u64 (p.P : Int)) ∧ w'.cell? ⟨g0, 1, none⟩ = some (.int .u64 (p.Q : Int)) ∧ w'.cell? ⟨g0, 2, none⟩ = some (.int .u64 (p.G : Int)) ∧ w'.cell? ⟨g0, 3, none⟩ = some (.int .u64 (p.H : Int)) ∧ w'.cell? ⟨g0, 4, none⟩ = some (.int .i64 p.Nodes) ∧ w'.cell? ⟨g0, 5, none⟩ = some (.int .i64 p.N) ∧ w'.cell? ⟨g0, 6, none⟩ = some (.int .i64 p.T) ∧ w'.cell? ⟨g0, 7, none⟩ = some (.int .i64 p.K) ∧ w'.cell? ⟨g0, 8, none⟩ = some (.int .i64 p.D) ∧ w'.cell? ⟨g0, 9, none⟩ = some (.int .i64 p.R) ∧ w'.cell? ⟨g0, 10, none⟩ = some (.int .i64 p.M) ∧ w'.cell? ⟨g0, 11, none⟩ = some (.int .i64 p.X) := fun h => ⟨(h.old (HL.out k hlt).2), h.prow_cell 0, h.prow_cell 1, h.prow_cell 2, h.prow_cell 3, h.prow_cell 4, h.prow_cell 5, h.prow_cell 6, h.prow_cell 7, h.prow_cell 8, h.prow_cell 9, h.prow_cell 10, h.prow_cell 11⟩
      obtain ⟨y0, y1, y2, y3, y4, y5, y6, y7, y8, y9, y10, y11, y12⟩ := kS11 HJ
      have hv0 : w3.cell? ⟨gv, 1, none⟩ = some (.int .u64 ((vb k : Nat) : Int)) := HJ.vrow_cell 1
      have hf0 : w3.frozen? ⟨gv, 1, none⟩ = false := HJ.vfree 1
      clear kS11
      refine QT.region 15 (by kernel_rfl) (by kernel_rfl) ?_
      simp only [List.take_succ_cons, List.take_zero, List.drop_succ_cons, List.drop_zero]
      repeat (quiet_step ((first | (go_at_call 20; exact (HM1).quiet) | (go_at_call 19; exact (HA1).quiet))))
      refine wpQuiet_nil ?_
      intro nq
      go_upto_region 12 with fail
      have HJ := (At.set1 HJ (vb (k + 1))).drewN nq
      generalize (w3.setCell ⟨gv, 1, none⟩ (.int .u64 ((vb (k + 1) : Nat) : Int))).drewN nq = w4 at HJ ⊢
      clear y0 y1 y2 y3 y4 y5 y6 y7 y8 y9 y10 y11 y12 hv0 hf0 HM1 HA1
      have HM3 := HH3.out k hlt
      have q1 : w4.cell? ⟨g0, 1, none⟩ = some (.int .u64 (p.Q : Int)) := HJ.prow_cell 1
      go_wp2_with (go_at_call 20; (with_reducible refine (HM3.at _).mono ?_); rintro e w1 ⟨rfl, nd, rfl⟩)
      go_roundw
      case rel => exact ⟨k + 1, by omega, by go_num, rfl, Lib.hid (HJ.drewN _)⟩
      case measure => simp [RowKit.intOf]; omega
    · obtain rfl : k = n := by omega
      obtain ⟨gc, cc, rfl, hrow⟩ := HJ0.out.row hpos
      have HRI := Lib.hid hrow
      have HBW := Lib.hid HJ0.out.below
      have HJ : Inr wr [(gv, pair (vs k) (vb k), 35), (g0, p.cells, 25)] wr := ⟨fun r hr => by
        rcases List.mem_cons.1 hr with e | hr
        · subst e; exact HJ0.out.vrow
        · rcases List.mem_cons.1 hr with e | hr
          · subst e; exact HJ0.out.prow
          · simp at hr, Below.refl _ _⟩
      clear hrow HJ0 HH1 HH2 HH3 HHC HL hlt
      have kS13 : ∀ {w' : World}, Inr wr [(gv, pair (vs k) (vb k), 35), (g0, p.cells, 25)] w' → w'.cell? ⟨gv, 0, none⟩ = some (.int .u64 ((vs k : Nat) : Int)) ∧ w'.cell? ⟨gv, 1, none⟩ = some (.int .u64 ((vb k : Nat) : Int)) ∧ w'.cell? ⟨g0, 0, none⟩ = some (.int .u64 (p.P : Int)) ∧ w'.cell? ⟨g0, 1, none⟩ = some (.int .u64 (p.Q : Int)) ∧ w'.cell? ⟨g0, 2, none⟩ = some (.int .u64 (p.G : Int)) ∧ w'.cell? ⟨g0, 3, none⟩ = some (.int .u64 (p.H : Int)) ∧ w'.cell? ⟨g0, 4, none⟩ = some (.int .i64 p.Nodes) ∧ w'.cell? ⟨g0, 5, none⟩ = some (.int .i64 p.N) ∧ w'.cell? ⟨g0, 6, none⟩ = some (.int .i64 p.T) ∧ w'.cell? ⟨g0, 7, none⟩ = some (.int .i64 p.K) ∧ w'.cell? ⟨g0, 8, none⟩ = some (.int .i64 p.D) ∧ w'.cell? ⟨g0, 9, none⟩ = some (.int .i64 p.R) ∧ w'.cell? ⟨g0, 10, none⟩ = some (.int .i64 p.M) ∧ w'.cell? ⟨g0, 11, none⟩ = some (.int .i64 p.X) := fun h => ⟨h.cell (b := gv) (cs := pair (vs k) (vb k)) (t := 35) (by simp) 0, h.cell (b := gv) (cs := pair (vs k) (vb k)) (t := 35) (by simp) 1, h.cell (b := g0) (cs := p.cells) (t := 25) (by simp) 0, h.cell (b := g0) (cs := p.cells) (t := 25) (by simp) 1, h.cell (b := g0) (cs := p.cells) (t := 25) (by simp) 2, h.cell (b := g0) (cs := p.cells) (t := 25) (by simp) 3, h.cell (b := g0) (cs := p.cells) (t := 25) (by simp) 4, h.cell (b := g0) (cs := p.cells) (t := 25) (by simp) 5, h.cell (b := g0) (cs := p.cells) (t := 25) (by simp) 6, h.cell (b := g0) (cs := p.cells) (t := 25) (by simp) 7, h.cell (b := g0) (cs := p.cells) (t := 25) (by simp) 8, h.cell (b := g0) (cs := p.cells) (t := 25) (by simp) 9, h.cell (b := g0) (cs := p.cells) (t := 25) (by simp) 10, h.cell (b := g0) (cs := p.cells) (t := 25) (by simp) 11⟩
      have hQ0 := HQ.out.1
      have he2 := HQ.out.2
      go_upto_region 13 with fail
      obtain ⟨y0, y1, y2, y3, y4, y5, y6, y7, y8, y9, y10, y11, y12, y13⟩ := kS13 HJ
      go_region_held3 (fun w' => w'.cell? ⟨gv, 0, none⟩ = some (.int .u64 ((vs k : Nat) : Int)) ∧ w'.cell? ⟨gv, 1, none⟩ = some (.int .u64 ((vb k : Nat) : Int)) ∧ w'.cell? ⟨g0, 0, none⟩ = some (.int .u64 (p.P : Int)) ∧ w'.cell? ⟨g0, 1, none⟩ = some (.int .u64 (p.Q : Int)) ∧ w'.cell? ⟨g0, 2, none⟩ = some (.int .u64 (p.G : Int)) ∧ w'.cell? ⟨g0, 3, none⟩ = some (.int .u64 (p.H : Int)) ∧ w'.cell? ⟨g0, 4, none⟩ = some (.int .i64 p.Nodes) ∧ w'.cell? ⟨g0, 5, none⟩ = some (.int .i64 p.N) ∧ w'.cell? ⟨g0, 6, none⟩ = some (.int .i64 p.T) ∧ w'.cell? ⟨g0, 7, none⟩ = some (.int .i64 p.K) ∧ w'.cell? ⟨g0, 8, none⟩ = some (.int .i64 p.D) ∧ w'.cell? ⟨g0, 9, none⟩ = some (.int .i64 p.R) ∧ w'.cell? ⟨g0, 10, none⟩ = some (.int .i64 p.M) ∧ w'.cell? ⟨g0, 11, none⟩ = some (.int .i64 p.X)) (first | exact kS13 HJ | exact kS13 (Inr.drew HJ) | exact kS13 (Inr.drewN HJ _) | exact kS13 (Inr.alloc HJ _) | exact kS13 (Inr.alloc (Inr.drew HJ) _) | exact kS13 (Inr.alloc (Inr.drewN HJ _) _) | exact kS13 (Inr.drew (Inr.alloc HJ _)) | exact kS13 (Inr.drewN (Inr.alloc HJ _) _))
        (first | (go_at_call 17; (first | (with_reducible refine (HA _ _ _ (HRI.out.below HJ.below)).mono ?_) | (with_reducible refine (HA _ _ _ (HRI.out.below (Inr.drew HJ).below)).mono ?_) | (with_reducible refine (HA _ _ _ (HRI.out.below (Inr.drewN HJ _).below)).mono ?_) | (with_reducible refine (HA _ _ _ (HRI.out.below (Inr.alloc HJ _).below)).mono ?_) | (with_reducible refine (HA _ _ _ (HRI.out.below (Inr.alloc (Inr.drew HJ) _).below)).mono ?_) | (with_reducible refine (HA _ _ _ (HRI.out.below (Inr.alloc (Inr.drewN HJ _) _).below)).mono ?_) | (with_reducible refine (HA _ _ _ (HRI.out.below (Inr.drew (Inr.alloc HJ _)).below)).mono ?_) | (with_reducible refine (HA _ _ _ (HRI.out.below (Inr.drewN (Inr.alloc HJ _) _).below)).mono ?_) | (with_reducible refine (HA2 _ _ _ (HRI.out.below HJ.below)).mono ?_) | (with_reducible refine (HA2 _ _ _ (HRI.out.below (Inr.drew HJ).below)).mono ?_) | (with_reducible refine (HA2 _ _ _ (HRI.out.below (Inr.drewN HJ _).below)).mono ?_) | (with_reducible refine (HA2 _ _ _ (HRI.out.below (Inr.alloc HJ _).below)).mono ?_) | (with_reducible refine (HA2 _ _ _ (HRI.out.below (Inr.alloc (Inr.drew HJ) _).below)).mono ?_) | (with_reducible refine (HA2 _ _ _ (HRI.out.below (Inr.alloc (Inr.drewN HJ _) _).below)).mono ?_) | (with_reducible refine (HA2 _ _ _ (HRI.out.below (Inr.drew (Inr.alloc HJ _)).below)).mono ?_) | (with_reducible refine (HA2 _ _ _ (HRI.out.below (Inr.drewN (Inr.alloc HJ _) _).below)).mono ?_)); rintro e w1 ⟨rfl, hb⟩; (first | (have HJ := Inr.step HJ hb) | (have HJ := Inr.step (Inr.drew HJ) hb) | (have HJ := Inr.step (Inr.drewN HJ _) hb) | (have HJ := Inr.step (Inr.alloc HJ _) hb) | (have HJ := Inr.step (Inr.alloc (Inr.drew HJ) _) hb) | (have HJ := Inr.step (Inr.alloc (Inr.drewN HJ _) _) hb) | (have HJ := Inr.step (Inr.drew (Inr.alloc HJ _)) hb) | (have HJ := Inr.step (Inr.drewN (Inr.alloc HJ _) _) hb)); clear hb) | (go_at_call 16; (first | (with_reducible refine (HV.at _).mono ?_)); rintro e w1 ⟨rfl, hb⟩; (first | (have HJ := Inr.step HJ hb) | (have HJ := Inr.step (Inr.drew HJ) hb) | (have HJ := Inr.step (Inr.drewN HJ _) hb) | (have HJ := Inr.step (Inr.alloc HJ _) hb) | (have HJ := Inr.step (Inr.alloc (Inr.drew HJ) _) hb) | (have HJ := Inr.step (Inr.alloc (Inr.drewN HJ _) _) hb) | (have HJ := Inr.step (Inr.drew (Inr.alloc HJ _)) hb) | (have HJ := Inr.step (Inr.drewN (Inr.alloc HJ _) _) hb)); clear hb))
      clear kS13 hQ0 he2
      go_wp2_with fail
      go_ret
      exact ⟨rfl, HE.out ▸ HBW.out.trans (HJ.below.mono HBW.out.size)⟩
end GroupAt
end Go.Proofs.YtmeaiindbkkkiaaDoor
