/- The examples of layer 4 (works). -/
import Derived.Test.YtflkmjihgfjofaaDoorLaw04a
namespace Go.Proofs.YtflkmjihgfjofaaDoor
open Go Go.RowKit Go.Lib
namespace M
/-- A row in a new block. -/
theorem row_at {W : World} (l : List Nat) {b n : Nat} (hb : W.heap.size = b) (hn : l.length = n) : Row (W.alloc (ns l)) ⟨b, 0, none⟩ n (MM.ofL l) := by subst hb hn; exact row_new W l
theorem rd_at {W : World} (l : List Nat) {b n : Nat} (hb : W.heap.size = b) (hn : l.length = n) : Rd (W.alloc (ns l)) (some ⟨b, 0, none⟩) n (MM.ofL l) := row_rd (row_at l hb hn)
theorem Rd.alloc {W : World} {ao : Option Addr} {n : Nat} {z : Nat → Nat} (h : Rd W ao n z) (o : Obj) : Rd (W.alloc o) ao n z := h.below (below_box _ _)
theorem Row.alloc {W : World} {a : Addr} {n : Nat} {z : Nat → Nat} (h : Row W a n z) (o : Obj) : Row (W.alloc o) a n z := h.below (below_box _ _)
theorem NRows.alloc {W : World} {ao : Option Addr} {rows : List (List Nat)} (h : NRows W ao rows) (o : Obj) : NRows (W.alloc o) ao rows := h.below (below_box _ _)
/-- One row of rows, and two, in new blocks. -/
theorem nrows1 {W : World} {a b n : Nat} {l : List Nat} (h : Row W ⟨a, 0, none⟩ n (MM.ofL l)) (hn : l.length = n) (hb : W.heap.size = b) : NRows (W.alloc (.cells #[.slice (some ⟨a, 0, none⟩) n n] 25)) (some ⟨b, 0, none⟩) [l] := by
  subst hn hb; exact nrows_new W [(a, l)] (by simpa using h)
theorem nrows2 {W : World} {a c b n m : Nat} {l k : List Nat} (h : Row W ⟨a, 0, none⟩ n (MM.ofL l)) (h2 : Row W ⟨c, 0, none⟩ m (MM.ofL k)) (hn : l.length = n) (hm : k.length = m) (hb : W.heap.size = b) : NRows (W.alloc (.cells #[.slice (some ⟨a, 0, none⟩) n n, .slice (some ⟨c, 0, none⟩) m m] 25)) (some ⟨b, 0, none⟩) [l, k] := by
  subst hn hm hb; exact nrows_new W [(a, l), (c, k)] (by simpa using ⟨h, h2⟩)
theorem nrows3 {W : World} {a c d b n m o : Nat} {l k j : List Nat} (h : Row W ⟨a, 0, none⟩ n (MM.ofL l)) (h2 : Row W ⟨c, 0, none⟩ m (MM.ofL k)) (h3 : Row W ⟨d, 0, none⟩ o (MM.ofL j)) (hn : l.length = n) (hm : k.length = m) (ho : j.length = o) (hb : W.heap.size = b) : NRows (W.alloc (.cells #[.slice (some ⟨a, 0, none⟩) n n, .slice (some ⟨c, 0, none⟩) m m, .slice (some ⟨d, 0, none⟩) o o] 25)) (some ⟨b, 0, none⟩) [l, k, j] := by
  subst hn hm ho hb; exact nrows_new W [(a, l), (c, k), (d, j)] (by simpa using ⟨h, h2, h3⟩)
/-- An append of whose run an equation tells, behind a guard. -/
theorem wpList_append_if {P : Program} (w : World) {ops : Array Oper} {rest : List Oper} {o : Oper} {a : Act} {Q : Exit → Act → World → Prop} (hgd : Region.wanted o (yielded ops a.tmps) = true) (s x : Operand) (t tn : TypeId)
    (ho : o.op = .call { callee := .builtin .append, args := #[s, x], argTypes := #[t, tn] }) (vs vx : Value) (hs : a.eval s = vs) (hx : a.eval x = vx)
    (v' : Value) (w' : World) (hr : (Builtin.append_ #[t, tn] o.type #[vs, vx]).run P w = .ok v' w') (h : wpList P ops Q rest (a.put o.dst v') w') : wpList P ops Q (o :: rest) a w :=
  wpList_step fun _ hK => by rw [if_pos hgd]; exact Lib.wp_append_run w s x t tn ho vs vx hs hx v' w' hr (hK _ _ h)
theorem info_rows : (Tryd.prog.info? 25).map (fun i => (i.zero, i.size, i.bytes)) = some (some (.slice none 0 0), 1, 24) := by kernel_rfl
/-- One row more, behind two that fill their block. -/
theorem nrows_append {W : World} {L g : Nat} {r0 r1 r2 : List Nat} (h : NRows W (some ⟨L, 0, none⟩) [r0, r1]) (h2 : NRows W (some ⟨g, 0, none⟩) [r2]) (ty : TypeId) :
    ∃ cap W', (Builtin.append_ #[26, 26] ty #[.slice (some ⟨L, 0, none⟩) 2 2, .slice (some ⟨g, 0, none⟩) 1 1]).run Tryd.prog W = .ok (.slice (some ⟨W.heap.size, 0, none⟩) 3 cap) W' ∧ Below W.heap.size W W' ∧ NRows W' (some ⟨W.heap.size, 0, none⟩) [r0, r1, r2] := by
  obtain ⟨_, b0, c0, e0, k0, d0⟩ := h 0 (by simp)
  obtain ⟨_, b1, c1, e1, k1, d1⟩ := h 1 (by simp)
  obtain ⟨_, b2, c2, e2, k2, d2⟩ := h2 0 (by simp)
  cases e0; cases e1; cases e2
  simp only [List.getD_cons_zero, List.getD_cons_succ] at k0 k1 k2 d0 d1 d2
  obtain ⟨i0, hi, hz0, hz1, hz2⟩ := info_parts info_rows
  have hr := run_append_grow (P := Tryd.prog) W 26 ty 25 i0 (.slice none 0 0) Tryd.underlying26 hi hz0 ⟨L, 0, none⟩ 2 2 [.slice b0 r0.length c0, .slice b1 r1.length c1] (by rw [hz1]; rfl)
    (fun j v hj => by
      match j, hj with
      | 0, hj => cases hj; exact k0
      | 1, hj => cases hj; exact k1
      | j + 2, hj => simp at hj) ⟨g, 0, none⟩ 1 1 [.slice b2 r2.length c2] (by rw [hz1]; rfl)
    (fun j v hj => by
      match j, hj with
      | 0, hj => cases hj; exact k2
      | j + 1, hj => simp at hj) (by decide) (by decide) (by rw [hz2]; decide)
  have hr0 := hr
  clear hr
  have hb : Below W.heap.size W (W.drew.alloc (.cells ([Value.slice b0 r0.length c0, .slice b1 r1.length c1].toArray ++ [Value.slice b2 r2.length c2].toArray ++ Builtin.zeroCells (Value.slice none 0 0).cells (grownCap W (2 + 1) 2 25 - (2 + 1))) 25))   := (below_drewN' W 1 W.heap.size).trans ((below_box W.drew _).mono (Nat.le_refl _))
  refine ⟨_, _, hr0, hb, fun j hj => ?_⟩
  have hc := fun j => cell_of_row _ W.heap.size j _ _ _ (heap_alloc_new W.drew (.cells ([Value.slice b0 r0.length c0, .slice b1 r1.length c1].toArray ++ [Value.slice b2 r2.length c2].toArray ++ Builtin.zeroCells (Value.slice none 0 0).cells (grownCap W (2 + 1) 2 25 - (2 + 1))) 25))
  match j, hj with
  | 0, _ => exact ⟨_, b0, c0, rfl, by rw [show (⟨W.heap.size, 0, none⟩ : Addr).add 0 = ⟨W.heap.size, 0, none⟩ from rfl, hc 0, Array.getElem?_append_left (by simp)]; rfl, d0.below hb⟩
  | 1, _ => exact ⟨_, b1, c1, rfl, by rw [show (⟨W.heap.size, 0, none⟩ : Addr).add 1 = ⟨W.heap.size, 1, none⟩ from rfl, hc 1, Array.getElem?_append_left (by simp)]; rfl, d1.below hb⟩
  | 2, _ => exact ⟨_, b2, c2, rfl, by rw [show (⟨W.heap.size, 0, none⟩ : Addr).add 2 = ⟨W.heap.size, 2, none⟩ from rfl, hc 2, Array.getElem?_append_left (by simp)]; rfl, d2.below hb⟩
set_option maxHeartbeats 8000000 in
set_option maxRecDepth 100000 in
theorem works_any (w : World) (hl : Laid w) : Calls Tryd.prog 11 #[] w fun e w' => e = .returned (.bool true) ∧ Below w.heap.size w w' := by
  have HS := Lib.hid (St.mk (Below.refl _ w) hl)
  clear hl
  go_enter Tryd.func11, Tryd.ntmps11
  go_wp2_with fail
  have HL : Hid (NRows (((w.alloc (Obj.cells #[.int .u64 1, .int .u64 2] 24)).alloc (Obj.cells #[.int .u64 2, .int .u64 4] 24)).alloc (Obj.cells #[.slice (some ⟨w.heap.size, 0, none⟩) 2 2, .slice (some ⟨w.heap.size + 1, 0, none⟩) 2 2] 25)) (some ⟨w.heap.size + 1 + 1, 0, none⟩) [[1, 2], [2, 4]]) :=
    Lib.hid (nrows2 ((row_at [1, 2] rfl rfl).alloc _) (row_at [2, 4] (by simp) rfl) rfl rfl (by simp))
  have HS1 : Hid (St w (((w.alloc (Obj.cells #[.int .u64 1, .int .u64 2] 24)).alloc (Obj.cells #[.int .u64 2, .int .u64 4] 24)).alloc (Obj.cells #[.slice (some ⟨w.heap.size, 0, none⟩) 2 2, .slice (some ⟨w.heap.size + 1, 0, none⟩) 2 2] 25))) := Lib.hid (((HS.out.alloc _).alloc _).alloc _)
  have hz : (((w.alloc (Obj.cells #[.int .u64 1, .int .u64 2] 24)).alloc (Obj.cells #[.int .u64 2, .int .u64 4] 24)).alloc (Obj.cells #[.slice (some ⟨w.heap.size, 0, none⟩) 2 2, .slice (some ⟨w.heap.size + 1, 0, none⟩) 2 2] 25)).heap.size = w.heap.size + 1 + 1 + 1 := by simp
  clear HS
  generalize (((w.alloc (Obj.cells #[.int .u64 1, .int .u64 2] 24)).alloc (Obj.cells #[.int .u64 2, .int .u64 4] 24)).alloc (Obj.cells #[.slice (some ⟨w.heap.size, 0, none⟩) 2 2, .slice (some ⟨w.heap.size + 1, 0, none⟩) 2 2] 25)) = W1 at *
  rw [← hz]
  clear hz
  generalize w.heap.size + 1 + 1 = L at *
  refine (solve_is [[1, 2], [2, 4]] [3, 6] [3, 0] 7 (by decide +kernel) (by decide +kernel) (by decide) (by decide +kernel) (by decide +kernel) _ _ _ _ _ _ _ 2 rfl rfl (by decide +kernel) (HS1.out.alloc _).laid (HL.out.alloc _) (rd_at [3, 6] rfl rfl)).mono ?_
  rintro e w2 ⟨X, rfl, hx, hb⟩
  have HX2 := Lib.hid hx
  have HS2 := Lib.hid ((HS1.out.alloc _).step hb)
  have HL2 := Lib.hid ((HL.out.alloc _).below hb)
  clear hx hb HS1 HL
  go_wp2_with fail
  refine (solve_none [[1, 2], [2, 4]] [3, 5] 7 (by decide +kernel) (by decide +kernel) (by decide) (by decide +kernel) _ _ _ _ _ _ _ rfl rfl (HS2.out.alloc _).laid (HL2.out.alloc _) (rd_at [3, 5] rfl rfl)).mono ?_
  rintro e w3 ⟨rfl, hb⟩
  have HX3 := Lib.hid ((HX2.out.alloc _).below hb)
  have HS3 := Lib.hid ((HS2.out.alloc _).step hb)
  have HL3 := Lib.hid ((HL2.out.alloc _).below hb)
  clear hb HS2 HL2 HX2
  go_wp2_with fail
  refine (solve_is [[0, 2]] [3] [0, 5] 7 (by decide +kernel) (by decide +kernel) (by decide) (by decide +kernel) (by decide +kernel) _ _ _ _ _ _ _ 2 rfl rfl (by decide +kernel) (((HS3.out.alloc _).alloc _).alloc _).laid ((nrows1 (row_at [0, 2] rfl rfl) rfl (by simp)).alloc _) (rd_at [3] (by simp) rfl)).mono ?_
  rintro e w4 ⟨Y, rfl, hy, hb⟩
  have HY4 := Lib.hid hy
  have HX4 := Lib.hid ((((HX3.out.alloc _).alloc _).alloc _).below hb)
  have HS4 := Lib.hid ((((HS3.out.alloc _).alloc _).alloc _).step hb)
  have HL4 := Lib.hid ((((HL3.out.alloc _).alloc _).alloc _).below hb)
  clear hy hb HS3 HL3 HX3
  go_wp2_with fail
  refine (solve_no _ _ _ _ _ _ 6 (MM.prime_is (by decide +kernel)) _ HS4.out.laid).mono ?_
  rintro e w5 ⟨rfl, hb⟩
  have HY5 := Lib.hid (HY4.out.below hb)
  have HX5 := Lib.hid (HX4.out.below hb)
  have HS5 := Lib.hid (HS4.out.step hb)
  have HL5 := Lib.hid (HL4.out.below hb)
  clear hb HS4 HL4 HX4 HY4
  go_wp2_with fail
  refine (rank_is [[1, 2], [2, 4]] 7 1 (by decide +kernel) (by decide +kernel) (by decide +kernel) _ _ _ _ rfl HS5.out.laid HL5.out).mono ?_
  rintro e w6 ⟨rfl, hb⟩
  have HY6 := Lib.hid (HY5.out.below hb)
  have HX6 := Lib.hid (HX5.out.below hb)
  have HS6 := Lib.hid (HS5.out.step hb)
  have HL6 := Lib.hid (HL5.out.below hb)
  clear hb HS5 HL5 HX5 HY5
  obtain ⟨cap, w7, hr, hb7, hl7⟩ := nrows_append ((HL6.out.alloc (.cells #[.int .u64 0, .int .u64 1] 24)).alloc (.cells #[.slice (some ⟨w6.heap.size, 0, none⟩) 2 2] 25)) (nrows1 (b := w6.heap.size + 1) (row_at (W := w6) [0, 1] rfl rfl) rfl (by simp)) 26
  have HY7 := Lib.hid (((HY6.out.alloc _).alloc _).below hb7)
  have HX7 := Lib.hid (((HX6.out.alloc _).alloc _).below hb7)
  have HS7 := Lib.hid (((HS6.out.alloc _).alloc _).step hb7)
  have HL7 := Lib.hid (((HL6.out.alloc _).alloc _).below hb7)
  rw [World.size_alloc, World.size_alloc] at hl7
  have HA7 := Lib.hid hl7
  clear hb7 hl7 HS6 HL6 HX6 HY6
  go_wp2_with (at_builtin; (refine wpList_append_if _ ?_ _ _ _ _ rfl _ _ rfl rfl _ _ hr ?_; first | rfl | (simp [Region.wanted, yielded]; done)))
  clear hr
  refine (rank_is [[1, 2], [2, 4], [0, 1]] 7 2 (by decide +kernel) (by decide +kernel) (by decide +kernel) _ _ _ _ rfl HS7.out.laid HA7.out).mono ?_
  rintro e w8 ⟨rfl, hb⟩
  have HY8 := Lib.hid (HY7.out.below hb)
  have HX8 := Lib.hid (HX7.out.below hb)
  have HS8 := Lib.hid (HS7.out.step hb)
  have HL8 := Lib.hid (HL7.out.below hb)
  clear hb HS7 HL7 HX7 HY7 HA7
  go_wp2_with fail
  refine (hangs_is [[1, 2]] [3, 6] 7 true (by decide +kernel) (by decide +kernel) (by decide +kernel) (by decide +kernel) _ _ _ _ _ _ _ rfl rfl (HS8.out.alloc _).laid (nrows_take (HL8.out.alloc _) 1) (rd_at [3, 6] rfl rfl)).mono ?_
  rintro e w9 ⟨rfl, hb⟩
  have HY9 := Lib.hid ((HY8.out.alloc _).below hb)
  have HX9 := Lib.hid ((HX8.out.alloc _).below hb)
  have HS9 := Lib.hid ((HS8.out.alloc _).step hb)
  have HL9 := Lib.hid ((HL8.out.alloc _).below hb)
  clear hb HS8 HL8 HX8 HY8
  go_wp2_with fail
  refine (hangs_is [] [0, 0] 7 true (by decide +kernel) (by decide +kernel) (by decide +kernel) (by decide +kernel) _ _ _ _ _ _ _ rfl rfl (HS9.out.alloc _).laid (nrows_nil _ _) (rd_at [0, 0] rfl rfl)).mono ?_
  rintro e w10 ⟨rfl, hb⟩
  have HY10 := Lib.hid ((HY9.out.alloc _).below hb)
  have HX10 := Lib.hid ((HX9.out.alloc _).below hb)
  have HS10 := Lib.hid ((HS9.out.alloc _).step hb)
  have HL10 := Lib.hid ((HL9.out.alloc _).below hb)
  clear hb HS9 HL9 HX9 HY9
  go_wp2_with fail
  refine (hangs_is [[1, 2]] [1] 7 false (by decide +kernel) (by decide +kernel) (by decide +kernel) (by decide +kernel) _ _ _ _ _ _ _ rfl rfl (HS10.out.alloc _).laid (nrows_take (HL10.out.alloc _) 1) (rd_at [1] rfl rfl)).mono ?_
  rintro e w11 ⟨rfl, hb⟩
  have HY11 := Lib.hid ((HY10.out.alloc _).below hb)
  have HX11 := Lib.hid ((HX10.out.alloc _).below hb)
  have HS11 := Lib.hid ((HS10.out.alloc _).step hb)
  clear hb HS10 HL10 HX10 HY10
  go_wp2_with fail
  refine (nums_yes _ _ _ _ _ (MM.ofL [3, 0]) (by decide) _ (row_rd (HX11.out.alloc _)) (rd_at [3, 0] rfl rfl)).mono ?_
  rintro e w12 ⟨rfl, hb⟩
  have HY12 := Lib.hid ((HY11.out.alloc _).below hb)
  have HS12 := Lib.hid ((HS11.out.alloc _).step hb)
  clear hb HS11 HX11 HY11
  go_wp2_with fail
  refine (nums_yes _ _ _ _ _ (MM.ofL [0, 5]) (by decide) _ (row_rd (HY12.out.alloc _)) (rd_at [0, 5] rfl rfl)).mono ?_
  rintro e w13 ⟨rfl, hb⟩
  have HS13 := Lib.hid ((HS12.out.alloc _).step hb)
  clear hb HS12 HY12
  go_wp2_with fail
  go_ret
  exact ⟨rfl, HS13.out.below⟩
end M
end Go.Proofs.YtflkmjihgfjofaaDoor
