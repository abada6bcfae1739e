/- The texts DskW3, DskW4, one behind the other. -/
import Derived.Test.YtoacmingocmaaaaGreatDoorWB2
import Derived.Test.YtoacmingocmaaaaGreatDoorWB3
import Derived.Deep.AppendLies
/- The walk of a write to a disk. -/
namespace Go.Proofs.YtoacmingocmaaaaGreatDoor
open Go Go.RowKit Go.Lib
namespace M
open MM
/-- One write more in a cache's row. -/
theorem cache_more {w : World} {v : Value} {c : List (Int × By)} (h : CacheAt w v c) (x : Int × By) (hl : c.length ≤ 1000000) (ty : TypeId) :
    ∃ v' w5, (Builtin.append_ #[55, 55] ty #[v, .slice (some ⟨w.heap.size, 0, none⟩) 1 1]).run Tryz.prog (w.alloc (.cells #[.int .i64 x.1, .string ⟨x.2.toArray⟩] 77)) = .ok v' w5 ∧ CacheAt w5 v' (c ++ [x]) ∧
      (w.alloc (.cells #[.int .i64 x.1, .string ⟨x.2.toArray⟩] 77)).grownBy w5 v.ownBlock ∧ (v'.ownBlock = v.ownBlock ∨ v'.ownBlock = some (w.heap.size + 1)) := by
  obtain ⟨i0, hi, hz0, hz1, hz2⟩ := info_parts info_w
  have h2 : (w.alloc (.cells #[.int .i64 x.1, .string ⟨x.2.toArray⟩] 77)).ownsRow 0 77 2 v c.length (cellsW c) := World.ownsRow.alloc h _
  obtain ⟨v', w5, hr, ho, hg, _, hown⟩ := run_append_own_at (P := Tryz.prog) (w.alloc (.cells #[.int .i64 x.1, .string ⟨x.2.toArray⟩] 77)) 0 55 ty 77 i0 _ 2 24 Tryz.underlying55 hi hz0 hz1 hz2 rfl (by decide) v c.length (cellsW c) h2 ⟨w.heap.size, 0, none⟩ 1 1 [.int .i64 x.1, .string ⟨x.2.toArray⟩] rfl
    (World.news_of_block (cs := #[.int .i64 x.1, .string ⟨x.2.toArray⟩]) (t := 77) (fr := (0, 0)) (heap_alloc_new _ _)) (by simp [Value.oneCell']) (by unfold maxLen; omega) (by omega) (Nat.zero_le _)
  refine ⟨v', w5, hr, ?_, hg, ?_⟩
  · unfold CacheAt
    rw [cellsW_snoc, List.length_append]
    exact ho
  · rw [World.size_alloc] at hown
    exact hown
section
variable {w w1 w3 w5 : World} {F : Nat → Prop} {B N : Nat} {s : Dsk} {m v v' : Value} {fu : Bool} {le : Int} {n : Nat}
/-- The disk with that write. -/
theorem Lies.more (h : Lies w1 F B N s m v fu le n) (hd : Dk w1 F B N s) (hN : N + 1 ≤ 1000000) {x : Int × By} (hs : sec x.1 = true) (hx : x.2.length = 512) (hb : Below w1.heap.size w1 w3)
    (hc : CacheAt w5 v' (s.c ++ [x])) (hg : (w3.alloc (.cells #[.int .i64 x.1, .string ⟨x.2.toArray⟩] 77)).grownBy w5 v.ownBlock) (ho : v'.ownBlock = v.ownBlock ∨ v'.ownBlock = some (w3.heap.size + 1)) :
    Did w1 F B (N + 1) { s with c := s.c ++ [x] } (w5.setCell ⟨B, 1, none⟩ v') := by
  have hb2 : Below w1.heap.size w1 (w3.alloc (.cells #[.int .i64 x.1, .string ⟨x.2.toArray⟩] 77)) := bnext hb (below_box _ _)
  have hsz : w1.heap.size ≤ w5.heap.size := Nat.le_trans hb2.size hg.size
  have same : ∀ k, k < w1.heap.size → v.ownBlock ≠ some k → w5.heap[k]? = w1.heap[k]? := fun k hk hne => (hg.block k (Nat.lt_of_lt_of_le hk hb2.size) (fun e => hne e.symm)).trans (hb2.block k hk)
  have hBl := hd.old B hd.FB
  have hbox : w5.heap[B]? = _ := (same B hBl h.vB).trans h.box
  have hvB : v'.ownBlock ≠ some B := fun e => by
    rcases ho with h1 | h1
    · exact h.vB (h1 ▸ e)
    · rw [h1] at e
      have := hb.size
      injection e with e
      omega
  refine ⟨fun k => F k ∨ v'.ownBlock = some k, ⟨⟨hd.wf.p, hd.wf.c.snoc hs hx⟩, ⟨m, v', fu, le, n, box_set hbox 1 v', h.fuse, hc.of fun g hg' => set_other _ _ _ _ (fun e => hvB (e ▸ hg')), h.plat.of fun g hg' => ?_, ?_, fun g hg' => .inr hg', fun g hg' => .inl (h.mF g hg')⟩, .inl hd.FB, ?_, hN⟩, ?_, ?_⟩
  · have hgB : g ≠ B := fun e => h.mB (e ▸ hg')
    rw [set_other _ _ _ _ hgB]
    refine same g (hd.old g (h.mF g hg')) fun e => ?_
    rcases h.cache.rd with ⟨rfl, _⟩ | ⟨g2, cap, rfl, _, _, ⟨cs, hcs⟩, _⟩
    · cases e
    · obtain rfl : g2 = g := by simpa [Value.ownBlock] using e
      rcases h.plat with ⟨rfl, _⟩ | ⟨g3, rfl, D, ⟨es, clock, hg3, _⟩, _⟩
      · cases hg'
      · obtain rfl : g3 = g2 := by simpa using hg'
        rw [hcs] at hg3; cases hg3
  · have := h.few
    simp only [List.length_append, List.length_cons, List.length_nil]
    omega
  · rintro k (hk | hk)
    · have := hd.old k hk
      rw [World.size_setCell]; omega
    · rw [World.size_setCell]
      exact hc.lt hk
  · rintro k (hk | hk)
    · exact .inl hk
    · rcases ho with h1 | h1
      · exact .inl (h.vF k (h1 ▸ hk))
      · rw [h1] at hk
        have := hb.size
        injection hk with hk
        exact .inr (by omega)
  · have h1 : Chg F w1 w5 := (Chg.of_below F hb2).grown hg fun k hk => .inl (h.vF k hk)
    exact h1.setCell (.inl hd.FB) v'
set_option maxRecDepth 100000 in
set_option maxHeartbeats 2000000 in
theorem write_any (h : Dk w F B N s) (hN : N + 1 ≤ 1000000) (k : Int) (t : By) : Calls Tryz.prog 22 #[ptr B, .int .i64 k, .string ⟨t.toArray⟩] w fun e w' => e = .returned (.int .i64 ((s.write k t).1 : Int)) ∧ Did w F B (N + 1) (s.write k t).2 w' := by
  have HU : Hid (Did w F B (N + 1) s w) := Lib.hid (.refl (h.up (Nat.le_succ N) hN))
  have hrun := runOut_any h
  obtain ⟨m, v, fu, le, n, h1⟩ := h.lies
  have hb := h1.box
  obtain ⟨c0, c1, c2, c3, c4, fr⟩ := box_cells hb
  have H := Lib.hid h
  have HE := exists_any k
  clear h h1 hb
  unfold Dsk.write
  by_cases hd : s.dead = true
  · rw [if_pos hd]
    rw [hd] at c4
    go_enter Tryz.func22, Tryz.ntmps22
    go_wp2_with fail
    go_ret
    exact ⟨rfl, HU.out⟩
  have hd' : s.dead = false := by simpa using hd
  rw [if_neg hd]
  rw [hd'] at c4
  have hrun := hrun hd'
  clear hd
  by_cases hk : sec k = false
  · rw [if_pos hk]
    rw [hk] at HE
    go_enter Tryz.func22, Tryz.ntmps22
    go_wp2_with (go_at_call 40; (with_reducible refine (HE.at _).mono ?_); rintro e w' ⟨rfl, n1, rfl⟩)
    go_ret
    exact ⟨rfl, HU.out.step (below_drewN _ _)⟩
  have hk' : sec k = true := by simpa using hk
  rw [if_neg hk]
  rw [hk'] at HE
  clear hk
  by_cases hl : 512 < t.length
  · rw [if_pos hl]
    have hlI : (512 : Int) < (t.length : Int) := by omega
    go_enter Tryz.func22, Tryz.ntmps22
    go_wp2_with (go_at_call 40; (with_reducible refine (HE.at _).mono ?_); rintro e w' ⟨rfl, n1, rfl⟩)
    go_ret
    exact ⟨rfl, HU.out.step (below_drewN _ _)⟩
  rw [if_neg hl]
  have hlI : ¬ (512 : Int) < (t.length : Int) := by omega
  have hR : ∀ i : Nat, Calls Tryz.prog 49 #[ptr B] (w.drewN i) fun e w' => e = .returned (.bool (outB s)) ∧ Dk w' F B N (outS s) ∧ Chg F w w' := fun i => (runOut_any (H.out.drewN i) hd').mono fun e w' ⟨h1, h2, h3⟩ => ⟨h1, h2, ((Chg.refl F w).drewN i).trans h3 fun _ h => .inl h⟩
  have HR := Lib.hid hR
  have HP := padded_any t (by omega)
  clear hrun hR
  by_cases hf : s.fuse = some 0
  · rw [if_pos hf]
    have e1 : outB s = true := by unfold outB; simp [hf]
    have e2 : outS s = s.died := by unfold outS; rw [if_pos hf]
    rw [e1, e2] at HR
    go_enter Tryz.func22, Tryz.ntmps22
    go_wp2_with (first
      | (go_at_call 40; (with_reducible refine (HE.at _).mono ?_); rintro e w' ⟨rfl, n1, rfl⟩)
      | (go_at_call 49; (with_reducible refine (HR.out _).mono ?_); rintro e w1 ⟨rfl, hdk, hch⟩))
    go_ret
    exact ⟨rfl, F, hdk.up (Nat.le_succ N) hN, fun _ h => .inl h, hch⟩
  rw [if_neg hf]
  have e1 : outB s = false := by unfold outB; simp [hf]
  have e2 : outS s = s.burnt := by unfold outS; rw [if_neg hf]
  rw [e1, e2] at HR
  have hx512 := full_len (s := t) (by omega)
  have hsc : s.c = s.burnt.c := rfl
  rw [hsc]
  have hbd : s.burnt.dead = false := hd'
  clear e1 e2 hf hl hsc
  generalize s.burnt = q at *
  generalize full t = u at *
  go_enter Tryz.func22, Tryz.ntmps22
  go_upto_region 11 with (first
    | (go_at_call 40; (with_reducible refine (HE.at _).mono ?_); rintro e w' ⟨rfl, n1, rfl⟩)
    | (go_at_call 49; (with_reducible refine (HR.out _).mono ?_); rintro e w1 ⟨rfl, hdk, hch⟩; have HDK := Lib.hid hdk; have HCH := Lib.hid hch; clear hdk hch))
  obtain ⟨m1, v1, fu1, le1, n1', hl1⟩ := HDK.out.lies
  have hbx := hl1.box
  rw [hbd] at hbx
  refine RK.region (fun u => u.heap[B]? = some (.cells #[m1, v1, .bool fu1, .int .i64 le1, .bool false] 57 (0, 0))) 13 (by kernel_rfl) ?_
  have HS0 : w1.drew.heap[B]? = some (.cells #[m1, v1, .bool fu1, .int .i64 le1, .bool false] 57 (0, 0)) := hbx
  refine RK.Any.take 0 21 (ptr B) rfl rfl (by kernel_rfl) (by kernel_rfl) (by kernel_rfl) (by kernel_rfl) (fun _ _ _ h => h) (by rfl) (fun W' hb => ?_) HS0 ?_
  · go_simp
  simp only [List.setIfInBounds_toArray, List.set_cons_zero, List.set_cons_succ]
  refine RK.Any.take 1 22 (ptr B) rfl rfl (by kernel_rfl) (by kernel_rfl) (by kernel_rfl) (by kernel_rfl) (fun _ _ _ h => h) (by rfl) (fun W' hb => ?_) HS0 ?_
  · go_simp
  simp only [List.setIfInBounds_toArray, List.set_cons_zero, List.set_cons_succ]
  refine RK.Any.take 2 23 (ptr B) rfl rfl (by kernel_rfl) (by kernel_rfl) (by kernel_rfl) (by kernel_rfl) (fun _ _ _ h => h) (by rfl) (fun W' hb => ?_) HS0 ?_
  · go_simp
  simp only [List.setIfInBounds_toArray, List.set_cons_zero, List.set_cons_succ]
  refine RK.Any.take 3 24 (.pointer (some ⟨B, 1, none⟩)) rfl rfl (by kernel_rfl) (by kernel_rfl) (by kernel_rfl) (by kernel_rfl) (fun _ _ _ h => h) (by rfl) (fun W' hb => ?_) HS0 ?_
  · go_simp
  simp only [List.setIfInBounds_toArray, List.set_cons_zero, List.set_cons_succ]
  refine RK.Any.take 4 25 (v1) rfl rfl (by kernel_rfl) (by kernel_rfl) (by kernel_rfl) (by kernel_rfl) (fun _ _ _ h => h) (by rfl) (fun W' hb => ?_) HS0 ?_
  · have c := (box_cells hb).2.1; go_simp
  simp only [List.setIfInBounds_toArray, List.set_cons_zero, List.set_cons_succ]
  refine RK.Any.take 5 26 (.int .i64 k) rfl rfl (by kernel_rfl) (by kernel_rfl) (by kernel_rfl) (by kernel_rfl) (fun _ _ _ h => h) (by rfl) (fun W' hb => ?_) HS0 ?_
  · go_simp
  simp only [List.setIfInBounds_toArray, List.set_cons_zero, List.set_cons_succ]
  refine RK.Any.take 6 27 (.string ⟨t.toArray⟩) rfl rfl (by kernel_rfl) (by kernel_rfl) (by kernel_rfl) (by kernel_rfl) (fun _ _ _ h => h) (by rfl) (fun W' hb => ?_) HS0 ?_
  · go_simp
  simp only [List.setIfInBounds_toArray, List.set_cons_zero, List.set_cons_succ]
  have hb0 : Below w1.heap.size w1 w1.drew := below_drewN w1 1
  generalize w1.drew = w2 at *
  refine RK.Any.call 7 28 41 #[.string ⟨t.toArray⟩] (by kernel_rfl) rfl rfl (by rfl) (by go_simp) (Calls.mono (HP.at _) ?_)
  rintro e w3 ⟨rfl, hb3⟩
  have HS1 : w3.heap[B]? = _ := (hb3.block B (row_lt HS0)).trans HS0
  refine ⟨_, rfl, fun _ => HS1, ?_⟩
  simp only [List.setIfInBounds_toArray, List.set_cons_zero, List.set_cons_succ]
  have hb13 := bnext hb0 hb3
  have HC3 : CacheAt w3 v1 q.c := hl1.cache.of fun g hg => hb13.block g (HDK.out.old g (hl1.vF g hg))
  have hlen : q.c.length ≤ 1000000 := by have := hl1.few; omega
  obtain ⟨v', w5, hrun, hc5, hg5, ho5⟩ := cache_more HC3 (k, u) hlen 55
  obtain ⟨g', cap', rfl⟩ : ∃ g' cap', v' = .slice (some ⟨g', 0, none⟩) (q.c ++ [(k, u)]).length cap' := by
    rcases hc5.rd with ⟨_, hn⟩ | ⟨g', cap', hv, _⟩
    · simp at hn
    · exact ⟨g', cap', hv⟩
  generalize (q.c ++ [(k, u)]).length = l' at *
  refine RK.Any.exec 8 29 (.agg #[.int .i64 k, .string ⟨u.toArray⟩]) (w1 := w3) (by kernel_rfl) rfl rfl (by rfl) (by go_simp) HS1 ?_
  simp only [List.setIfInBounds_toArray, List.set_cons_zero, List.set_cons_succ]
  have hbA := below_box w3 (.cells #[.int .i64 k, .string ⟨u.toArray⟩] 77)
  have HS2 : (w3.alloc (.cells #[.int .i64 k, .string ⟨u.toArray⟩] 77)).heap[B]? = _ := (hbA.block B (row_lt HS1)).trans HS1
  refine RK.Any.exec 9 30 (.slice (some ⟨w3.heap.size, 0, none⟩) 1 1) (w1 := w3.alloc (.cells #[.int .i64 k, .string ⟨u.toArray⟩] 77)) (by kernel_rfl) rfl rfl (by rfl) (by go_simp) HS2 ?_
  simp only [List.setIfInBounds_toArray, List.set_cons_zero, List.set_cons_succ]
  have HS3 : w5.heap[B]? = _ := (hg5.block B (row_lt HS2) (fun e => hl1.vB e.symm)).trans HS2
  refine RK.Any.exec 10 31 (.slice (some ⟨g', 0, none⟩) l' cap') (w1 := w5) (by kernel_rfl) rfl rfl (by rfl) (RK.exec_append _ _ _ _ rfl _ _ rfl rfl hrun) HS3 ?_
  simp only [List.setIfInBounds_toArray, List.set_cons_zero, List.set_cons_succ]
  refine RK.Any.exec 11 32 (ptr B) (w1 := w5) (by kernel_rfl) rfl rfl (by rfl) (by go_simp) HS3 ?_
  simp only [List.setIfInBounds_toArray, List.set_cons_zero, List.set_cons_succ]
  refine RK.Any.exec 12 33 (.pointer (some ⟨B, 1, none⟩)) (w1 := w5) (by kernel_rfl) rfl rfl (by rfl) (by go_simp) HS3 ?_
  simp only [List.setIfInBounds_toArray, List.set_cons_zero, List.set_cons_succ]
  have cq := (box_cells HS3).2.1
  have fq := (box_cells HS3).2.2.2.2.2 1
  refine RK.Any.store 13 (w1 := w5.setCell ⟨B, 1, none⟩ (.slice (some ⟨g', 0, none⟩) l' cap')) (by kernel_rfl) rfl rfl (by rfl) (by go_simp) (fun e => absurd rfl e) ?_
  refine RK.Any.done (by kernel_rfl) ?_
  have HF := Lib.hid (hl1.more HDK.out hN hk' hx512 hb13 hc5 hg5 ho5)
  clear HS0 HS1 HS2 HS3 hb3 hb13 HC3 hlen hrun hc5 hg5 ho5 hbA cq fq hl1 hbx hb0
  generalize w5.setCell ⟨B, 1, none⟩ (.slice (some ⟨g', 0, none⟩) l' cap') = w6 at *
  go_wp2_with fail
  go_ret
  obtain ⟨F', h1, h2, h3⟩ := HF.out
  refine ⟨rfl, F', h1, fun k hk => (h2 k hk).imp id fun h => Nat.le_trans HCH.out.size h, HCH.out.trans h3 fun _ h => .inl h⟩
end
end M
end Go.Proofs.YtoacmingocmaaaaGreatDoor
/- The walk of what puts a write on the platter. -/
namespace Go.Proofs.YtoacmingocmaaaaGreatDoor
open Go Go.RowKit Go.Lib
namespace RK
/-- Number i alone may come, and makes a value that nobody takes, and a world. -/
theorem Any.exec0 {P : Program} {md : Region.Mode} {ops : Array Oper} {Q : Exit → Act → World → Prop} {S : World → Prop} {st : Nat} {s : Array Bool} {a : Act} {w w1 : World} {f : Nat} (i : Nat) {o : Oper} (v : Value) (hr : Region.ready md ops s = [i]) (hi : ops[i]? = some o) (hd : o.dst = none) (hw : Region.wanted o (yielded ops a.tmps) = true)
    (he : (execOp a.eval o).run P w = .ok (.value v) w1) (hS : i ≠ st → S w1) (h : Any P md ops Q S st f (s.setIfInBounds i true) a w1) : Any P md ops Q S st (f + 1) s a w :=
  ⟨fun e => (by rw [hr] at e; cases e), fun j hj => by
    rw [hr] at hj
    obtain rfl : j = i := by simpa using hj
    unfold wpOp
    simp only [hi, hw, if_true]
    refine .inl ?_
    unfold Oper.wp
    rw [he, Oper.upon_value, hd]
    exact ⟨hS, h⟩⟩
theorem exec_update {P : Program} {o : Oper} {a : Act} {w w' : World} (m x v : Operand) (t : TypeId) (ho : o.op = .mapUpdate t m x v) (vm vx vv : Value) (hm : a.eval m = vm) (hx : a.eval x = vx) (hv : a.eval v = vv)
    (hr : (Instr.mapUpdate t vm vx vv).run P w = .ok () w') : (execOp a.eval o).run P w = .ok .skip w' := by
  unfold execOp
  simp only [ho, hm, hx, hv]
  simp [hr, Result.andThen]
theorem exec_delete {P : Program} {o : Oper} {a : Act} {w w' : World} {v' : Value} (s x : Operand) (t tn : TypeId) (ho : o.op = .call { callee := .builtin .delete, args := #[s, x], argTypes := #[t, tn] }) (vs vx : Value) (hs : a.eval s = vs) (hx : a.eval x = vx)
    (hr : (Builtin.delete_ #[t, tn] o.type #[vs, vx]).run P w = .ok v' w') : (execOp a.eval o).run P w = .ok (.value v') w' := by
  unfold execOp
  simp only [ho, resolve, invoke, builtin, Sem.run_bind, Sem.run_pure, Result.andThen_ok, List.map_toArray, List.map_cons, List.map_nil, hs, hx, hr]
end RK
namespace M
open MM
theorem list_toList (l : List UInt8) : (⟨l.toArray⟩ : ByteArray).toList = l := Lib.toList_data _
theorem dropWhile_nil (p : UInt8 → Bool) : ∀ (l : List UInt8), l.dropWhile p = [] ↔ ∀ x ∈ l, p x = true
  | [] => by simp
  | x :: l => by
    rw [List.dropWhile_cons]
    by_cases h : p x = true
    · rw [if_pos h, dropWhile_nil p l]; simp [h]
    · rw [if_neg h]; simp [h]
theorem trim_zero {t : By} (ht : t.length = 512) : Lib.trimLeftB t 0 = [] ↔ t = zero := by
  unfold Lib.trimLeftB
  rw [dropWhile_nil]
  constructor
  · intro h
    unfold zero
    rw [← ht]
    exact List.eq_replicate_iff.2 ⟨rfl, fun b hb => by simpa using h b hb⟩
  · rintro rfl b hb
    have := (List.mem_replicate.1 hb).2
    simpa using this
/-- A write's struct in a box. -/
theorem load_w {w : World} {g : Nat} {k : Int} {t : By} (h : w.heap[g]? = some (.cells #[.int .i64 k, .string ⟨t.toArray⟩] 77 (0, 0))) {o : Oper} {ev : Operand → Value} {x : Operand} (ho : o.op = .load 77 x) (hx : ev x = .pointer (some ⟨g, 0, none⟩)) : (execOp ev o).run Tryz.prog w = .ok (.value (wv k t)) w := by
  unfold execOp
  simp only [ho, hx, Instr.loadAt, Instr.sureAddr, Sem.run_bind, Sem.run_pure, Result.andThen_ok, run_loadVar_row w g 77 77 #[.int .i64 k, .string ⟨t.toArray⟩] (0, 0) _ h Tryz.underlying77 rfl (by kernel_rfl)]
section
variable {w w1 w2 w' : World} {F F' : Nat → Prop} {B N n' : Nat} {s : Dsk} {m v m' : Value} {fu : Bool} {le : Int} {n : Nat} {p' : Int → By}
/-- No row of writes has turned. -/
def SameW (w w' : World) : Prop := ∀ (g : Nat) (cs : Array Value), w.heap[g]? = some (.cells cs 77 (0, 0)) → w'.heap[g]? = some (.cells cs 77 (0, 0))
theorem SameW.refl (w : World) : SameW w w := fun _ _ h => h
theorem SameW.trans {a b c : World} (h : SameW a b) (k : SameW b c) : SameW a c := fun g cs e => k g cs (h g cs e)
theorem SameW.of_below (h : Below w.heap.size w w') : SameW w w' := fun g _ e => (h.block g (row_lt e)).trans e
def DidP (w : World) (F : Nat → Prop) (B N : Nat) (s : Dsk) (w' : World) : Prop := Did w F B N s w' ∧ SameW w w'
/-- What has become of the disk, where only its map has turned. -/
theorem Lies.put (h : Lies w F B N s m v fu le n) (hd : Dk w F B N s) (hN : N + 1 ≤ 1000000) (hp' : PWf p') (hb : w'.heap[B]? = some (.cells #[m', v, .bool fu, .int .i64 le, .bool s.dead] 57 (0, 0))) (hp : PlatAt w' m' n' p') (hn : n' ≤ n + 1)
    (hm : ∀ g, m' = .map (some g) → m = .map (some g) ∨ (w.heap.size ≤ g ∧ g < w'.heap.size)) (hc : Chg (fun k => k = B ∨ m = .map (some k)) w w') : DidP w F B (N + 1) { s with p := p' } w' := by
  refine ⟨⟨fun k => F k ∨ m' = .map (some k), ⟨⟨hp', hd.wf.c⟩, ⟨m', v, fu, le, n', hb, h.fuse, h.cache.of fun g hg => ?_, hp, ?_, fun g hg => .inl (h.vF g hg), fun g hg => .inr hg⟩, .inl hd.FB, ?_, hN⟩, ?_, hc.mono fun k hk => ?_⟩, fun g cs hg => (hc.block g (row_lt hg) ?_).trans hg⟩
  · refine hc.block g (hd.old g (h.vF g hg)) ?_
    rintro (rfl | hg2)
    · exact h.vB hg
    · rcases h.cache.rd with ⟨rfl, _⟩ | ⟨g2, cap, rfl, _, _, ⟨cs, hcs⟩, _⟩
      · cases hg
      · obtain rfl : g2 = g := by simpa [Value.ownBlock] using hg
        rcases h.plat with ⟨rfl, _⟩ | ⟨g3, rfl, D, ⟨es, clock, hg3, _⟩, _⟩
        · cases hg2
        · obtain rfl : g3 = g2 := by simpa using hg2
          rw [hcs] at hg3; cases hg3
  · have := h.few
    show n' + s.c.length ≤ N + 1
    omega
  · rintro k (hk | hk)
    · exact Nat.lt_of_lt_of_le (hd.old k hk) hc.size
    · rcases hm k hk with h1 | h1
      · exact Nat.lt_of_lt_of_le (hd.old k (h.mF k h1)) hc.size
      · exact h1.2
  · rintro k (hk | hk)
    · exact .inl hk
    · rcases hm k hk with h1 | h1
      · exact .inl (h.mF k h1)
      · exact .inr h1.1
  · rcases hk with rfl | hk
    · exact hd.FB
    · exact h.mF k hk
  · rintro (rfl | hm2)
    · rw [h.box] at hg
      injection hg with hg
      injection hg with _ ht _
      exact absurd ht (by decide)
    · rcases h.plat with ⟨rfl, _⟩ | ⟨g3, rfl, D, ⟨es, clock, hg3, _⟩, _⟩
      · cases hm2
      · obtain rfl : g3 = g := by simpa using hm2
        rw [hg] at hg3; cases hg3
set_option maxRecDepth 100000 in
set_option maxHeartbeats 2000000 in
/-- A write that is all 00. -/
theorem put_zero (h : Dk w F B N s) (hN : N + 1 ≤ 1000000) (k : Int) (t : By) (hk : sec k = true) (ht : t = zero) : Calls Tryz.prog 47 #[ptr B, wv k t] w fun e w' => e = .returned (.tuple #[]) ∧ DidP w F B (N + 1) { s with p := upd s.p (k, t) } w' := by
  have hnil : Lib.trimLeftB t 0 = [] := (trim_zero (by rw [ht]; exact zero_len)).2 ht
  have HT := fun u => Tryz.strings_TrimLeft_one ⟨t.toArray⟩ 0 (by decide) u
  rw [show (⟨t.toArray⟩ : ByteArray).data.toList = t from rfl, hnil] at HT
  obtain ⟨m, v, fu, le, n, h1⟩ := h.lies
  have hb := h1.box
  have hbA := below_box w (.cells #[.int .i64 k, .string ⟨t.toArray⟩] 77)
  have hWB := heap_alloc_new w (.cells #[.int .i64 k, .string ⟨t.toArray⟩] 77)
  have hDB := (hbA.block B (row_lt hb)).trans hb
  have HBA := Lib.hid hbA
  have HWB := Lib.hid hWB
  have HDB := Lib.hid hDB
  have HTZ := Lib.hid ht
  have H := Lib.hid h
  have H1 := Lib.hid h1
  clear h h1 hb hbA ht hWB hDB
  go_enter Tryz.func47, Tryz.ntmps47
  go_upto_region 2 with (go_at_call 68; (with_reducible refine (HT _).mono ?_); rintro e w' ⟨rfl, rfl⟩)
  have hDB := HDB.out
  have hWB := HWB.out
  have ht := HTZ.out
  clear HDB HWB HTZ
  generalize w.alloc (.cells #[.int .i64 k, .string ⟨t.toArray⟩] 77) = w1 at *
  obtain ⟨b3, hb3⟩ : ∃ b3, w.heap.size = b3 := ⟨_, rfl⟩
  simp only [hb3] at hWB ⊢
  have HK3 := Lib.hid hb3
  clear hb3
  rcases H1.out.plat with ⟨rfl, hz⟩ | ⟨g, rfl, hm⟩
  · refine RK.region (fun u => u.heap[B]? = some (.cells #[.map none, v, .bool fu, .int .i64 le, .bool s.dead] 57 (0, 0)) ∧ u.heap[b3]? = some (.cells #[.int .i64 k, .string ⟨t.toArray⟩] 77 (0, 0))) 7 (by kernel_rfl) ?_
    have HS0 : w1.drew.heap[B]? = some (.cells #[.map none, v, .bool fu, .int .i64 le, .bool s.dead] 57 (0, 0)) ∧ w1.drew.heap[b3]? = some (.cells #[.int .i64 k, .string ⟨t.toArray⟩] 77 (0, 0)) := ⟨hDB, hWB⟩
    refine RK.Any.take 0 8 (ptr B) rfl rfl (by kernel_rfl) (by kernel_rfl) (by kernel_rfl) (by kernel_rfl) (fun _ _ _ h => h) (by rfl) (fun W' hb => ?_) HS0 ?_
    · go_simp
    simp only [List.setIfInBounds_toArray, List.set_cons_zero, List.set_cons_succ]
    refine RK.Any.take 1 9 (ptr B) rfl rfl (by kernel_rfl) (by kernel_rfl) (by kernel_rfl) (by kernel_rfl) (fun _ _ _ h => h) (by rfl) (fun W' hb => ?_) HS0 ?_
    · go_simp
    simp only [List.setIfInBounds_toArray, List.set_cons_zero, List.set_cons_succ]
    refine RK.Any.take 2 10 (.pointer (some ⟨B, 0, none⟩)) rfl rfl (by kernel_rfl) (by kernel_rfl) (by kernel_rfl) (by kernel_rfl) (fun _ _ _ h => h) (by rfl) (fun W' hb => ?_) HS0 ?_
    · go_simp
    simp only [List.setIfInBounds_toArray, List.set_cons_zero, List.set_cons_succ]
    refine RK.Any.take 3 11 (.map none) rfl rfl (by kernel_rfl) (by kernel_rfl) (by kernel_rfl) (by kernel_rfl) (fun _ _ _ h => h) (by rfl) (fun W' hb => ?_) HS0 ?_
    · have c := (box_cells hb.1).1; go_simp
    simp only [List.setIfInBounds_toArray, List.set_cons_zero, List.set_cons_succ]
    refine RK.Any.take 4 12 (.pointer (some ⟨b3, 0, none⟩)) rfl rfl (by kernel_rfl) (by kernel_rfl) (by kernel_rfl) (by kernel_rfl) (fun _ _ _ h => h) (by rfl) (fun W' hb => ?_) HS0 ?_
    · go_simp
    simp only [List.setIfInBounds_toArray, List.set_cons_zero, List.set_cons_succ]
    refine RK.Any.take 5 13 (.int .i64 k) rfl rfl (by kernel_rfl) (by kernel_rfl) (by kernel_rfl) (by kernel_rfl) (fun _ _ _ h => h) (by rfl) (fun W' hb => ?_) HS0 ?_
    · have c := (cell_of_row W' b3 0 _ _ _ hb.2).trans rfl; go_simp
    simp only [List.setIfInBounds_toArray, List.set_cons_zero, List.set_cons_succ]
    have hdl := fun ty => Maps.drop_nil (P := Tryz.prog) (w := w1.drew) keyInt Tryz.underlying54 (key_of hk) ty
    refine RK.Any.exec0 6 (.tuple #[]) (w1 := w1.drew) (by kernel_rfl) rfl rfl (by rfl) (RK.exec_delete _ _ _ _ rfl _ _ rfl rfl (hdl _)) (fun _ => HS0) ?_
    refine RK.Any.done (by kernel_rfl) ?_
    have HF : Hid (DidP w F B (N + 1) { s with p := upd s.p (k, t) } w1.drew) := Lib.hid (H1.out.put H.out hN (H.out.wf.p.upd hk (by rw [ht]; exact zero_len)) hDB (.inl ⟨rfl, fun j => by
      unfold upd
      by_cases e : j = k
      · rw [if_pos e]; exact ht
      · rw [if_neg e]; exact hz j⟩) (Nat.le_succ n) (fun g hg => by cases hg) (.of_below _ (bnext HBA.out (below_drewN w1 1))))
    clear HS0
    generalize w1.drew = w6 at *
    go_wp2_with fail
    refine bodyPost_ret (results_none rfl _ _ _) rfl ?_
    exact ⟨rfl, HF.out⟩
  · refine RK.region (fun u => u.heap[B]? = some (.cells #[.map (some g), v, .bool fu, .int .i64 le, .bool s.dead] 57 (0, 0)) ∧ u.heap[b3]? = some (.cells #[.int .i64 k, .string ⟨t.toArray⟩] 77 (0, 0))) 7 (by kernel_rfl) ?_
    have HS0 : w1.drew.heap[B]? = some (.cells #[.map (some g), v, .bool fu, .int .i64 le, .bool s.dead] 57 (0, 0)) ∧ w1.drew.heap[b3]? = some (.cells #[.int .i64 k, .string ⟨t.toArray⟩] 77 (0, 0)) := ⟨hDB, hWB⟩
    refine RK.Any.take 0 8 (ptr B) rfl rfl (by kernel_rfl) (by kernel_rfl) (by kernel_rfl) (by kernel_rfl) (fun _ _ _ h => h) (by rfl) (fun W' hb => ?_) HS0 ?_
    · go_simp
    simp only [List.setIfInBounds_toArray, List.set_cons_zero, List.set_cons_succ]
    refine RK.Any.take 1 9 (ptr B) rfl rfl (by kernel_rfl) (by kernel_rfl) (by kernel_rfl) (by kernel_rfl) (fun _ _ _ h => h) (by rfl) (fun W' hb => ?_) HS0 ?_
    · go_simp
    simp only [List.setIfInBounds_toArray, List.set_cons_zero, List.set_cons_succ]
    refine RK.Any.take 2 10 (.pointer (some ⟨B, 0, none⟩)) rfl rfl (by kernel_rfl) (by kernel_rfl) (by kernel_rfl) (by kernel_rfl) (fun _ _ _ h => h) (by rfl) (fun W' hb => ?_) HS0 ?_
    · go_simp
    simp only [List.setIfInBounds_toArray, List.set_cons_zero, List.set_cons_succ]
    refine RK.Any.take 3 11 (.map (some g)) rfl rfl (by kernel_rfl) (by kernel_rfl) (by kernel_rfl) (by kernel_rfl) (fun _ _ _ h => h) (by rfl) (fun W' hb => ?_) HS0 ?_
    · have c := (box_cells hb.1).1; go_simp
    simp only [List.setIfInBounds_toArray, List.set_cons_zero, List.set_cons_succ]
    refine RK.Any.take 4 12 (.pointer (some ⟨b3, 0, none⟩)) rfl rfl (by kernel_rfl) (by kernel_rfl) (by kernel_rfl) (by kernel_rfl) (fun _ _ _ h => h) (by rfl) (fun W' hb => ?_) HS0 ?_
    · go_simp
    simp only [List.setIfInBounds_toArray, List.set_cons_zero, List.set_cons_succ]
    refine RK.Any.take 5 13 (.int .i64 k) rfl rfl (by kernel_rfl) (by kernel_rfl) (by kernel_rfl) (by kernel_rfl) (fun _ _ _ h => h) (by rfl) (fun W' hb => ?_) HS0 ?_
    · have c := (cell_of_row W' b3 0 _ _ _ hb.2).trans rfl; go_simp
    simp only [List.setIfInBounds_toArray, List.set_cons_zero, List.set_cons_succ]
    have hgl := hm.lt
    have hm1 : MapAt w1.drew g n s.p := hm.of (HBA.out.block g hgl)
    obtain ⟨w5, hdl, hm5, hg5⟩ := hm1.drop (x := (k, t)) hk ht 0
    have hgB : B ≠ g := fun e => H1.out.mB (by rw [e])
    have hg5B := (hg5.block B (row_lt HS0.1) (fun e => hgB (by injection e))).trans HS0.1
    refine RK.Any.exec0 6 (.tuple #[]) (w1 := w5) (by kernel_rfl) rfl rfl (by rfl) (RK.exec_delete _ _ _ _ rfl _ _ rfl rfl hdl) (fun _ => ⟨hg5B, (hg5.block b3 (row_lt HS0.2) (fun e => by have := HK3.out; injection e with e; omega)).trans HS0.2⟩) ?_
    refine RK.Any.done (by kernel_rfl) ?_
    have HF : Hid (DidP w F B (N + 1) { s with p := upd s.p (k, t) } w5) := Lib.hid (H1.out.put H.out hN (H.out.wf.p.upd hk (by rw [ht]; exact zero_len)) hg5B (.inr ⟨g, rfl, hm5⟩) (Nat.le_succ n) (fun g hg => .inl hg)
      ((Chg.of_below _ (bnext HBA.out (below_drewN w1 1))).grown hg5 fun j hj => .inl (.inr (by injection hj with hj; rw [hj]))))
    clear HS0 hdl hm5 hg5 hm1 hg5B
    go_wp2_with fail
    refine bodyPost_ret (results_none rfl _ _ _) rfl ?_
    exact ⟨rfl, HF.out⟩
set_option maxRecDepth 100000 in
set_option maxHeartbeats 4000000 in
/-- A write that is not all 00. -/
theorem put_more (h : Dk w F B N s) (hN : N + 1 ≤ 1000000) (k : Int) (t : By) (hk : sec k = true) (ht : t.length = 512) (hz : t ≠ zero) : Calls Tryz.prog 47 #[ptr B, wv k t] w fun e w' => e = .returned (.tuple #[]) ∧ DidP w F B (N + 1) { s with p := upd s.p (k, t) } w' := by
  have hnil : Lib.trimLeftB t 0 ≠ [] := fun e => hz ((trim_zero ht).1 e)
  have HT := fun u => Tryz.strings_TrimLeft_one ⟨t.toArray⟩ 0 (by decide) u
  rw [show (⟨t.toArray⟩ : ByteArray).data.toList = t from rfl] at HT
  have hne : (⟨(Lib.trimLeftB t 0).toArray⟩ : ByteArray).toList.isEmpty = false := by
    rw [list_toList]
    cases e : Lib.trimLeftB t 0 with
    | nil => exact absurd e hnil
    | cons => rfl
  generalize (⟨(Lib.trimLeftB t 0).toArray⟩ : ByteArray) = tl at *
  have hq := fun w p => run_eql_map_nil_sl (P := Tryz.prog) w 54 _ _ p Tryz.underlying54
  obtain ⟨m, v, fu, le, n, h1⟩ := h.lies
  have hb := h1.box
  have hbA := below_box w (.cells #[.int .i64 k, .string ⟨t.toArray⟩] 77)
  have hWB := heap_alloc_new w (.cells #[.int .i64 k, .string ⟨t.toArray⟩] 77)
  have hDB := (hbA.block B (row_lt hb)).trans hb
  have HBA := Lib.hid hbA
  have HWB := Lib.hid hWB
  have HDB := Lib.hid hDB
  have HTZ := Lib.hid ht
  have HZ := Lib.hid hz
  have H := Lib.hid h
  have H1 := Lib.hid h1
  have HPW := Lib.hid (h.wf.p.upd (x := (k, t)) hk ht)
  have hDBc := (box_cells hDB).1
  clear h h1 hb hbA ht hWB hDB hz hnil
  rcases H1.out.plat with ⟨rfl, hz0⟩ | ⟨g, rfl, hm⟩
  · have HZ0 := Lib.hid hz0
    have hfr := (box_cells HDB.out).2.2.2.2.2
    have hmk := @run_makeMap Tryz.prog
    have hbx2 := ((below_box (w.alloc (.cells #[.int .i64 k, .string ⟨t.toArray⟩] 77)) (.map #[] 0)).block B (row_lt HDB.out)).trans HDB.out
    have hfr2 := (box_cells hbx2).2.2.2.2.2 0
    have hcl2 := (box_cells hbx2).1
    clear hbx2
    clear hz0
    go_enter Tryz.func47, Tryz.ntmps47
    go_upto_region 5 with (go_at_call 68; (with_reducible refine (HT _).mono ?_); rintro e w' ⟨rfl, rfl⟩)
    obtain ⟨w1, hw1⟩ : ∃ w1, w.alloc (.cells #[.int .i64 k, .string ⟨t.toArray⟩] 77) = w1 := ⟨_, rfl⟩
    have hDB := HDB.out
    have hWB := HWB.out
    have hb01 := HBA.out
    rw [hw1] at hDB hWB hb01 ⊢
    clear HDB HWB hDBc HBA hfr hfr2 hcl2
    obtain ⟨b3, hb3⟩ : ∃ b3, w.heap.size = b3 := ⟨_, rfl⟩
    simp only [hb3] at hWB ⊢
    have hs3 : w1.heap.size = b3 + 1 := by rw [← hw1, World.size_alloc, hb3]
    obtain ⟨g, hg⟩ : ∃ g, b3 + 1 = g := ⟨_, rfl⟩
    rw [hg] at hs3
    simp only [hg]
    have hbm := below_box w1 (.map #[] 0)
    have hmp := (MapKept.heap_alloc w1 (.map #[] 0)).1
    rw [hs3] at hmp
    have hDB2 := (hbm.block B (row_lt hDB)).trans hDB
    have hWB2 := (hbm.block b3 (row_lt hWB)).trans hWB
    have hBl := Lib.hid (H.out.old B H.out.FB)
    have hgl : g < (w1.alloc (.map #[] 0)).heap.size := row_lt hmp
    generalize w1.alloc (.map #[] 0) = w2 at *
    have hBg : g ≠ B := by have := hBl.out; omega
    have hB3 : b3 ≠ B := by have := hBl.out; omega
    have hDB3 := box_set hDB2 0 (.map (some g))
    have hWB3 := (set_other w2 B 0 (.map (some g)) hB3).trans hWB2
    have hmp3 := (set_other w2 B 0 (.map (some g)) hBg).trans hmp
    have hch : Chg (fun k => k = B ∨ Value.map none = .map (some k)) w (w2.setCell ⟨B, 0, none⟩ (.map (some g))) := ((Chg.of_below _ hb01).step (hs3 ▸ hbm)).setCell (.inl (.inl rfl)) _
    have hgs : g < (w2.setCell ⟨B, 0, none⟩ (.map (some g))).heap.size := by rw [World.size_setCell]; exact hgl
    clear hDB2 hWB2 hmp hDB hWB hb01 hbm
    generalize w2.setCell ⟨B, 0, none⟩ (.map (some g)) = w3 at *
    refine RK.region (fun u => u.heap[B]? = some (.cells #[.map (some g), v, .bool fu, .int .i64 le, .bool s.dead] 57 (0, 0)) ∧ u.heap[b3]? = some (.cells #[.int .i64 k, .string ⟨t.toArray⟩] 77 (0, 0))) 8 (by kernel_rfl) ?_
    have HS0 : w3.drew.heap[B]? = some (.cells #[.map (some g), v, .bool fu, .int .i64 le, .bool s.dead] 57 (0, 0)) ∧ w3.drew.heap[b3]? = some (.cells #[.int .i64 k, .string ⟨t.toArray⟩] 77 (0, 0)) := ⟨hDB3, hWB3⟩
    refine RK.Any.take 0 23 (ptr B) rfl rfl (by kernel_rfl) (by kernel_rfl) (by kernel_rfl) (by kernel_rfl) (fun _ _ _ h => h) (by rfl) (fun W' hb => ?_) HS0 ?_
    · go_simp
    simp only [List.setIfInBounds_toArray, List.set_cons_zero, List.set_cons_succ]
    refine RK.Any.take 1 24 (ptr B) rfl rfl (by kernel_rfl) (by kernel_rfl) (by kernel_rfl) (by kernel_rfl) (fun _ _ _ h => h) (by rfl) (fun W' hb => ?_) HS0 ?_
    · go_simp
    simp only [List.setIfInBounds_toArray, List.set_cons_zero, List.set_cons_succ]
    refine RK.Any.take 2 25 (.pointer (some ⟨B, 0, none⟩)) rfl rfl (by kernel_rfl) (by kernel_rfl) (by kernel_rfl) (by kernel_rfl) (fun _ _ _ h => h) (by rfl) (fun W' hb => ?_) HS0 ?_
    · go_simp
    simp only [List.setIfInBounds_toArray, List.set_cons_zero, List.set_cons_succ]
    refine RK.Any.take 3 26 (.map (some g)) rfl rfl (by kernel_rfl) (by kernel_rfl) (by kernel_rfl) (by kernel_rfl) (fun _ _ _ h => h) (by rfl) (fun W' hb => ?_) HS0 ?_
    · have c := (box_cells hb.1).1; go_simp
    simp only [List.setIfInBounds_toArray, List.set_cons_zero, List.set_cons_succ]
    refine RK.Any.take 4 27 (.pointer (some ⟨b3, 0, none⟩)) rfl rfl (by kernel_rfl) (by kernel_rfl) (by kernel_rfl) (by kernel_rfl) (fun _ _ _ h => h) (by rfl) (fun W' hb => ?_) HS0 ?_
    · go_simp
    simp only [List.setIfInBounds_toArray, List.set_cons_zero, List.set_cons_succ]
    refine RK.Any.take 5 28 (.int .i64 k) rfl rfl (by kernel_rfl) (by kernel_rfl) (by kernel_rfl) (by kernel_rfl) (fun _ _ _ h => h) (by rfl) (fun W' hb => ?_) HS0 ?_
    · have c := (cell_of_row W' b3 0 _ _ _ hb.2).trans rfl; go_simp
    simp only [List.setIfInBounds_toArray, List.set_cons_zero, List.set_cons_succ]
    refine RK.Any.take 6 29 (wv k t) rfl rfl (by kernel_rfl) (by kernel_rfl) (by kernel_rfl) (by kernel_rfl) (fun _ _ _ h => h) (by rfl) (fun W' hb => ?_) HS0 ?_
    · exact load_w hb.2 rfl rfl
    simp only [List.setIfInBounds_toArray, List.set_cons_zero, List.set_cons_succ]
    have hm1 : MapAt w3.drew g 0 (fun _ => zero) := MapAt.empty hmp3
    have hm2 : MapAt w3.drew g 0 s.p := hm1.congr fun j => (HZ0.out j).symm
    obtain ⟨w5, hup, hm5, hg5⟩ := hm2.put (x := (k, t)) hk (by omega) HZ.out
    have hg5B := (hg5.block B (row_lt HS0.1) (fun e => hBg (by injection e with e; exact e.symm))).trans HS0.1
    refine RK.Any.store 7 (w1 := w5) (by kernel_rfl) rfl rfl (by rfl) (RK.exec_update _ _ _ _ rfl _ _ _ rfl rfl rfl hup) (fun _ => ⟨hg5B, (hg5.block b3 (row_lt HS0.2) (fun e => by injection e with e; omega)).trans HS0.2⟩) ?_
    refine RK.Any.done (by kernel_rfl) ?_
    have HF : Hid (DidP w F B (N + 1) { s with p := upd s.p (k, t) } w5) := Lib.hid (H1.out.put H.out hN HPW.out hg5B (.inr ⟨g, rfl, hm5⟩) (by omega) (fun j hj => .inr (by injection hj with hj; injection hj with hj; subst hj; exact ⟨by omega, Nat.lt_of_lt_of_le hgs hg5.size⟩))
      ((hch.drewN 1).grown hg5 fun j hj => .inr (by injection hj with hj; omega)))
    clear HS0 hup hm5 hg5 hm1 hm2 hg5B
    go_wp2_with fail
    go_end0
    exact ⟨rfl, HF.out⟩
  · have hgl := hm.lt
    have hgB : B ≠ g := fun e => H1.out.mB (by rw [e])
    go_enter Tryz.func47, Tryz.ntmps47
    go_upto_region 5 with (go_at_call 68; (with_reducible refine (HT _).mono ?_); rintro e w' ⟨rfl, rfl⟩)
    have hDB := HDB.out
    have hWB := HWB.out
    clear HDB HWB hDBc
    generalize w.alloc (.cells #[.int .i64 k, .string ⟨t.toArray⟩] 77) = w1 at *
    obtain ⟨b3, hb3⟩ : ∃ b3, w.heap.size = b3 := ⟨_, rfl⟩
    simp only [hb3] at hWB ⊢
    have HK3 := Lib.hid hb3
    clear hb3
    refine RK.region (fun u => u.heap[B]? = some (.cells #[.map (some g), v, .bool fu, .int .i64 le, .bool s.dead] 57 (0, 0)) ∧ u.heap[b3]? = some (.cells #[.int .i64 k, .string ⟨t.toArray⟩] 77 (0, 0))) 8 (by kernel_rfl) ?_
    have HS0 : w1.drew.heap[B]? = some (.cells #[.map (some g), v, .bool fu, .int .i64 le, .bool s.dead] 57 (0, 0)) ∧ w1.drew.heap[b3]? = some (.cells #[.int .i64 k, .string ⟨t.toArray⟩] 77 (0, 0)) := ⟨hDB, hWB⟩
    refine RK.Any.take 0 23 (ptr B) rfl rfl (by kernel_rfl) (by kernel_rfl) (by kernel_rfl) (by kernel_rfl) (fun _ _ _ h => h) (by rfl) (fun W' hb => ?_) HS0 ?_
    · go_simp
    simp only [List.setIfInBounds_toArray, List.set_cons_zero, List.set_cons_succ]
    refine RK.Any.take 1 24 (ptr B) rfl rfl (by kernel_rfl) (by kernel_rfl) (by kernel_rfl) (by kernel_rfl) (fun _ _ _ h => h) (by rfl) (fun W' hb => ?_) HS0 ?_
    · go_simp
    simp only [List.setIfInBounds_toArray, List.set_cons_zero, List.set_cons_succ]
    refine RK.Any.take 2 25 (.pointer (some ⟨B, 0, none⟩)) rfl rfl (by kernel_rfl) (by kernel_rfl) (by kernel_rfl) (by kernel_rfl) (fun _ _ _ h => h) (by rfl) (fun W' hb => ?_) HS0 ?_
    · go_simp
    simp only [List.setIfInBounds_toArray, List.set_cons_zero, List.set_cons_succ]
    refine RK.Any.take 3 26 (.map (some g)) rfl rfl (by kernel_rfl) (by kernel_rfl) (by kernel_rfl) (by kernel_rfl) (fun _ _ _ h => h) (by rfl) (fun W' hb => ?_) HS0 ?_
    · have c := (box_cells hb.1).1; go_simp
    simp only [List.setIfInBounds_toArray, List.set_cons_zero, List.set_cons_succ]
    refine RK.Any.take 4 27 (.pointer (some ⟨b3, 0, none⟩)) rfl rfl (by kernel_rfl) (by kernel_rfl) (by kernel_rfl) (by kernel_rfl) (fun _ _ _ h => h) (by rfl) (fun W' hb => ?_) HS0 ?_
    · go_simp
    simp only [List.setIfInBounds_toArray, List.set_cons_zero, List.set_cons_succ]
    refine RK.Any.take 5 28 (.int .i64 k) rfl rfl (by kernel_rfl) (by kernel_rfl) (by kernel_rfl) (by kernel_rfl) (fun _ _ _ h => h) (by rfl) (fun W' hb => ?_) HS0 ?_
    · have c := (cell_of_row W' b3 0 _ _ _ hb.2).trans rfl; go_simp
    simp only [List.setIfInBounds_toArray, List.set_cons_zero, List.set_cons_succ]
    refine RK.Any.take 6 29 (wv k t) rfl rfl (by kernel_rfl) (by kernel_rfl) (by kernel_rfl) (by kernel_rfl) (fun _ _ _ h => h) (by rfl) (fun W' hb => ?_) HS0 ?_
    · exact load_w hb.2 rfl rfl
    simp only [List.setIfInBounds_toArray, List.set_cons_zero, List.set_cons_succ]
    have hm1 : MapAt w1.drew g n s.p := hm.of (HBA.out.block g hgl)
    have hn9 : n ≤ 1000000000 := by have := H1.out.few; omega
    obtain ⟨w5, hup, hm5, hg5⟩ := hm1.put (x := (k, t)) hk hn9 HZ.out
    have hg5B := (hg5.block B (row_lt HS0.1) (fun e => hgB (by injection e))).trans HS0.1
    refine RK.Any.store 7 (w1 := w5) (by kernel_rfl) rfl rfl (by rfl) (RK.exec_update _ _ _ _ rfl _ _ _ rfl rfl rfl hup) (fun _ => ⟨hg5B, (hg5.block b3 (row_lt HS0.2) (fun e => by have := HK3.out; injection e with e; omega)).trans HS0.2⟩) ?_
    refine RK.Any.done (by kernel_rfl) ?_
    have HF : Hid (DidP w F B (N + 1) { s with p := upd s.p (k, t) } w5) := Lib.hid (H1.out.put H.out hN HPW.out hg5B (.inr ⟨g, rfl, hm5⟩) (Nat.le_refl _) (fun g hg => .inl hg)
      ((Chg.of_below _ (bnext HBA.out (below_drewN w1 1))).grown hg5 fun j hj => .inl (.inr (by injection hj with hj; rw [hj]))))
    clear HS0 hup hm5 hg5 hm1 hg5B
    go_wp2_with fail
    go_end0
    exact ⟨rfl, HF.out⟩
theorem put_any (h : Dk w F B N s) (hN : N + 1 ≤ 1000000) (k : Int) (t : By) (hk : sec k = true) (ht : t.length = 512) : Calls Tryz.prog 47 #[ptr B, wv k t] w fun e w' => e = .returned (.tuple #[]) ∧ DidP w F B (N + 1) { s with p := upd s.p (k, t) } w' := by
  by_cases hz : t = zero
  · exact put_zero h hN k t hk hz
  · exact put_more h hN k t hk ht hz
end
end M
end Go.Proofs.YtoacmingocmaaaaGreatDoor
