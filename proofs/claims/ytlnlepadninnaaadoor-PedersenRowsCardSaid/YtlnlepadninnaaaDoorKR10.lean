/- The texts PedPair, RegX, PedGrow, one behind the other. -/
import Derived.Test.YtlnlepadninnaaaDoorKR9
import Derived.Test.YtlnlepadninnaaaDoorKR4
import Derived.Deep.Cut
import Derived.Test.YtlnlepadninnaaaDoorKR8
import Derived.Test.YtlnlepadninnaaaDoorKR3
import Derived.Laws.OwnMore
/- Pairs that a slice reads; what package pedersen's reading function answers for them. -/
namespace Go.Proofs.YtlnlepadninnaaaDoor
open Go Go.RowKit Go.Lib
namespace M
/-- Pairs that lie in a block from its beginning on. -/
def PairR (W : World) (ao : Option Addr) (n : Nat) (s t : Nat → Nat) : Prop := ∀ k, k < n → ∃ b, ao = some ⟨b, 0, none⟩ ∧ W.cell? ⟨b, k * 2, none⟩ = some (.int .u64 ((s k : Nat) : Int)) ∧ W.cell? ⟨b, k * 2 + 1, none⟩ = some (.int .u64 ((t k : Nat) : Int))
theorem PairR.as {W W' : World} {ao : Option Addr} {n : Nat} {s t : Nat → Nat} (h : PairR W ao n s t) (hb : CellsAs W W') : PairR W' ao n s t := fun k hk => by
  obtain ⟨b, e, h1, h2⟩ := h k hk
  exact ⟨b, e, hb.cell h1, hb.cell h2⟩
theorem PairR.below {W W' : World} {ao : Option Addr} {n : Nat} {s t : Nat → Nat} (h : PairR W ao n s t) (hb : Below W.heap.size W W') : PairR W' ao n s t := h.as (.of_below hb)
set_option maxRecDepth 100000 in
set_option maxHeartbeats 4000000 in
theorem atP_any (ao : Option Addr) (n c i : Nat) (s t : Nat → Nat) (w : World) (hr : PairR w ao n s t) :
    Calls Tryd.prog 76 #[.slice ao n c, .int .i64 (i : Int)] w fun e w' => e = .returned (.agg (pair (getU n s i) (getU n t i))) ∧ Below w.heap.size w w' := by
  have hi0 : (0 : Int) ≤ (i : Int) := Int.natCast_nonneg _
  obtain ⟨g, hg⟩ : ∃ g, w.heap.size = g := ⟨_, rfl⟩
  have b1 := below_box w (.cells #[.int .u64 0, .int .u64 0] 48)
  have n1 := heap_alloc_new w (.cells #[.int .u64 0, .int .u64 0] 48)
  have s1 : (w.alloc (.cells #[.int .u64 0, .int .u64 0] 48)).heap.size = g + 1 := by rw [World.size_alloc, hg]
  rw [hg] at n1
  obtain ⟨w1, hw1⟩ : ∃ w1, w.alloc (.cells #[.int .u64 0, .int .u64 0] 48) = w1 := ⟨_, rfl⟩
  rw [hw1] at b1 n1 s1
  have b2 := below_box w1 (.cells #[.int .u64 0, .int .u64 0] 48)
  have n2 := heap_alloc_new w1 (.cells #[.int .u64 0, .int .u64 0] 48)
  rw [s1] at n2
  obtain ⟨w2, hw2⟩ : ∃ w2, w1.alloc (.cells #[.int .u64 0, .int .u64 0] 48) = w2 := ⟨_, rfl⟩
  rw [hw2] at b2 n2
  have n1' := (b2.block g (row_lt n1)).trans n1
  have bb : Below w.heap.size w w2 := b1.trans (b2.mono b1.size)
  have HBB : Hid (∀ (u v x y : Value), Below w.heap.size w ((((w2.setCell ⟨g + 1, 0, none⟩ u).setCell ⟨g + 1, 1, none⟩ v).setCell ⟨g, 0, none⟩ x).setCell ⟨g, 1, none⟩ y)) := Lib.hid fun u v x y => (((bb.setCell (p := ⟨g + 1, 0, none⟩) (by show w.heap.size ≤ g + 1; omega) _).setCell (p := ⟨g + 1, 1, none⟩) (by show w.heap.size ≤ g + 1; omega) _).setCell (p := ⟨g, 0, none⟩) (by show w.heap.size ≤ g; omega) _).setCell (p := ⟨g, 1, none⟩) (by show w.heap.size ≤ g; omega) _
  have HBC : Hid (∀ (x y : Value), Below w.heap.size w ((w2.setCell ⟨g, 0, none⟩ x).setCell ⟨g, 1, none⟩ y)) := Lib.hid fun x y => (bb.setCell (p := ⟨g, 0, none⟩) (by show w.heap.size ≤ g; omega) _).setCell (p := ⟨g, 1, none⟩) (by show w.heap.size ≤ g; omega) _
  have c0 : w2.cell? ⟨g, 0, none⟩ = some (.int .u64 0) := by rw [cell_of_row _ _ _ _ _ _ n1']; rfl
  have c1 : w2.cell? ⟨g, 1, none⟩ = some (.int .u64 0) := by rw [cell_of_row _ _ _ _ _ _ n1']; rfl
  have c2 : w2.cell? ⟨g + 1, 0, none⟩ = some (.int .u64 0) := by rw [cell_of_row _ _ _ _ _ _ n2]; rfl
  have c3 : w2.cell? ⟨g + 1, 1, none⟩ = some (.int .u64 0) := by rw [cell_of_row _ _ _ _ _ _ n2]; rfl
  have f0 : w2.frozen? ⟨g, 0, none⟩ = false := by simp [World.frozen?, n1']
  have f1 : w2.frozen? ⟨g, 1, none⟩ = false := by simp [World.frozen?, n1']
  have f2 : w2.frozen? ⟨g + 1, 0, none⟩ = false := by simp [World.frozen?, n2]
  have f3 : w2.frozen? ⟨g + 1, 1, none⟩ = false := by simp [World.frozen?, n2]
  by_cases hb : i < n
  · obtain ⟨b, rfl, h1, h2⟩ := hr i hb
    have h1' := (CellsAs.of_below bb).cell h1
    have h2' := (CellsAs.of_below bb).cell h2
    rw [getU_in hb, getU_in hb]
    have hbI : (i : Int) < (n : Int) := by omega
    generalize s i = x at *
    generalize t i = y at *
    clear hr h1 h2 b1 b2 n1 n2 n1' bb
    go_enter Tryd.func76, Tryd.ntmps76
    go_wp2_with fail
    have hbB := HBB.out (.int .u64 (x : Int)) (.int .u64 (y : Int)) (.int .u64 (x : Int)) (.int .u64 (y : Int))
    have d0 : ((((w2.setCell ⟨g + 1, 0, none⟩ (.int .u64 (x : Int))).setCell ⟨g + 1, 1, none⟩ (.int .u64 (y : Int))).setCell ⟨g, 0, none⟩ (.int .u64 (x : Int))).setCell ⟨g, 1, none⟩ (.int .u64 (y : Int))).cell? ⟨g, 0, none⟩ = some (.int .u64 (x : Int)) := by go_simp
    have d1 : ((((w2.setCell ⟨g + 1, 0, none⟩ (.int .u64 (x : Int))).setCell ⟨g + 1, 1, none⟩ (.int .u64 (y : Int))).setCell ⟨g, 0, none⟩ (.int .u64 (x : Int))).setCell ⟨g, 1, none⟩ (.int .u64 (y : Int))).cell? ⟨g, 1, none⟩ = some (.int .u64 (y : Int)) := by go_simp
    generalize (((w2.setCell ⟨g + 1, 0, none⟩ (.int .u64 (x : Int))).setCell ⟨g + 1, 1, none⟩ (.int .u64 (y : Int))).setCell ⟨g, 0, none⟩ (.int .u64 (x : Int))).setCell ⟨g, 1, none⟩ (.int .u64 (y : Int)) = w5 at *
    refine bodyPost_ret (v := .agg (pair x y)) (w := w5) (by simp [results, Tryd.results76, go_sem, d0, d1]) rfl ⟨rfl, by first | exact hbB | (rw [← hg]; exact hbB)⟩
  · rw [getU_out hb, getU_out hb]
    have hbI : ¬ (i : Int) < (n : Int) := by omega
    clear hr b1 b2 n1 n2 n1' bb
    go_enter Tryd.func76, Tryd.ntmps76
    go_wp2_with fail
    have hbB := HBC.out (.int .u64 0) (.int .u64 0)
    have d0 : ((w2.setCell ⟨g, 0, none⟩ (.int .u64 0)).setCell ⟨g, 1, none⟩ (.int .u64 0)).cell? ⟨g, 0, none⟩ = some (.int .u64 0) := by go_simp
    have d1 : ((w2.setCell ⟨g, 0, none⟩ (.int .u64 0)).setCell ⟨g, 1, none⟩ (.int .u64 0)).cell? ⟨g, 1, none⟩ = some (.int .u64 0) := by go_simp
    generalize (w2.setCell ⟨g, 0, none⟩ (.int .u64 0)).setCell ⟨g, 1, none⟩ (.int .u64 0) = w5 at *
    refine bodyPost_ret (v := .agg (pair 0 0)) (w := w5) (by simp [results, Tryd.results76, go_sem, d0, d1]) rfl ⟨rfl, by first | exact hbB | (rw [← hg]; exact hbB)⟩
end M
end Go.Proofs.YtlnlepadninnaaaDoor
/- Drawn regions in which more than one operation may come, and operations that make memory: for regions that are walked by hand. -/
namespace Go.Proofs.YtlnlepadninnaaaDoor
open Go Go.RowKit Go.Lib
namespace RK
/-- Number i alone may come, and makes a value and a world. -/
theorem Any.exec {P : Program} {md : Region.Mode} {ops : Array Oper} {Q : Exit → Act → World → Prop} {S : World → Prop} {st : Nat} {s : Array Bool} {a : Act} {w w1 : World} {f : Nat} (i t : Nat) {o : Oper} (v : Value) (hr : Region.ready md ops s = [i]) (hi : ops[i]? = some o) (hd : o.dst = some t) (hw : Region.wanted o (yielded ops a.tmps) = true)
    (he : (execOp a.eval o).run P w = .ok (.value v) w1) (hS : S w1) (h : Any P md ops Q S st f (s.setIfInBounds i true) { a with tmps := a.tmps.setIfInBounds t v } w1) : Any P md ops Q S st (f + 1) s a w :=
  ⟨fun e => (by rw [hr] at e; cases e), fun j hj => by
    rw [hr] at hj
    obtain rfl : j = i := by simpa using hj
    unfold wpOp
    simp only [hi, hw, if_true]
    refine .inl ?_
    unfold Oper.wp
    rw [he, Oper.upon_value, hd]
    exact ⟨fun _ => hS, h⟩⟩
theorem exec_append {P : Program} {o : Oper} {a : Act} {w w' : World} {v' : Value} (s x : Operand) (t tn : TypeId) (ho : o.op = .call { callee := .builtin .append, args := #[s, x], argTypes := #[t, tn] }) (vs vx : Value) (hs : a.eval s = vs) (hx : a.eval x = vx)
    (hr : (Builtin.append_ #[t, tn] o.type #[vs, vx]).run P w = .ok v' w') : (execOp a.eval o).run P w = .ok (.value v') w' := by
  unfold execOp
  simp only [ho, resolve, invoke, builtin, Sem.run_bind, Sem.run_pure, Result.andThen_ok, List.map_toArray, List.map_cons, List.map_nil, hs, hx, hr]
section
variable {P : Program} {md : Region.Mode} {ops : Array Oper} {Q : Exit → Act → World → Prop} {S : World → Prop} {st : Nat}
/-- Each of some operations may come. -/
theorem Any.each {s : Array Bool} {a : Act} {w : World} {f : Nat} (l : List Nat) (hr : Region.ready md ops s = l) (h0 : l ≠ []) (h : ∀ i ∈ l, wpOp P ops Q i (fun a' w' => (i ≠ st → S w') ∧ Any P md ops Q S st f (s.setIfInBounds i true) a' w') a w) : Any P md ops Q S st (f + 1) s a w :=
  ⟨fun e => absurd (hr.symm.trans e) h0, fun i hi => h i (hr ▸ hi)⟩
theorem wpOp_exec {i t : Nat} {o : Oper} {v : Value} {a : Act} {w w1 : World} {K : Act → World → Prop} (hi : ops[i]? = some o) (hd : o.dst = some t) (hw : Region.wanted o (yielded ops a.tmps) = true) (he : (execOp a.eval o).run P w = .ok (.value v) w1) (h : K { a with tmps := a.tmps.setIfInBounds t v } w1) : wpOp P ops Q i K a w := by
  unfold wpOp
  simp only [hi, hw, if_true]
  refine .inl ?_
  unfold Oper.wp
  rw [he, Oper.upon_value, hd]
  exact h
theorem wpOp_call {i t : Nat} {o : Oper} {g : FuncId} {args : Array Value} {a : Act} {w : World} {K : Act → World → Prop} (hi : ops[i]? = some o) (hd : o.dst = some t) (hw : Region.wanted o (yielded ops a.tmps) = true) (he : (execOp a.eval o).run P w = .ok (.enter g args) w)
    (h : Calls P g args w fun e w' => ∃ v, e = .returned v ∧ K { a with tmps := a.tmps.setIfInBounds t v } w') : wpOp P ops Q i K a w := by
  unfold wpOp
  simp only [hi, hw, if_true]
  refine .inl ?_
  unfold Oper.wp
  rw [he, Oper.upon_enter]
  refine h.mono ?_
  rintro e w' ⟨v, rfl, h1⟩
  rw [hd]
  exact h1
end
/-- A region, cut off from what follows. -/
theorem cut {P : Program} {c : Code} {Q : Exit → Act → World → Prop} {a : Act} {w : World} (R : Act → Act → World → Prop) (h1 : c.wp P (fun e a' w' => e = .normal ∧ R a a' w') a w) (h2 : ∀ a' w', R a a' w' → Q .normal a' w') : c.wp P Q a w :=
  wp_mono h1 fun e a' w' ⟨he, hr⟩ => by subst he; exact h2 a' w' hr
theorem Any.race {P : Program} {md : Region.Mode} {ops : Array Oper} {Q : Exit → Act → World → Prop} {S : World → Prop} {st : Nat} {s : Array Bool} {a : Act} {w : World} {f : Nat} (i j ti tj : Nat) {oi oj : Oper} (R : Value → Value → World → Prop)
    (hr : Region.ready md ops s = [i, j]) (hr1 : Region.ready md ops (s.setIfInBounds i true) = [j]) (hr2 : Region.ready md ops (s.setIfInBounds j true) = [i]) (hi : ops[i]? = some oi) (hj : ops[j]? = some oj) (hdi : oi.dst = some ti) (hdj : oj.dst = some tj)
    (hwi : Region.wanted oi (yielded ops a.tmps) = true) (hwj : Region.wanted oj (yielded ops a.tmps) = true) (hij : i ≠ j) (hne : ti ≠ tj)
    (h1 : ∃ v1 v2 w1 w2, (execOp a.eval oi).run P w = .ok (.value v1) w1 ∧ (execOp (Act.eval { a with tmps := a.tmps.setIfInBounds ti v1 }) oj).run P w1 = .ok (.value v2) w2 ∧ R v1 v2 w2 ∧ Region.wanted oj (yielded ops (a.tmps.setIfInBounds ti v1)) = true ∧ S w1)
    (h2 : ∃ v1 v2 w1 w2, (execOp a.eval oj).run P w = .ok (.value v2) w1 ∧ (execOp (Act.eval { a with tmps := a.tmps.setIfInBounds tj v2 }) oi).run P w1 = .ok (.value v1) w2 ∧ R v1 v2 w2 ∧ Region.wanted oi (yielded ops (a.tmps.setIfInBounds tj v2)) = true ∧ S w1)
    (hS : ∀ v1 v2 W, R v1 v2 W → S W)
    (h : ∀ v1 v2 W, R v1 v2 W → Any P md ops Q S st f ((s.setIfInBounds i true).setIfInBounds j true) { a with tmps := (a.tmps.setIfInBounds ti v1).setIfInBounds tj v2 } W) : Any P md ops Q S st (f + 1 + 1) s a w := by
  refine Any.each [i, j] hr (by simp) fun x hx => ?_
  simp only [List.mem_cons, List.not_mem_nil, or_false] at hx
  rcases hx with rfl | rfl
  · obtain ⟨v1, v2, w1, w2, e1, e2, hR, hw, hs⟩ := h1
    exact wpOp_exec hi hdi hwi e1 ⟨fun _ => hs, Any.exec j tj v2 hr1 hj hdj hw e2 (hS _ _ _ hR) (h v1 v2 w2 hR)⟩
  · obtain ⟨v1, v2, w1, w2, e1, e2, hR, hw, hs⟩ := h2
    have h3 := h v1 v2 w2 hR
    rw [Array.setIfInBounds_comm _ _ hij, Array.setIfInBounds_comm _ _ hne] at h3
    exact wpOp_exec hj hdj hwj e1 ⟨fun _ => hs, Any.exec i ti v1 hr2 hi hdi hw e2 (hS _ _ _ hR) h3⟩
/-- Three that make a block each may come in whatever row. -/
theorem Any.race3 {P : Program} {md : Region.Mode} {ops : Array Oper} {Q : Exit → Act → World → Prop} {S : World → Prop} {st : Nat} {s : Array Bool} {a : Act} {w : World} {f : Nat} (i j k ti tj tk ni nj nk : Nat) {oi oj ok : Oper} (ci cj ck : Array Value) (t : TypeId)
    (hij : i ≠ j) (hik : i ≠ k) (hjk : j ≠ k) (hr : Region.ready md ops s = [i, j, k]) (hri : Region.ready md ops (s.setIfInBounds i true) = [j, k]) (hrj : Region.ready md ops (s.setIfInBounds j true) = [i, k]) (hrk : Region.ready md ops (s.setIfInBounds k true) = [i, j])
    (hrij : Region.ready md ops ((s.setIfInBounds i true).setIfInBounds j true) = [k]) (hrik : Region.ready md ops ((s.setIfInBounds i true).setIfInBounds k true) = [j]) (hrjk : Region.ready md ops ((s.setIfInBounds j true).setIfInBounds k true) = [i])
    (hi : ops[i]? = some oi) (hj : ops[j]? = some oj) (hk : ops[k]? = some ok) (hdi : oi.dst = some ti) (hdj : oj.dst = some tj) (hdk : ok.dst = some tk) (htij : ti ≠ tj) (htik : ti ≠ tk) (htjk : tj ≠ tk)
    (hgi : oi.guard = none) (hgj : oj.guard = none) (hgk : ok.guard = none)
    (ei : ∀ (b : Act) (u : World), (execOp b.eval oi).run P u = .ok (.value (.slice (some ⟨u.heap.size, 0, none⟩) ni ni)) (u.alloc (.cells ci t)))
    (ej : ∀ (b : Act) (u : World), (execOp b.eval oj).run P u = .ok (.value (.slice (some ⟨u.heap.size, 0, none⟩) nj nj)) (u.alloc (.cells cj t)))
    (ek : ∀ (b : Act) (u : World), (execOp b.eval ok).run P u = .ok (.value (.slice (some ⟨u.heap.size, 0, none⟩) nk nk)) (u.alloc (.cells ck t)))
    (hS : ∀ u, Below w.heap.size w u → S u)
    (h : ∀ x y z W, Below w.heap.size w W → W.heap[x]? = some (.cells ci t (0, 0)) → W.heap[y]? = some (.cells cj t (0, 0)) → W.heap[z]? = some (.cells ck t (0, 0)) →
      Any P md ops Q S st f (((s.setIfInBounds i true).setIfInBounds j true).setIfInBounds k true) { a with tmps := ((a.tmps.setIfInBounds ti (.slice (some ⟨x, 0, none⟩) ni ni)).setIfInBounds tj (.slice (some ⟨y, 0, none⟩) nj nj)).setIfInBounds tk (.slice (some ⟨z, 0, none⟩) nk nk) } W) : Any P md ops Q S st (f + 1 + 1 + 1) s a w := by
  have wi : ∀ tm, Region.wanted oi (yielded ops tm) = true := fun tm => by simp [Region.wanted, hgi]
  have wj : ∀ tm, Region.wanted oj (yielded ops tm) = true := fun tm => by simp [Region.wanted, hgj]
  have wk : ∀ tm, Region.wanted ok (yielded ops tm) = true := fun tm => by simp [Region.wanted, hgk]
  have bb := fun (u : World) (c : Array Value) => M.below_box u (.cells c t)
  have hn := fun (u : World) (c : Array Value) => heap_alloc_new u (.cells c t)
  have st1 : ∀ (u : World) (c : Array Value) (x : Nat) (o : Obj), u.heap[x]? = some o → (u.alloc (.cells c t)).heap[x]? = some o := fun u c x o hx => ((bb u c).block x (M.row_lt hx)).trans hx
  have b2 : ∀ (c d : Array Value), Below w.heap.size w ((w.alloc (.cells c t)).alloc (.cells d t)) := fun c d => (bb _ _).trans ((bb _ _).mono (bb _ _).size)
  have b3 : ∀ (c d e : Array Value), Below w.heap.size w (((w.alloc (.cells c t)).alloc (.cells d t)).alloc (.cells e t)) := fun c d e => (b2 c d).trans ((bb _ _).mono (b2 c d).size)
  have cs := fun {x y : Nat} (hxy : x ≠ y) (q : Array Bool) => Array.setIfInBounds_comm (xs := q) true true hxy
  refine Any.each [i, j, k] hr (by simp) fun x hx => ?_
  simp only [List.mem_cons, List.not_mem_nil, or_false] at hx
  rcases hx with rfl | rfl | rfl
  · refine wpOp_exec hi hdi (wi _) (ei _ _) ⟨fun _ => hS _ (bb _ _), Any.each [j, k] hri (by simp) fun y hy => ?_⟩
    simp only [List.mem_cons, List.not_mem_nil, or_false] at hy
    rcases hy with rfl | rfl
    · refine wpOp_exec hj hdj (wj _) (ej _ _) ⟨fun _ => hS _ (b2 _ _), Any.exec k tk _ hrij hk hdk (wk _) (ek _ _) (hS _ (b3 _ _ _)) ?_⟩
      exact h _ _ _ _ (b3 _ _ _) (st1 _ _ _ _ (st1 _ _ _ _ (hn _ _))) (st1 _ _ _ _ (hn _ _)) (hn _ _)
    · refine wpOp_exec hk hdk (wk _) (ek _ _) ⟨fun _ => hS _ (b2 _ _), Any.exec j tj _ hrik hj hdj (wj _) (ej _ _) (hS _ (b3 _ _ _)) ?_⟩
      have h3 := h _ _ _ _ (b3 ci ck cj) (st1 _ _ _ _ (st1 _ _ _ _ (hn _ _))) (hn _ _) (st1 _ _ _ _ (hn _ _))
      rw [Array.setIfInBounds_comm _ _ hjk, Array.setIfInBounds_comm _ _ htjk] at h3
      exact h3
  · refine wpOp_exec hj hdj (wj _) (ej _ _) ⟨fun _ => hS _ (bb _ _), Any.each [i, k] hrj (by simp) fun y hy => ?_⟩
    simp only [List.mem_cons, List.not_mem_nil, or_false] at hy
    rcases hy with rfl | rfl
    · refine wpOp_exec hi hdi (wi _) (ei _ _) ⟨fun _ => hS _ (b2 _ _), Any.exec k tk _ (by rw [← hrij, Array.setIfInBounds_comm _ _ hij]) hk hdk (wk _) (ek _ _) (hS _ (b3 _ _ _)) ?_⟩
      have h3 := h _ _ _ _ (b3 cj ci ck) (st1 _ _ _ _ (hn _ _)) (st1 _ _ _ _ (st1 _ _ _ _ (hn _ _))) (hn _ _)
      rw [Array.setIfInBounds_comm (xs := s) _ _ hij, Array.setIfInBounds_comm (xs := a.tmps) _ _ htij] at h3
      exact h3
    · refine wpOp_exec hk hdk (wk _) (ek _ _) ⟨fun _ => hS _ (b2 _ _), Any.exec i ti _ hrjk hi hdi (wi _) (ei _ _) (hS _ (b3 _ _ _)) ?_⟩
      have h3 := h _ _ _ _ (b3 cj ck ci) (hn _ _) (st1 _ _ _ _ (st1 _ _ _ _ (hn _ _))) (st1 _ _ _ _ (hn _ _))
      rw [Array.setIfInBounds_comm (xs := s) _ _ hij, Array.setIfInBounds_comm _ _ hik, Array.setIfInBounds_comm (xs := a.tmps) _ _ htij, Array.setIfInBounds_comm _ _ htik] at h3
      exact h3
  · refine wpOp_exec hk hdk (wk _) (ek _ _) ⟨fun _ => hS _ (bb _ _), Any.each [i, j] hrk (by simp) fun y hy => ?_⟩
    simp only [List.mem_cons, List.not_mem_nil, or_false] at hy
    rcases hy with rfl | rfl
    · refine wpOp_exec hi hdi (wi _) (ei _ _) ⟨fun _ => hS _ (b2 _ _), Any.exec j tj _ (by rw [← hrik, Array.setIfInBounds_comm _ _ hik]) hj hdj (wj _) (ej _ _) (hS _ (b3 _ _ _)) ?_⟩
      have h3 := h _ _ _ _ (b3 ck ci cj) (st1 _ _ _ _ (hn _ _)) (hn _ _) (st1 _ _ _ _ (st1 _ _ _ _ (hn _ _)))
      rw [Array.setIfInBounds_comm _ _ hjk, Array.setIfInBounds_comm (xs := s) _ _ hik, Array.setIfInBounds_comm _ _ htjk, Array.setIfInBounds_comm (xs := a.tmps) _ _ htik] at h3
      exact h3
    · refine wpOp_exec hj hdj (wj _) (ej _ _) ⟨fun _ => hS _ (b2 _ _), Any.exec i ti _ (by rw [← hrjk, Array.setIfInBounds_comm _ _ hjk]) hi hdi (wi _) (ei _ _) (hS _ (b3 _ _ _)) ?_⟩
      have h3 := h _ _ _ _ (b3 ck cj ci) (hn _ _) (st1 _ _ _ _ (hn _ _)) (st1 _ _ _ _ (st1 _ _ _ _ (hn _ _)))
      rw [Array.setIfInBounds_comm (xs := s) _ _ hij, Array.setIfInBounds_comm _ _ hik, Array.setIfInBounds_comm (xs := s) _ _ hjk, Array.setIfInBounds_comm (xs := a.tmps) _ _ htij, Array.setIfInBounds_comm _ _ htik, Array.setIfInBounds_comm (xs := a.tmps) _ _ htjk] at h3
      exact h3
end RK
end Go.Proofs.YtlnlepadninnaaaDoor
/- Rows that a call makes by appends, one value behind the other, while what the values stand for lies elsewhere; boxes and rows of rows; parameters loaded. -/
namespace Go.Proofs.YtlnlepadninnaaaDoor
open Go Go.RowKit Go.Lib
namespace M
/-- Cells of all types but two stay as they are. -/
def Sm (T S : TypeId) (X Y : World) : Prop := ∀ (k : Nat) (cs : Array Value) (t : TypeId) (fr : Nat × Nat), t ≠ T → t ≠ S → X.heap[k]? = some (.cells cs t fr) → Y.heap[k]? = some (.cells cs t fr)
theorem Sm.of_as {T S : TypeId} {X Y : World} (h : CellsAs X Y) : Sm T S X Y := fun k cs t fr _ _ e => h k cs t fr e
theorem Sm.trans {T S : TypeId} {X Y Z : World} (h : Sm T S X Y) (k : Sm T S Y Z) : Sm T S X Z := fun j cs t fr a b e => k j cs t fr a b (h j cs t fr a b e)
theorem ownsRow_as {X Y : World} {B size n : Nat} {T : TypeId} {v : Value} {xs : List Value} (h : X.ownsRow B T size v n xs) (hk : ∀ (k : Nat) (cs : Array Value), B ≤ k → X.heap[k]? = some (.cells cs T (0, 0)) → Y.heap[k]? = some (.cells cs T (0, 0))) : Y.ownsRow B T size v n xs := by
  obtain ⟨h1, h2 | ⟨g, cap, cur, a, b, c, d⟩⟩ := h
  · exact ⟨h1, .inl h2⟩
  · exact ⟨h1, .inr ⟨g, cap, cur, a, b, hk g cur b c, d⟩⟩
/-- A row of values, k of them, that lies behind B; each is as C says. -/
def Grow (T : TypeId) (B : Nat) (C : Nat → Value → World → Prop) (v : Value) (k : Nat) (X : World) : Prop := ∃ xs : List Value, xs.length = k ∧ X.ownsRow B T 1 v k xs ∧ ∀ j, j < k → ∃ u, xs[j]? = some u ∧ C j u X
theorem Grow.start (T : TypeId) (B : Nat) (C : Nat → Value → World → Prop) (X : World) : Grow T B C (.slice none 0 0) 0 X := ⟨[], rfl, ⟨rfl, .inl ⟨rfl, rfl⟩⟩, fun _ h => absurd h (by omega)⟩
section
variable {T S : TypeId} {B k : Nat} {C : Nat → Value → World → Prop} {v : Value} {X Y : World}
theorem Grow.as (h : Grow T B C v k X) (hC : ∀ j u, j < k → C j u X → C j u Y) (hk : ∀ (k : Nat) (cs : Array Value), B ≤ k → X.heap[k]? = some (.cells cs T (0, 0)) → Y.heap[k]? = some (.cells cs T (0, 0))) : Grow T B C v k Y := by
  obtain ⟨xs, h1, h2, h3⟩ := h
  exact ⟨xs, h1, ownsRow_as h2 hk, fun j hj => let ⟨u, a, b⟩ := h3 j hj; ⟨u, a, hC j u hj b⟩⟩
/-- One value more, that lies in a block by itself. -/
theorem Grow.more {i0 : TypeInfo} {z0 : Value} {sz : Nat} (hS : Tryd.prog.underlying S = some (.slice T)) (hi : Tryd.prog.info? T = some i0) (hz : i0.zero = some z0) (h1 : i0.size = 1) (h2 : i0.bytes = sz) (hzs : z0.cells.size = 1) (hsz : sz ≤ 24)
    (h : Grow T B C v k X) (hB : B ≤ X.heap.size) (hk : k ≤ 900000) (u : Value) (c : Nat) (h1u : u.oneCell' = true) (hu : C k u X) (hCs : ∀ j x Y, C j x X → Sm T S X Y → C j x Y) :
    ∃ v' Y, (Builtin.append_ #[S, S] S #[v, .slice (some ⟨X.heap.size, 0, none⟩) 1 c]).run Tryd.prog (X.alloc (.cells #[u] T)) = .ok v' Y ∧ Grow T B C v' (k + 1) Y ∧ Sm T S X Y ∧ RL.Objs X Y ∧ X.heap.size ≤ Y.heap.size ∧ (∀ j, j < B → Y.heap[j]? = X.heap[j]?) ∧ Y.os = X.os ∧ Y.tape = X.tape ∧ Y.output = X.output := by
  obtain ⟨xs, hx, ho, hr⟩ := h
  have hb := below_box X (.cells #[u] T)
  have hnew := heap_alloc_new X (.cells #[u] T)
  obtain ⟨X1, hX1⟩ : ∃ X1, X.alloc (.cells #[u] T) = X1 := ⟨_, rfl⟩
  rw [hX1] at hb hnew ⊢
  have ho1 : X1.ownsRow B T 1 v k xs := ownsRow_as ho fun j cs _ hj => (hb.block j (row_lt hj)).trans hj
  obtain ⟨v', Y, hrun, hown, hg, _⟩ := run_append_own (P := Tryd.prog) X1 B S S T i0 z0 1 sz hS hi hz h1 h2 hzs (by decide) v k xs ho1 ⟨X.heap.size, 0, none⟩ 1 c [u] (by rfl) (fun j y hj => by
    have hl := (List.getElem?_eq_some_iff.1 hj).1
    obtain rfl : j = 0 := by simpa using hl
    cases hj
    rw [add_zero', cell_of_row _ _ _ _ _ _ hnew]; rfl) (by simpa using h1u) (by unfold maxLen; omega) (Nat.le_trans (Nat.mul_le_mul (show k + 1 ≤ 1000000 by omega) hsz) (by decide)) (Nat.le_trans hB hb.size)
  have hob : ∀ j, v.ownBlock = some j → ∃ cs, X1.heap[j]? = some (.cells cs T (0, 0)) := fun j e => by
    rcases ho1.2 with ⟨rfl, _⟩ | ⟨g, cap, cur, rfl, _, hg3, _⟩
    · cases e
    · have e' : g = j := by simpa [Value.ownBlock] using e
      subst e'
      exact ⟨cur, hg3⟩
  have hlow : ∀ j, v.ownBlock = some j → B ≤ j := fun j e => by
    rcases ho1.2 with ⟨rfl, _⟩ | ⟨g, cap, cur, rfl, hg2, _⟩
    · cases e
    · have e' : g = j := by simpa [Value.ownBlock] using e
      subst e'
      exact hg2
  have hsm1 : Sm T S X1 Y := fun j cs t fr hT _ e => (hg.block j (row_lt e) (fun e1 => by
    obtain ⟨cs', hcs⟩ := hob j e1.symm
    rw [e] at hcs
    injection hcs with hcs
    injection hcs with _ e2 _
    exact hT e2)).trans e
  have hsm : Sm T S X Y := (Sm.of_as (.of_below hb)).trans hsm1
  refine ⟨v', Y, hrun, ⟨xs ++ [u], by simp [hx], hown, fun j hj => ?_⟩, hsm, (RL.Objs.of_below hb).trans (RL.Objs.grown hg fun j e => let ⟨cs, h⟩ := hob j e; ⟨cs, T, (0, 0), h⟩), Nat.le_trans hb.size hg.size, fun j hj => ?_, hg.os.trans hb.os, hg.tape.trans hb.tape, hg.output.trans hb.output⟩
  · by_cases e : j = k
    · subst e
      exact ⟨u, by rw [List.getElem?_append_right (by omega), hx]; simp, hCs _ _ _ hu hsm⟩
    · obtain ⟨y, a, b⟩ := hr j (by omega)
      exact ⟨y, by rw [List.getElem?_append_left (by omega)]; exact a, hCs _ _ _ b hsm⟩
  · have := hb.size
    exact (hg.block j (by omega) (fun e1 => by have := hlow j e1.symm; omega)).trans (hb.block j (by omega))
end
/-- Parameters are loaded, wherever in a region. -/
theorem load_pbox {w : World} {g : Nat} {p : Pm} (h : PBox w g p) {o : Oper} {ev : Operand → Value} {x : Operand} (ho : o.op = .load 24 x) (hx : ev x = .pointer (some ⟨g, 0, none⟩)) : (execOp ev o).run Tryd.prog w = .ok (.value (.agg p.cells)) w := by
  unfold execOp
  simp only [ho, hx, Instr.loadAt, Instr.sureAddr, Sem.run_bind, Sem.run_pure, Result.andThen_ok, run_loadVar_row w g 24 24 p.cells (0, 0) _ h Tryd.underlying24 rfl (by kernel_rfl)]
/-- A list of lists in a block of its own, behind lo. -/
def MatC (lo : Nat) (W : World) (v : Value) (m : Nat) (L : Nat → Nat) (F : Nat → Nat → Nat) : Prop := (v = .slice none 0 0 ∧ m = 0) ∨ ∃ B c cs, v = .slice (some ⟨B, 0, none⟩) m c ∧ lo ≤ B ∧ W.heap[B]? = some (.cells cs 25 (0, 0)) ∧ ∀ i, i < m → ∃ u, cs[i]? = some u ∧ RowC lo W u (L i) (F i)
section
variable {lo : Nat} {W W' : World} {v : Value} {m : Nat} {L : Nat → Nat} {F : Nat → Nat → Nat}
theorem MatC.same (h : MatC lo W v m L F) (hk : ∀ (B : Nat) (cs : Array Value) (t : TypeId), t = 25 ∨ t = 22 → W.heap[B]? = some (.cells cs t (0, 0)) → W'.heap[B]? = some (.cells cs t (0, 0))) : MatC lo W' v m L F := by
  rcases h with h | ⟨B, c, cs, h0, h1, h2, h3⟩
  · exact .inl h
  · exact .inr ⟨B, c, cs, h0, h1, hk B cs _ (.inl rfl) h2, fun i hi => let ⟨u, a, b⟩ := h3 i hi; ⟨u, a, b.same fun B cs => hk B cs _ (.inr rfl)⟩⟩
theorem MatC.as (h : MatC lo W v m L F) (hb : CellsAs W W') : MatC lo W' v m L F := h.same fun _ _ _ _ e => hb _ _ _ _ e
theorem MatC.below (h : MatC lo W v m L F) (hb : Below W.heap.size W W') : MatC lo W' v m L F := h.as (.of_below hb)
theorem MatC.mono {lo' : Nat} (h : MatC lo W v m L F) (hl : lo' ≤ lo) : MatC lo' W v m L F := by
  rcases h with h | ⟨B, c, cs, h0, h1, h2, h3⟩
  · exact .inl h
  · exact .inr ⟨B, c, cs, h0, Nat.le_trans hl h1, h2, fun i hi => let ⟨u, a, b⟩ := h3 i hi; ⟨u, a, b.mono hl⟩⟩
theorem MatC.one (h : MatC lo W v m L F) : v.oneCell' = true := by
  rcases h with ⟨rfl, _⟩ | ⟨_, _, _, rfl, _⟩ <;> rfl
theorem MatC.matV (h : MatC lo W v m L F) : MatV W v m L F := by
  rcases h with ⟨rfl, rfl⟩ | ⟨B, c, cs, rfl, h1, h2, h3⟩
  · exact MatV.nil _ _ _
  · refine ⟨_, c, rfl, fun i hi => ?_, fun h => by cases h⟩
    obtain ⟨u, a, b⟩ := h3 i hi
    obtain ⟨bo, cu, rfl, hs⟩ := b.src
    exact ⟨_, bo, cu, rfl, by rw [add_zero', cell_of_row _ _ _ _ _ _ h2]; exact a, hs⟩
theorem MatC.congr {L' : Nat → Nat} {F' : Nat → Nat → Nat} (h : MatC lo W v m L F) (hL : ∀ i, i < m → L i = L' i) (hF : ∀ i, i < m → ∀ j, j < L i → F i j = F' i j) : MatC lo W v m L' F' := by
  rcases h with h | ⟨B, c, cs, h0, h1, h2, h3⟩
  · exact .inl h
  · exact .inr ⟨B, c, cs, h0, h1, h2, fun i hi => let ⟨u, a, b⟩ := h3 i hi; ⟨u, a, by rw [← hL i hi]; exact b.congr (hF i hi)⟩⟩
end
/-- Lists of lists of lists in a block of its own. -/
def CubC (lo : Nat) (W : World) (v : Value) (n : Nat) (K : Nat → Nat) (L : Nat → Nat → Nat) (F : Nat → Nat → Nat → Nat) : Prop := (v = .slice none 0 0 ∧ n = 0) ∨ ∃ B c cs, v = .slice (some ⟨B, 0, none⟩) n c ∧ lo ≤ B ∧ W.heap[B]? = some (.cells cs 31 (0, 0)) ∧ ∀ i, i < n → ∃ u, cs[i]? = some u ∧ MatC lo W u (K i) (L i) (F i)
section
variable {lo : Nat} {W W' : World} {v : Value} {n : Nat} {K : Nat → Nat} {L : Nat → Nat → Nat} {F : Nat → Nat → Nat → Nat}
theorem CubC.as (h : CubC lo W v n K L F) (hb : CellsAs W W') : CubC lo W' v n K L F := by
  rcases h with h | ⟨B, c, cs, h0, h1, h2, h3⟩
  · exact .inl h
  · exact .inr ⟨B, c, cs, h0, h1, hb _ _ _ _ h2, fun i hi => let ⟨u, a, b⟩ := h3 i hi; ⟨u, a, b.as hb⟩⟩
theorem CubC.below (h : CubC lo W v n K L F) (hb : Below W.heap.size W W') : CubC lo W' v n K L F := h.as (.of_below hb)
/-- What they read as. -/
theorem CubC.cub (h : CubC lo W v n K L F) : ∃ ao c, v = .slice ao n c ∧ Cub W ao n K L F ∧ (ao = none → n = 0 ∧ c = 0) := by
  rcases h with ⟨rfl, rfl⟩ | ⟨B, c, cs, rfl, h1, h2, h3⟩
  · exact ⟨none, 0, rfl, fun _ h => absurd h (by omega), fun _ => ⟨rfl, rfl⟩⟩
  · refine ⟨_, c, rfl, fun i hi => ?_, fun h => by cases h⟩
    obtain ⟨u, a, b⟩ := h3 i hi
    exact ⟨_, u, rfl, by rw [add_zero', cell_of_row _ _ _ _ _ _ h2]; exact a, b.matV⟩
end
/-- A row that was made by appends, as what its values stand for. -/
theorem Grow.block {T : TypeId} {B k : Nat} {C : Nat → Value → World → Prop} {v : Value} {X : World} (h : Grow T B C v k X) : (v = .slice none 0 0 ∧ k = 0) ∨ ∃ g c cs, v = .slice (some ⟨g, 0, none⟩) k c ∧ B ≤ g ∧ X.heap[g]? = some (.cells cs T (0, 0)) ∧ ∀ i, i < k → ∃ u, cs[i]? = some u ∧ C i u X := by
  obtain ⟨xs, hx, ⟨_, h1 | ⟨g, cap, cur, h1, h2, h3, h4, h5, _, h7⟩⟩, hr⟩ := h
  · exact .inl h1
  · refine .inr ⟨g, cap, cur, h1, h2, h3, fun i hi => ?_⟩
    obtain ⟨u, a, b⟩ := hr i hi
    refine ⟨u, ?_, b⟩
    have e1 : (cur.toList.take (k * 1))[i]? = xs[i]? := by rw [h7]
    rw [a, List.getElem?_take_of_lt (by omega)] at e1
    simpa using e1
theorem Grow.slice {T : TypeId} {B k : Nat} {C : Nat → Value → World → Prop} {v : Value} {X : World} (h : Grow T B C v k X) : ∃ ao c, v = .slice ao k c := by
  rcases h.block with ⟨rfl, rfl⟩ | ⟨g, c, _, rfl, _⟩
  · exact ⟨_, _, rfl⟩
  · exact ⟨_, _, rfl⟩
/-- A slice with room for what it has. -/
def CapOk (v : Value) : Prop := ∃ ao n c, v = .slice ao n c ∧ n ≤ c
theorem Grow.cap {T : TypeId} {B k : Nat} {C : Nat → Value → World → Prop} {v : Value} {X : World} (h : Grow T B C v k X) : CapOk v := by
  obtain ⟨xs, hx, ⟨_, ⟨rfl, _⟩ | ⟨g, cap, cur, h1, h2, h3, h4, _⟩⟩, hr⟩ := h
  · exact ⟨_, _, _, rfl, Nat.le_refl _⟩
  · exact ⟨_, _, _, h1, h4⟩
theorem CapOk.le {ao : Option Addr} {n c : Nat} (h : CapOk (.slice ao n c)) : n ≤ c := by
  obtain ⟨_, _, _, e, h1⟩ := h
  injection e with _ e1 e2
  omega
end M
end Go.Proofs.YtlnlepadninnaaaDoor
