/- Drawn regions in which more than one operation may come, and operations that make memory: for regions that are walked by hand. -/
import Derived.Test.YtdblijpoelcghaaRegK
import Derived.Test.YtdblijpoelcghaaNum
namespace Go.Proofs.Ytdblijpoelcghaa
open Go Go.RowKit Go.Lib
namespace RK
/-- Number i alone may come, and makes a value and a world. -/
theorem Any.exec {P : Program} {md : Region.Mode} {ops : Array Oper} {Q : Exit → Act → World → Prop} {S : World → Prop} {st : Nat} {s : Array Bool} {a : Act} {w w1 : World} {f : Nat} (i t : Nat) {o : Oper} (v : Value) (hr : Region.ready md ops s = [i]) (hi : ops[i]? = some o) (hd : o.dst = some t) (hw : Region.wanted o (yielded ops a.tmps) = true)
    (he : (execOp a.eval o).run P w = .ok (.value v) w1) (hS : S w1) (h : Any P md ops Q S st f (s.setIfInBounds i true) { a with tmps := a.tmps.setIfInBounds t v } w1) : Any P md ops Q S st (f + 1) s a w :=
  ⟨fun e => (by rw [hr] at e; cases e), fun j hj => by
    rw [hr] at hj
    obtain rfl : j = i := by simpa using hj
    unfold wpOp
    simp only [hi, hw, if_true]
    refine .inl ?_
    unfold Oper.wp
    rw [he, Oper.upon_value, hd]
    exact ⟨fun _ => hS, h⟩⟩
theorem exec_append {P : Program} {o : Oper} {a : Act} {w w' : World} {v' : Value} (s x : Operand) (t tn : TypeId) (ho : o.op = .call { callee := .builtin .append, args := #[s, x], argTypes := #[t, tn] }) (vs vx : Value) (hs : a.eval s = vs) (hx : a.eval x = vx)
    (hr : (Builtin.append_ #[t, tn] o.type #[vs, vx]).run P w = .ok v' w') : (execOp a.eval o).run P w = .ok (.value v') w' := by
  unfold execOp
  simp only [ho, resolve, invoke, builtin, Sem.run_bind, Sem.run_pure, Result.andThen_ok, List.map_toArray, List.map_cons, List.map_nil, hs, hx, hr]
section
variable {P : Program} {md : Region.Mode} {ops : Array Oper} {Q : Exit → Act → World → Prop} {S : World → Prop} {st : Nat}
/-- Each of some operations may come. -/
theorem Any.each {s : Array Bool} {a : Act} {w : World} {f : Nat} (l : List Nat) (hr : Region.ready md ops s = l) (h0 : l ≠ []) (h : ∀ i ∈ l, wpOp P ops Q i (fun a' w' => (i ≠ st → S w') ∧ Any P md ops Q S st f (s.setIfInBounds i true) a' w') a w) : Any P md ops Q S st (f + 1) s a w :=
  ⟨fun e => absurd (hr.symm.trans e) h0, fun i hi => h i (hr ▸ hi)⟩
theorem wpOp_exec {i t : Nat} {o : Oper} {v : Value} {a : Act} {w w1 : World} {K : Act → World → Prop} (hi : ops[i]? = some o) (hd : o.dst = some t) (hw : Region.wanted o (yielded ops a.tmps) = true) (he : (execOp a.eval o).run P w = .ok (.value v) w1) (h : K { a with tmps := a.tmps.setIfInBounds t v } w1) : wpOp P ops Q i K a w := by
  unfold wpOp
  simp only [hi, hw, if_true]
  refine .inl ?_
  unfold Oper.wp
  rw [he, Oper.upon_value, hd]
  exact h
theorem wpOp_call {i t : Nat} {o : Oper} {g : FuncId} {args : Array Value} {a : Act} {w : World} {K : Act → World → Prop} (hi : ops[i]? = some o) (hd : o.dst = some t) (hw : Region.wanted o (yielded ops a.tmps) = true) (he : (execOp a.eval o).run P w = .ok (.enter g args) w)
    (h : Calls P g args w fun e w' => ∃ v, e = .returned v ∧ K { a with tmps := a.tmps.setIfInBounds t v } w') : wpOp P ops Q i K a w := by
  unfold wpOp
  simp only [hi, hw, if_true]
  refine .inl ?_
  unfold Oper.wp
  rw [he, Oper.upon_enter]
  refine h.mono ?_
  rintro e w' ⟨v, rfl, h1⟩
  rw [hd]
  exact h1
end
/-- A region, cut off from what follows. -/
theorem cut {P : Program} {c : Code} {Q : Exit → Act → World → Prop} {a : Act} {w : World} (R : Act → Act → World → Prop) (h1 : c.wp P (fun e a' w' => e = .normal ∧ R a a' w') a w) (h2 : ∀ a' w', R a a' w' → Q .normal a' w') : c.wp P Q a w :=
  wp_mono h1 fun e a' w' ⟨he, hr⟩ => by subst he; exact h2 a' w' hr
theorem Any.race {P : Program} {md : Region.Mode} {ops : Array Oper} {Q : Exit → Act → World → Prop} {S : World → Prop} {st : Nat} {s : Array Bool} {a : Act} {w : World} {f : Nat} (i j ti tj : Nat) {oi oj : Oper} (R : Value → Value → World → Prop)
    (hr : Region.ready md ops s = [i, j]) (hr1 : Region.ready md ops (s.setIfInBounds i true) = [j]) (hr2 : Region.ready md ops (s.setIfInBounds j true) = [i]) (hi : ops[i]? = some oi) (hj : ops[j]? = some oj) (hdi : oi.dst = some ti) (hdj : oj.dst = some tj)
    (hwi : Region.wanted oi (yielded ops a.tmps) = true) (hwj : Region.wanted oj (yielded ops a.tmps) = true) (hij : i ≠ j) (hne : ti ≠ tj)
    (h1 : ∃ v1 v2 w1 w2, (execOp a.eval oi).run P w = .ok (.value v1) w1 ∧ (execOp (Act.eval { a with tmps := a.tmps.setIfInBounds ti v1 }) oj).run P w1 = .ok (.value v2) w2 ∧ R v1 v2 w2 ∧ Region.wanted oj (yielded ops (a.tmps.setIfInBounds ti v1)) = true ∧ S w1)
    (h2 : ∃ v1 v2 w1 w2, (execOp a.eval oj).run P w = .ok (.value v2) w1 ∧ (execOp (Act.eval { a with tmps := a.tmps.setIfInBounds tj v2 }) oi).run P w1 = .ok (.value v1) w2 ∧ R v1 v2 w2 ∧ Region.wanted oi (yielded ops (a.tmps.setIfInBounds tj v2)) = true ∧ S w1)
    (hS : ∀ v1 v2 W, R v1 v2 W → S W)
    (h : ∀ v1 v2 W, R v1 v2 W → Any P md ops Q S st f ((s.setIfInBounds i true).setIfInBounds j true) { a with tmps := (a.tmps.setIfInBounds ti v1).setIfInBounds tj v2 } W) : Any P md ops Q S st (f + 1 + 1) s a w := by
  refine Any.each [i, j] hr (by simp) fun x hx => ?_
  simp only [List.mem_cons, List.not_mem_nil, or_false] at hx
  rcases hx with rfl | rfl
  · obtain ⟨v1, v2, w1, w2, e1, e2, hR, hw, hs⟩ := h1
    exact wpOp_exec hi hdi hwi e1 ⟨fun _ => hs, Any.exec j tj v2 hr1 hj hdj hw e2 (hS _ _ _ hR) (h v1 v2 w2 hR)⟩
  · obtain ⟨v1, v2, w1, w2, e1, e2, hR, hw, hs⟩ := h2
    have h3 := h v1 v2 w2 hR
    rw [Array.setIfInBounds_comm _ _ hij, Array.setIfInBounds_comm _ _ hne] at h3
    exact wpOp_exec hj hdj hwj e1 ⟨fun _ => hs, Any.exec i ti v1 hr2 hi hdi hw e2 (hS _ _ _ hR) h3⟩
/-- Three that make a block each may come in whatever row. -/
theorem Any.race3 {P : Program} {md : Region.Mode} {ops : Array Oper} {Q : Exit → Act → World → Prop} {S : World → Prop} {st : Nat} {s : Array Bool} {a : Act} {w : World} {f : Nat} (i j k ti tj tk ni nj nk : Nat) {oi oj ok : Oper} (ci cj ck : Array Value) (t : TypeId)
    (hij : i ≠ j) (hik : i ≠ k) (hjk : j ≠ k) (hr : Region.ready md ops s = [i, j, k]) (hri : Region.ready md ops (s.setIfInBounds i true) = [j, k]) (hrj : Region.ready md ops (s.setIfInBounds j true) = [i, k]) (hrk : Region.ready md ops (s.setIfInBounds k true) = [i, j])
    (hrij : Region.ready md ops ((s.setIfInBounds i true).setIfInBounds j true) = [k]) (hrik : Region.ready md ops ((s.setIfInBounds i true).setIfInBounds k true) = [j]) (hrjk : Region.ready md ops ((s.setIfInBounds j true).setIfInBounds k true) = [i])
    (hi : ops[i]? = some oi) (hj : ops[j]? = some oj) (hk : ops[k]? = some ok) (hdi : oi.dst = some ti) (hdj : oj.dst = some tj) (hdk : ok.dst = some tk) (htij : ti ≠ tj) (htik : ti ≠ tk) (htjk : tj ≠ tk)
    (hgi : oi.guard = none) (hgj : oj.guard = none) (hgk : ok.guard = none)
    (ei : ∀ (b : Act) (u : World), (execOp b.eval oi).run P u = .ok (.value (.slice (some ⟨u.heap.size, 0, none⟩) ni ni)) (u.alloc (.cells ci t)))
    (ej : ∀ (b : Act) (u : World), (execOp b.eval oj).run P u = .ok (.value (.slice (some ⟨u.heap.size, 0, none⟩) nj nj)) (u.alloc (.cells cj t)))
    (ek : ∀ (b : Act) (u : World), (execOp b.eval ok).run P u = .ok (.value (.slice (some ⟨u.heap.size, 0, none⟩) nk nk)) (u.alloc (.cells ck t)))
    (hS : ∀ u, Below w.heap.size w u → S u)
    (h : ∀ x y z W, Below w.heap.size w W → W.heap[x]? = some (.cells ci t (0, 0)) → W.heap[y]? = some (.cells cj t (0, 0)) → W.heap[z]? = some (.cells ck t (0, 0)) →
      Any P md ops Q S st f (((s.setIfInBounds i true).setIfInBounds j true).setIfInBounds k true) { a with tmps := ((a.tmps.setIfInBounds ti (.slice (some ⟨x, 0, none⟩) ni ni)).setIfInBounds tj (.slice (some ⟨y, 0, none⟩) nj nj)).setIfInBounds tk (.slice (some ⟨z, 0, none⟩) nk nk) } W) : Any P md ops Q S st (f + 1 + 1 + 1) s a w := by
  have wi : ∀ tm, Region.wanted oi (yielded ops tm) = true := fun tm => by simp [Region.wanted, hgi]
  have wj : ∀ tm, Region.wanted oj (yielded ops tm) = true := fun tm => by simp [Region.wanted, hgj]
  have wk : ∀ tm, Region.wanted ok (yielded ops tm) = true := fun tm => by simp [Region.wanted, hgk]
  have bb := fun (u : World) (c : Array Value) => M.below_box u (.cells c t)
  have hn := fun (u : World) (c : Array Value) => heap_alloc_new u (.cells c t)
  have st1 : ∀ (u : World) (c : Array Value) (x : Nat) (o : Obj), u.heap[x]? = some o → (u.alloc (.cells c t)).heap[x]? = some o := fun u c x o hx => ((bb u c).block x (M.row_lt hx)).trans hx
  have b2 : ∀ (c d : Array Value), Below w.heap.size w ((w.alloc (.cells c t)).alloc (.cells d t)) := fun c d => (bb _ _).trans ((bb _ _).mono (bb _ _).size)
  have b3 : ∀ (c d e : Array Value), Below w.heap.size w (((w.alloc (.cells c t)).alloc (.cells d t)).alloc (.cells e t)) := fun c d e => (b2 c d).trans ((bb _ _).mono (b2 c d).size)
  have cs := fun {x y : Nat} (hxy : x ≠ y) (q : Array Bool) => Array.setIfInBounds_comm (xs := q) true true hxy
  refine Any.each [i, j, k] hr (by simp) fun x hx => ?_
  simp only [List.mem_cons, List.not_mem_nil, or_false] at hx
  rcases hx with rfl | rfl | rfl
  · refine wpOp_exec hi hdi (wi _) (ei _ _) ⟨fun _ => hS _ (bb _ _), Any.each [j, k] hri (by simp) fun y hy => ?_⟩
    simp only [List.mem_cons, List.not_mem_nil, or_false] at hy
    rcases hy with rfl | rfl
    · refine wpOp_exec hj hdj (wj _) (ej _ _) ⟨fun _ => hS _ (b2 _ _), Any.exec k tk _ hrij hk hdk (wk _) (ek _ _) (hS _ (b3 _ _ _)) ?_⟩
      exact h _ _ _ _ (b3 _ _ _) (st1 _ _ _ _ (st1 _ _ _ _ (hn _ _))) (st1 _ _ _ _ (hn _ _)) (hn _ _)
    · refine wpOp_exec hk hdk (wk _) (ek _ _) ⟨fun _ => hS _ (b2 _ _), Any.exec j tj _ hrik hj hdj (wj _) (ej _ _) (hS _ (b3 _ _ _)) ?_⟩
      have h3 := h _ _ _ _ (b3 ci ck cj) (st1 _ _ _ _ (st1 _ _ _ _ (hn _ _))) (hn _ _) (st1 _ _ _ _ (hn _ _))
      rw [Array.setIfInBounds_comm _ _ hjk, Array.setIfInBounds_comm _ _ htjk] at h3
      exact h3
  · refine wpOp_exec hj hdj (wj _) (ej _ _) ⟨fun _ => hS _ (bb _ _), Any.each [i, k] hrj (by simp) fun y hy => ?_⟩
    simp only [List.mem_cons, List.not_mem_nil, or_false] at hy
    rcases hy with rfl | rfl
    · refine wpOp_exec hi hdi (wi _) (ei _ _) ⟨fun _ => hS _ (b2 _ _), Any.exec k tk _ (by rw [← hrij, Array.setIfInBounds_comm _ _ hij]) hk hdk (wk _) (ek _ _) (hS _ (b3 _ _ _)) ?_⟩
      have h3 := h _ _ _ _ (b3 cj ci ck) (st1 _ _ _ _ (hn _ _)) (st1 _ _ _ _ (st1 _ _ _ _ (hn _ _))) (hn _ _)
      rw [Array.setIfInBounds_comm (xs := s) _ _ hij, Array.setIfInBounds_comm (xs := a.tmps) _ _ htij] at h3
      exact h3
    · refine wpOp_exec hk hdk (wk _) (ek _ _) ⟨fun _ => hS _ (b2 _ _), Any.exec i ti _ hrjk hi hdi (wi _) (ei _ _) (hS _ (b3 _ _ _)) ?_⟩
      have h3 := h _ _ _ _ (b3 cj ck ci) (hn _ _) (st1 _ _ _ _ (st1 _ _ _ _ (hn _ _))) (st1 _ _ _ _ (hn _ _))
      rw [Array.setIfInBounds_comm (xs := s) _ _ hij, Array.setIfInBounds_comm _ _ hik, Array.setIfInBounds_comm (xs := a.tmps) _ _ htij, Array.setIfInBounds_comm _ _ htik] at h3
      exact h3
  · refine wpOp_exec hk hdk (wk _) (ek _ _) ⟨fun _ => hS _ (bb _ _), Any.each [i, j] hrk (by simp) fun y hy => ?_⟩
    simp only [List.mem_cons, List.not_mem_nil, or_false] at hy
    rcases hy with rfl | rfl
    · refine wpOp_exec hi hdi (wi _) (ei _ _) ⟨fun _ => hS _ (b2 _ _), Any.exec j tj _ (by rw [← hrik, Array.setIfInBounds_comm _ _ hik]) hj hdj (wj _) (ej _ _) (hS _ (b3 _ _ _)) ?_⟩
      have h3 := h _ _ _ _ (b3 ck ci cj) (st1 _ _ _ _ (hn _ _)) (hn _ _) (st1 _ _ _ _ (st1 _ _ _ _ (hn _ _)))
      rw [Array.setIfInBounds_comm _ _ hjk, Array.setIfInBounds_comm (xs := s) _ _ hik, Array.setIfInBounds_comm _ _ htjk, Array.setIfInBounds_comm (xs := a.tmps) _ _ htik] at h3
      exact h3
    · refine wpOp_exec hj hdj (wj _) (ej _ _) ⟨fun _ => hS _ (b2 _ _), Any.exec i ti _ (by rw [← hrjk, Array.setIfInBounds_comm _ _ hjk]) hi hdi (wi _) (ei _ _) (hS _ (b3 _ _ _)) ?_⟩
      have h3 := h _ _ _ _ (b3 ck cj ci) (hn _ _) (st1 _ _ _ _ (hn _ _)) (st1 _ _ _ _ (st1 _ _ _ _ (hn _ _)))
      rw [Array.setIfInBounds_comm (xs := s) _ _ hij, Array.setIfInBounds_comm _ _ hik, Array.setIfInBounds_comm (xs := s) _ _ hjk, Array.setIfInBounds_comm (xs := a.tmps) _ _ htij, Array.setIfInBounds_comm _ _ htik, Array.setIfInBounds_comm (xs := a.tmps) _ _ htjk] at h3
      exact h3
end RK
end Go.Proofs.Ytdblijpoelcghaa
