/- The texts RegK, RegX, FixW5, one behind the other. -/
import Derived.Test.YtnlkikcnjlkkdaaWB4
import Derived.OrdersHeld
import Derived.Deep.RegionWith
import Derived.Test.YtnlkikcnjlkkdaaWB2
/- A region that draws its order, with loads beside calls that make memory, and a last store that may hit what it loads: the loads come first, whatever the order; outside, and in a round of a range over a function. -/
namespace Go.Proofs.Ytnlkikcnjlkkdaa
open Go
namespace RK
/-- A hypothesis that no tactic looks into till it is opened. -/
def Bar (p : Prop) : Prop := p
theorem Bar.out {p : Prop} (h : Bar p) : p := h
section
variable {P : Program} {md : Region.Mode} {ops : Array Oper} {Q : Exit → Act → World → Prop} {S : World → Prop} {st : Nat}
/-- Whatever order comes; behind each operation but number st S is shown. -/
def Any (P : Program) (md : Region.Mode) (ops : Array Oper) (Q : Exit → Act → World → Prop) (S : World → Prop) (st : Nat) : Nat → Array Bool → Act → World → Prop
  | 0, s, a, w => Region.ready md ops s = [] ∧ Q .normal a w
  | f + 1, s, a, w => (Region.ready md ops s = [] → Q .normal a w) ∧ ∀ i ∈ Region.ready md ops s, wpOp P ops Q i (fun a' w' => (i ≠ st → S w') ∧ Any P md ops Q S st f (s.setIfInBounds i true) a' w') a w
theorem Any.plain : ∀ (f : Nat) (s : Array Bool) (a : Act) (w : World), Any P md ops Q S st f s a w → wpAny P md ops Q f s a w
  | 0, _, _, _, h => h
  | f + 1, _, _, _, h => ⟨h.1, fun i hi => wpOp_mono (fun a' w' k => Any.plain f _ a' w' k.2) (h.2 i hi)⟩
theorem Any.first {i : Nat} {oi : Oper} {v : Value} (hi : ops[i]? = some oi) (hsel : ∀ (j : Nat) (o : Oper) cs b, ops[j]? = some o → o.op ≠ .select cs b)
    (hQ : ∀ c a w, Q (.panic c) (a.put oi.dst v) w → Q (.panic c) a w) (hst : ∀ oj, ops[st]? = some oj → ∃ e ∈ oj.after, Region.binds md e = true ∧ e.on = i) (f : Nat) :
    ∀ (s : Array Bool) (a : Act) (w : World), (∀ j oj, ops[j]? = some oj → j ≠ i → s.getD j true = false → (∀ e ∈ oj.after, Region.binds md e = true → e.on ≠ i) → oi.apart ops oj = true) →
      i ∈ Region.ready md ops s → YieldsIf P ops S oi v a → S w → Any P md ops Q S st f (s.setIfInBounds i true) (a.put oi.dst v) w → Any P md ops Q S st (f + 1) s a w := by
  induction f with
  | zero =>
    intro s a w _ hr hy hS H
    refine ⟨fun e => (by rw [e] at hr; cases hr), fun j hj => ?_⟩
    rcases Nat.decEq j i with hji | rfl
    · have h1 := ready_mono hj hji
      rw [H.1] at h1; cases h1
    · exact hy.wpOp hi hS ⟨fun _ => hS, H⟩
  | succ f ih =>
    intro s a w hfree hr hy hS H
    refine ⟨fun e => (by rw [e] at hr; cases hr), fun j hj => ?_⟩
    rcases Nat.decEq j i with hji | rfl
    · obtain ⟨hju, oj, hoj, hall⟩ := mem_ready.1 hj
      have hno : ∀ e ∈ oj.after, Region.binds md e = true → e.on ≠ i := fun e he hb e1 => by
        have h1 := hall e he hb
        rw [e1, getD_both (mem_ready.1 hr).1] at h1
        cases h1
      have hjst : j ≠ st := fun e => by
        subst e
        obtain ⟨e, he, hb, h1⟩ := hst oj hoj
        exact hno e he hb h1
      refine wpOp_mono (fun a' w' k => ⟨k.2.1, ih _ a' w' (fun k' ok hk hki hku => hfree k' ok hk hki ?_) (ready_mono hr (Ne.symm hji)) k.1 (k.2.1 hjst) ?_⟩)
        (wpOp_putIf hoj (hfree j oj hoj hji hju hno) (fun cs b => hsel i oi cs b hi) (fun cs b => hsel j oj cs b hoj) hQ hy (H.2 j (ready_mono hj hji)))
      · rcases Nat.decEq j k' with hjk | rfl
        · rwa [getD_set_ne true hjk] at hku
        · exact hju
      · rw [Array.setIfInBounds_comm _ _ hji]; exact k.2.2
    · exact hy.wpOp hi hS ⟨fun _ => hS, H⟩
/-- Number i comes first. -/
theorem Any.take {s : Array Bool} {a : Act} {w : World} {f : Nat} (i t : Nat) {oi : Oper} (v : Value) (hi : ops[i]? = some oi) (hd : oi.dst = some t) (hs : Region.noSelect ops = true) (hf : Region.free md ops s i = true) (hr : (Region.ready md ops s).contains i = true)
    (hst : (decide (ops.size ≤ st) || Region.waitsFor md ops st i) = true) (hQ : ∀ c a w, Q (.panic c) (a.put oi.dst v) w → Q (.panic c) a w)
    (hw : Region.wanted oi (yielded ops a.tmps) = true) (hy : ∀ w, S w → (execOp a.eval oi).run P w = .ok (.value v) w) (hS : S w) (h : Any P md ops Q S st f (s.setIfInBounds i true) { a with tmps := a.tmps.setIfInBounds t v } w) : Any P md ops Q S st (f + 1) s a w :=
  Any.first hi (Region.noSelect_spec hs) hQ (fun oj hoj => by
    rw [Bool.or_eq_true] at hst
    rcases hst with h1 | h1
    · have := (Array.getElem?_eq_some_iff.1 hoj).1
      have := of_decide_eq_true h1
      omega
    · obtain ⟨o', ho', e, he, hb, h2⟩ := Region.waitsFor_spec h1
      rw [hoj] at ho'; cases ho'
      exact ⟨e, he, hb, h2⟩) f s a w (Region.free_spec hi hf) (by simpa using hr) (.inl ⟨hw, hy⟩) hS (by rw [hd]; exact h)
/-- Number i alone may come, and calls. -/
theorem Any.call {s : Array Bool} {a : Act} {w : World} {f : Nat} (i t : Nat) {o : Oper} (g : FuncId) (args : Array Value) (hr : Region.ready md ops s = [i]) (hi : ops[i]? = some o) (hd : o.dst = some t) (hw : Region.wanted o (yielded ops a.tmps) = true)
    (he : (execOp a.eval o).run P w = .ok (.enter g args) w)
    (h : Calls P g args w fun e w' => ∃ v, e = .returned v ∧ (i ≠ st → S w') ∧ Any P md ops Q S st f (s.setIfInBounds i true) { a with tmps := a.tmps.setIfInBounds t v } w') : Any P md ops Q S st (f + 1) s a w :=
  ⟨fun e => (by rw [hr] at e; cases e), fun j hj => by
    rw [hr] at hj
    obtain rfl : j = i := by simpa using hj
    unfold wpOp
    simp only [hi, hw, if_true]
    refine .inl ?_
    unfold Oper.wp
    rw [he, Oper.upon_enter]
    refine h.mono ?_
    rintro e w' ⟨v, rfl, h1, h2⟩
    exact ⟨h1, by rw [hd]; exact h2⟩⟩
/-- Number i alone may come, and stores. -/
theorem Any.store {s : Array Bool} {a : Act} {w w1 : World} {f : Nat} (i : Nat) {o : Oper} (hr : Region.ready md ops s = [i]) (hi : ops[i]? = some o) (hd : o.dst = none) (hw : Region.wanted o (yielded ops a.tmps) = true)
    (he : (execOp a.eval o).run P w = .ok .skip w1) (hS : i ≠ st → S w1) (h : Any P md ops Q S st f (s.setIfInBounds i true) a w1) : Any P md ops Q S st (f + 1) s a w :=
  ⟨fun e => (by rw [hr] at e; cases e), fun j hj => by
    rw [hr] at hj
    obtain rfl : j = i := by simpa using hj
    unfold wpOp
    simp only [hi, hw, if_true]
    refine .inl ?_
    unfold Oper.wp
    rw [he, Oper.upon_skip, hd]
    exact ⟨hS, h⟩⟩
/-- Number i alone may come. What follows stands behind a variable. -/
theorem Any.step {s : Array Bool} {a : Act} {w : World} {f : Nat} (i : Nat) {o : Oper} (hr : Region.ready md ops s = [i]) (hi : ops[i]? = some o) (hw : Region.wanted o (yielded ops a.tmps) = true)
    (h : ∀ K : Act → World → Prop, Bar (∀ a w, (i ≠ st → S w) → Any P md ops Q S st f (s.setIfInBounds i true) a w → K a w) → o.wp P a w K Q) : Any P md ops Q S st (f + 1) s a w :=
  ⟨fun e => (by rw [hr] at e; cases e), fun j hj => by
    rw [hr] at hj
    obtain rfl : j = i := by simpa using hj
    unfold wpOp
    simp only [hi, hw, if_true]
    exact .inl (h _ (fun _ _ h1 h2 => ⟨h1, h2⟩))⟩
theorem Any.done {s : Array Bool} {a : Act} {w : World} {f : Nat} (hr : Region.ready md ops s = []) (h : Q .normal a w) : Any P md ops Q S st f s a w := by
  cases f with
  | zero => exact ⟨hr, h⟩
  | succ f => exact ⟨fun _ => h, by rw [hr]; simp⟩
end
theorem region {P : Program} {id : Nat} {Q : Exit → Act → World → Prop} {a : Act} {w : World} {ops : Array Oper} (S : World → Prop) (st : Nat) (hm : P.follows .mixedOrders = true)
    (h : Any P .any ops Q S st ops.size (Array.replicate ops.size false) a w.drew) : (Code.region id ops true).wp P Q a w := wp_region_any hm (Any.plain _ _ _ _ h)
theorem region_in {P : Program} {id : Nat} {Q : Exit → Act → World → Prop} {a : Act} {w : World} {ops : List Oper} (l m : Nat) (S : World → Prop) (st : Nat) (hm : P.follows .mixedOrders = true) (hd : ∀ o ∈ ops, ∀ c, o.op ≠ .defer c) (hno : ¬ LetsOut Q)
    (h : Any P .any ops.toArray Q S st ops.toArray.size (Array.replicate ops.toArray.size false) a w.drew) : (Code.region id ops.toArray true).wpIn (Fence.wide.inRound l) m P Q a w :=
  wpIn_region_any hm (QT.any_in l m (by simpa using hd) hno _ _ _ _ (Any.plain _ _ _ _ h))
end RK
end Go.Proofs.Ytnlkikcnjlkkdaa
/- Drawn regions in which more than one operation may come, and operations that make memory: for regions that are walked by hand. -/
namespace Go.Proofs.Ytnlkikcnjlkkdaa
open Go Go.RowKit Go.Lib
namespace RK
/-- Number i alone may come, and makes a value and a world. -/
theorem Any.exec {P : Program} {md : Region.Mode} {ops : Array Oper} {Q : Exit → Act → World → Prop} {S : World → Prop} {st : Nat} {s : Array Bool} {a : Act} {w w1 : World} {f : Nat} (i t : Nat) {o : Oper} (v : Value) (hr : Region.ready md ops s = [i]) (hi : ops[i]? = some o) (hd : o.dst = some t) (hw : Region.wanted o (yielded ops a.tmps) = true)
    (he : (execOp a.eval o).run P w = .ok (.value v) w1) (hS : S w1) (h : Any P md ops Q S st f (s.setIfInBounds i true) { a with tmps := a.tmps.setIfInBounds t v } w1) : Any P md ops Q S st (f + 1) s a w :=
  ⟨fun e => (by rw [hr] at e; cases e), fun j hj => by
    rw [hr] at hj
    obtain rfl : j = i := by simpa using hj
    unfold wpOp
    simp only [hi, hw, if_true]
    refine .inl ?_
    unfold Oper.wp
    rw [he, Oper.upon_value, hd]
    exact ⟨fun _ => hS, h⟩⟩
theorem exec_append {P : Program} {o : Oper} {a : Act} {w w' : World} {v' : Value} (s x : Operand) (t tn : TypeId) (ho : o.op = .call { callee := .builtin .append, args := #[s, x], argTypes := #[t, tn] }) (vs vx : Value) (hs : a.eval s = vs) (hx : a.eval x = vx)
    (hr : (Builtin.append_ #[t, tn] o.type #[vs, vx]).run P w = .ok v' w') : (execOp a.eval o).run P w = .ok (.value v') w' := by
  unfold execOp
  simp only [ho, resolve, invoke, builtin, Sem.run_bind, Sem.run_pure, Result.andThen_ok, List.map_toArray, List.map_cons, List.map_nil, hs, hx, hr]
section
variable {P : Program} {md : Region.Mode} {ops : Array Oper} {Q : Exit → Act → World → Prop} {S : World → Prop} {st : Nat}
/-- Each of some operations may come. -/
theorem Any.each {s : Array Bool} {a : Act} {w : World} {f : Nat} (l : List Nat) (hr : Region.ready md ops s = l) (h0 : l ≠ []) (h : ∀ i ∈ l, wpOp P ops Q i (fun a' w' => (i ≠ st → S w') ∧ Any P md ops Q S st f (s.setIfInBounds i true) a' w') a w) : Any P md ops Q S st (f + 1) s a w :=
  ⟨fun e => absurd (hr.symm.trans e) h0, fun i hi => h i (hr ▸ hi)⟩
theorem wpOp_exec {i t : Nat} {o : Oper} {v : Value} {a : Act} {w w1 : World} {K : Act → World → Prop} (hi : ops[i]? = some o) (hd : o.dst = some t) (hw : Region.wanted o (yielded ops a.tmps) = true) (he : (execOp a.eval o).run P w = .ok (.value v) w1) (h : K { a with tmps := a.tmps.setIfInBounds t v } w1) : wpOp P ops Q i K a w := by
  unfold wpOp
  simp only [hi, hw, if_true]
  refine .inl ?_
  unfold Oper.wp
  rw [he, Oper.upon_value, hd]
  exact h
theorem wpOp_call {i t : Nat} {o : Oper} {g : FuncId} {args : Array Value} {a : Act} {w : World} {K : Act → World → Prop} (hi : ops[i]? = some o) (hd : o.dst = some t) (hw : Region.wanted o (yielded ops a.tmps) = true) (he : (execOp a.eval o).run P w = .ok (.enter g args) w)
    (h : Calls P g args w fun e w' => ∃ v, e = .returned v ∧ K { a with tmps := a.tmps.setIfInBounds t v } w') : wpOp P ops Q i K a w := by
  unfold wpOp
  simp only [hi, hw, if_true]
  refine .inl ?_
  unfold Oper.wp
  rw [he, Oper.upon_enter]
  refine h.mono ?_
  rintro e w' ⟨v, rfl, h1⟩
  rw [hd]
  exact h1
end
/-- A region, cut off from what follows. -/
theorem cut {P : Program} {c : Code} {Q : Exit → Act → World → Prop} {a : Act} {w : World} (R : Act → Act → World → Prop) (h1 : c.wp P (fun e a' w' => e = .normal ∧ R a a' w') a w) (h2 : ∀ a' w', R a a' w' → Q .normal a' w') : c.wp P Q a w :=
  wp_mono h1 fun e a' w' ⟨he, hr⟩ => by subst he; exact h2 a' w' hr
theorem Any.race {P : Program} {md : Region.Mode} {ops : Array Oper} {Q : Exit → Act → World → Prop} {S : World → Prop} {st : Nat} {s : Array Bool} {a : Act} {w : World} {f : Nat} (i j ti tj : Nat) {oi oj : Oper} (R : Value → Value → World → Prop)
    (hr : Region.ready md ops s = [i, j]) (hr1 : Region.ready md ops (s.setIfInBounds i true) = [j]) (hr2 : Region.ready md ops (s.setIfInBounds j true) = [i]) (hi : ops[i]? = some oi) (hj : ops[j]? = some oj) (hdi : oi.dst = some ti) (hdj : oj.dst = some tj)
    (hwi : Region.wanted oi (yielded ops a.tmps) = true) (hwj : Region.wanted oj (yielded ops a.tmps) = true) (hij : i ≠ j) (hne : ti ≠ tj)
    (h1 : ∃ v1 v2 w1 w2, (execOp a.eval oi).run P w = .ok (.value v1) w1 ∧ (execOp (Act.eval { a with tmps := a.tmps.setIfInBounds ti v1 }) oj).run P w1 = .ok (.value v2) w2 ∧ R v1 v2 w2 ∧ Region.wanted oj (yielded ops (a.tmps.setIfInBounds ti v1)) = true ∧ S w1)
    (h2 : ∃ v1 v2 w1 w2, (execOp a.eval oj).run P w = .ok (.value v2) w1 ∧ (execOp (Act.eval { a with tmps := a.tmps.setIfInBounds tj v2 }) oi).run P w1 = .ok (.value v1) w2 ∧ R v1 v2 w2 ∧ Region.wanted oi (yielded ops (a.tmps.setIfInBounds tj v2)) = true ∧ S w1)
    (hS : ∀ v1 v2 W, R v1 v2 W → S W)
    (h : ∀ v1 v2 W, R v1 v2 W → Any P md ops Q S st f ((s.setIfInBounds i true).setIfInBounds j true) { a with tmps := (a.tmps.setIfInBounds ti v1).setIfInBounds tj v2 } W) : Any P md ops Q S st (f + 1 + 1) s a w := by
  refine Any.each [i, j] hr (by simp) fun x hx => ?_
  simp only [List.mem_cons, List.not_mem_nil, or_false] at hx
  rcases hx with rfl | rfl
  · obtain ⟨v1, v2, w1, w2, e1, e2, hR, hw, hs⟩ := h1
    exact wpOp_exec hi hdi hwi e1 ⟨fun _ => hs, Any.exec j tj v2 hr1 hj hdj hw e2 (hS _ _ _ hR) (h v1 v2 w2 hR)⟩
  · obtain ⟨v1, v2, w1, w2, e1, e2, hR, hw, hs⟩ := h2
    have h3 := h v1 v2 w2 hR
    rw [Array.setIfInBounds_comm _ _ hij, Array.setIfInBounds_comm _ _ hne] at h3
    exact wpOp_exec hj hdj hwj e1 ⟨fun _ => hs, Any.exec i ti v1 hr2 hi hdi hw e2 (hS _ _ _ hR) h3⟩
/-- Three that make a block each may come in whatever row. -/
theorem Any.race3 {P : Program} {md : Region.Mode} {ops : Array Oper} {Q : Exit → Act → World → Prop} {S : World → Prop} {st : Nat} {s : Array Bool} {a : Act} {w : World} {f : Nat} (i j k ti tj tk ni nj nk : Nat) {oi oj ok : Oper} (ci cj ck : Array Value) (t : TypeId)
    (hij : i ≠ j) (hik : i ≠ k) (hjk : j ≠ k) (hr : Region.ready md ops s = [i, j, k]) (hri : Region.ready md ops (s.setIfInBounds i true) = [j, k]) (hrj : Region.ready md ops (s.setIfInBounds j true) = [i, k]) (hrk : Region.ready md ops (s.setIfInBounds k true) = [i, j])
    (hrij : Region.ready md ops ((s.setIfInBounds i true).setIfInBounds j true) = [k]) (hrik : Region.ready md ops ((s.setIfInBounds i true).setIfInBounds k true) = [j]) (hrjk : Region.ready md ops ((s.setIfInBounds j true).setIfInBounds k true) = [i])
    (hi : ops[i]? = some oi) (hj : ops[j]? = some oj) (hk : ops[k]? = some ok) (hdi : oi.dst = some ti) (hdj : oj.dst = some tj) (hdk : ok.dst = some tk) (htij : ti ≠ tj) (htik : ti ≠ tk) (htjk : tj ≠ tk)
    (hgi : oi.guard = none) (hgj : oj.guard = none) (hgk : ok.guard = none)
    (ei : ∀ (b : Act) (u : World), (execOp b.eval oi).run P u = .ok (.value (.slice (some ⟨u.heap.size, 0, none⟩) ni ni)) (u.alloc (.cells ci t)))
    (ej : ∀ (b : Act) (u : World), (execOp b.eval oj).run P u = .ok (.value (.slice (some ⟨u.heap.size, 0, none⟩) nj nj)) (u.alloc (.cells cj t)))
    (ek : ∀ (b : Act) (u : World), (execOp b.eval ok).run P u = .ok (.value (.slice (some ⟨u.heap.size, 0, none⟩) nk nk)) (u.alloc (.cells ck t)))
    (hS : ∀ u, Below w.heap.size w u → S u)
    (h : ∀ x y z W, Below w.heap.size w W → W.heap[x]? = some (.cells ci t (0, 0)) → W.heap[y]? = some (.cells cj t (0, 0)) → W.heap[z]? = some (.cells ck t (0, 0)) →
      Any P md ops Q S st f (((s.setIfInBounds i true).setIfInBounds j true).setIfInBounds k true) { a with tmps := ((a.tmps.setIfInBounds ti (.slice (some ⟨x, 0, none⟩) ni ni)).setIfInBounds tj (.slice (some ⟨y, 0, none⟩) nj nj)).setIfInBounds tk (.slice (some ⟨z, 0, none⟩) nk nk) } W) : Any P md ops Q S st (f + 1 + 1 + 1) s a w := by
  have wi : ∀ tm, Region.wanted oi (yielded ops tm) = true := fun tm => by simp [Region.wanted, hgi]
  have wj : ∀ tm, Region.wanted oj (yielded ops tm) = true := fun tm => by simp [Region.wanted, hgj]
  have wk : ∀ tm, Region.wanted ok (yielded ops tm) = true := fun tm => by simp [Region.wanted, hgk]
  have bb := fun (u : World) (c : Array Value) => M.below_box u (.cells c t)
  have hn := fun (u : World) (c : Array Value) => heap_alloc_new u (.cells c t)
  have st1 : ∀ (u : World) (c : Array Value) (x : Nat) (o : Obj), u.heap[x]? = some o → (u.alloc (.cells c t)).heap[x]? = some o := fun u c x o hx => ((bb u c).block x (M.row_lt hx)).trans hx
  have b2 : ∀ (c d : Array Value), Below w.heap.size w ((w.alloc (.cells c t)).alloc (.cells d t)) := fun c d => (bb _ _).trans ((bb _ _).mono (bb _ _).size)
  have b3 : ∀ (c d e : Array Value), Below w.heap.size w (((w.alloc (.cells c t)).alloc (.cells d t)).alloc (.cells e t)) := fun c d e => (b2 c d).trans ((bb _ _).mono (b2 c d).size)
  have cs := fun {x y : Nat} (hxy : x ≠ y) (q : Array Bool) => Array.setIfInBounds_comm (xs := q) true true hxy
  refine Any.each [i, j, k] hr (by simp) fun x hx => ?_
  simp only [List.mem_cons, List.not_mem_nil, or_false] at hx
  rcases hx with rfl | rfl | rfl
  · refine wpOp_exec hi hdi (wi _) (ei _ _) ⟨fun _ => hS _ (bb _ _), Any.each [j, k] hri (by simp) fun y hy => ?_⟩
    simp only [List.mem_cons, List.not_mem_nil, or_false] at hy
    rcases hy with rfl | rfl
    · refine wpOp_exec hj hdj (wj _) (ej _ _) ⟨fun _ => hS _ (b2 _ _), Any.exec k tk _ hrij hk hdk (wk _) (ek _ _) (hS _ (b3 _ _ _)) ?_⟩
      exact h _ _ _ _ (b3 _ _ _) (st1 _ _ _ _ (st1 _ _ _ _ (hn _ _))) (st1 _ _ _ _ (hn _ _)) (hn _ _)
    · refine wpOp_exec hk hdk (wk _) (ek _ _) ⟨fun _ => hS _ (b2 _ _), Any.exec j tj _ hrik hj hdj (wj _) (ej _ _) (hS _ (b3 _ _ _)) ?_⟩
      have h3 := h _ _ _ _ (b3 ci ck cj) (st1 _ _ _ _ (st1 _ _ _ _ (hn _ _))) (hn _ _) (st1 _ _ _ _ (hn _ _))
      rw [Array.setIfInBounds_comm _ _ hjk, Array.setIfInBounds_comm _ _ htjk] at h3
      exact h3
  · refine wpOp_exec hj hdj (wj _) (ej _ _) ⟨fun _ => hS _ (bb _ _), Any.each [i, k] hrj (by simp) fun y hy => ?_⟩
    simp only [List.mem_cons, List.not_mem_nil, or_false] at hy
    rcases hy with rfl | rfl
    · refine wpOp_exec hi hdi (wi _) (ei _ _) ⟨fun _ => hS _ (b2 _ _), Any.exec k tk _ (by rw [← hrij, Array.setIfInBounds_comm _ _ hij]) hk hdk (wk _) (ek _ _) (hS _ (b3 _ _ _)) ?_⟩
      have h3 := h _ _ _ _ (b3 cj ci ck) (st1 _ _ _ _ (hn _ _)) (st1 _ _ _ _ (st1 _ _ _ _ (hn _ _))) (hn _ _)
      rw [Array.setIfInBounds_comm (xs := s) _ _ hij, Array.setIfInBounds_comm (xs := a.tmps) _ _ htij] at h3
      exact h3
    · refine wpOp_exec hk hdk (wk _) (ek _ _) ⟨fun _ => hS _ (b2 _ _), Any.exec i ti _ hrjk hi hdi (wi _) (ei _ _) (hS _ (b3 _ _ _)) ?_⟩
      have h3 := h _ _ _ _ (b3 cj ck ci) (hn _ _) (st1 _ _ _ _ (st1 _ _ _ _ (hn _ _))) (st1 _ _ _ _ (hn _ _))
      rw [Array.setIfInBounds_comm (xs := s) _ _ hij, Array.setIfInBounds_comm _ _ hik, Array.setIfInBounds_comm (xs := a.tmps) _ _ htij, Array.setIfInBounds_comm _ _ htik] at h3
      exact h3
  · refine wpOp_exec hk hdk (wk _) (ek _ _) ⟨fun _ => hS _ (bb _ _), Any.each [i, j] hrk (by simp) fun y hy => ?_⟩
    simp only [List.mem_cons, List.not_mem_nil, or_false] at hy
    rcases hy with rfl | rfl
    · refine wpOp_exec hi hdi (wi _) (ei _ _) ⟨fun _ => hS _ (b2 _ _), Any.exec j tj _ (by rw [← hrik, Array.setIfInBounds_comm _ _ hik]) hj hdj (wj _) (ej _ _) (hS _ (b3 _ _ _)) ?_⟩
      have h3 := h _ _ _ _ (b3 ck ci cj) (st1 _ _ _ _ (hn _ _)) (hn _ _) (st1 _ _ _ _ (st1 _ _ _ _ (hn _ _)))
      rw [Array.setIfInBounds_comm _ _ hjk, Array.setIfInBounds_comm (xs := s) _ _ hik, Array.setIfInBounds_comm _ _ htjk, Array.setIfInBounds_comm (xs := a.tmps) _ _ htik] at h3
      exact h3
    · refine wpOp_exec hj hdj (wj _) (ej _ _) ⟨fun _ => hS _ (b2 _ _), Any.exec i ti _ (by rw [← hrjk, Array.setIfInBounds_comm _ _ hjk]) hi hdi (wi _) (ei _ _) (hS _ (b3 _ _ _)) ?_⟩
      have h3 := h _ _ _ _ (b3 ck cj ci) (hn _ _) (st1 _ _ _ _ (hn _ _)) (st1 _ _ _ _ (st1 _ _ _ _ (hn _ _)))
      rw [Array.setIfInBounds_comm (xs := s) _ _ hij, Array.setIfInBounds_comm _ _ hik, Array.setIfInBounds_comm (xs := s) _ _ hjk, Array.setIfInBounds_comm (xs := a.tmps) _ _ htij, Array.setIfInBounds_comm _ _ htik, Array.setIfInBounds_comm (xs := a.tmps) _ _ htjk] at h3
      exact h3
end RK
end Go.Proofs.Ytnlkikcnjlkkdaa
/- The walk of a model's secrets, as the program has them. -/
namespace Go.Proofs.Ytnlkikcnjlkkdaa
open Go Go.RowKit Go.Lib
namespace MM
theorem secZ_row {p : Pm} {o : Mo} {d k j : Nat} (hd : p.D.toNat = d) (hj : j < d) : secZ p o (k * (d + 1) + j) = numU (o.F k j) p.Q := by
  unfold secZ
  rw [hd]
  have e1 : (k * (d + 1) + j) % (d + 1) = j := by rw [Nat.mul_comm, Nat.mul_add_mod]; exact Nat.mod_eq_of_lt (by omega)
  have e2 : (k * (d + 1) + j) / (d + 1) = k := by rw [Nat.mul_comm, Nat.mul_add_div (by omega), Nat.div_eq_of_lt (by omega), Nat.add_zero]
  rw [e1, e2, if_pos hj]
theorem secZ_end {p : Pm} {o : Mo} {d k : Nat} (hd : p.D.toNat = d) : secZ p o (k * (d + 1) + d) = numU (o.b k) p.Q := by
  unfold secZ
  rw [hd]
  have e1 : (k * (d + 1) + d) % (d + 1) = d := by rw [Nat.mul_comm, Nat.mul_add_mod]; exact Nat.mod_eq_of_lt (by omega)
  have e2 : (k * (d + 1) + d) / (d + 1) = k := by rw [Nat.mul_comm, Nat.mul_add_div (by omega), Nat.div_eq_of_lt (by omega), Nat.add_zero]
  rw [e1, e2, if_neg (by omega)]
end MM
namespace M
attribute [local go_sem] Oper.semAt_some
set_option maxRecDepth 100000 in
set_option maxHeartbeats 8000000 in
theorem secrets_valid (p : Pm) (v : MoV) (o : MM.Mo) (ok : MoOk o) (hv : MM.Valid p o) (W : World) (hr : MoAt W v o) :
    Calls Try.prog 9 #[.agg p.cells, .agg (v.cells o)] W fun e w' => ∃ u B, e = .returned u ∧ Own W B u (p.K.toNat * (p.D.toNat + 1)) (MM.secZ p o) w' := by
  obtain ⟨wo, wc, bo, bc⟩ := v
  have hI0 := InM.new W p ⟨wo, wc, bo, bc⟩ o hr
  obtain ⟨W1, hW1⟩ : ∃ W1, (W.alloc (.cells p.cells 31)).alloc (.cells (MoV.cells ⟨wo, wc, bo, bc⟩ o) 36) = W1 := ⟨_, rfl⟩
  obtain ⟨g, hg⟩ : ∃ g, W.heap.size = g := ⟨_, rfl⟩
  obtain ⟨h, hh⟩ : ∃ h, g + 1 = h := ⟨_, rfl⟩
  rw [hW1, hg, hh] at hI0
  have HB1 : Hid (Below W.heap.size W W1) := Lib.hid hI0.below
  have HM1 : Hid (InM W1 g h p ⟨wo, wc, bo, bc⟩ o W1) := Lib.hid ⟨hI0.box, hI0.mod, hI0.mat, Below.refl _ _⟩
  have HI := HM1
  have HOK := Lib.hid ok
  have HMY : Hid (∀ (u : World) (_ : MoAt u ⟨wo, wc, bo, bc⟩ o), Calls Try.prog 8 #[.agg p.cells, .agg (MoV.cells ⟨wo, wc, bo, bc⟩ o)] u fun e w' => e = .returned (.bool true) ∧ Below u.heap.size u w') := Lib.hid fun u hu => by
    have := may_any p _ o ok u hu
    rwa [decide_eq_true hv] at this
  obtain ⟨hf, hmK, hnK, hL, _, _⟩ := hv
  obtain ⟨d, hd⟩ : ∃ d : Nat, p.D = (d : Int) := ⟨p.D.toNat, by have := hf.2.2.1; omega⟩
  have hd4 : d ≤ 4 := by have := hf.2.2.2.1; omega
  have hdN : p.D.toNat = d := by omega
  have hm2 : o.m ≤ 2 := by have := hf.2.1; omega
  have hKN : p.K.toNat = o.m := by omega
  have hnm : o.n = o.m := by omega
  have HLD : Hid (∀ i, i < o.m → o.L i = d) := Lib.hid fun i hi => by have := hL i hi; omega
  obtain ⟨z, hz⟩ : ∃ z, MM.secZ p o = z := ⟨_, rfl⟩
  obtain ⟨N, hN⟩ : ∃ N, d + 1 = N := ⟨_, rfl⟩
  have HZ1 : Hid (∀ k j, j < d → Ret 5 #[.int .i64 (o.F k j), .int .u64 (p.Q : Int)] (.int .u64 ((z (k * N + j) : Nat) : Int))) := Lib.hid fun k j h1 => by
    rw [← hz, ← hN, MM.secZ_row hdN h1]; exact num_any _ _ (ok.F k j)
  have HZ2 : Hid (∀ k, Ret 5 #[.int .i64 (o.b k), .int .u64 (p.Q : Int)] (.int .u64 ((z (k * N + d) : Nat) : Int))) := Lib.hid fun k => by
    rw [← hz, ← hN, MM.secZ_end hdN]; exact num_any _ _ (ok.b k)
  obtain ⟨C, hC⟩ : ∃ C, o.m * N = C := ⟨_, rfl⟩
  have hC10 : C ≤ 10 := by rw [← hC]; exact Nat.le_trans (Nat.mul_le_mul hm2 (show N ≤ 5 by omega)) (by omega)
  have hw1 : IntKind.i64.wrap ((d : Int) + 1) = (N : Int) := by rw [IntWalk.i64_in _ (by omega)]; omega
  have hw2 : IntKind.i64.wrap ((o.m : Int) * (N : Int)) = (C : Int) := by rw [show (o.m : Int) * (N : Int) = ((C : Nat) : Int) by rw [← hC]; rfl, IntWalk.i64_in _ (by omega)]
  rw [hKN, hdN, hz, hN, hC]
  have HKM := Lib.hid hmK.symm
  clear hr hf hz hL hI0 ok hmK hnK hKN
  go_enter Try.func9, Try.ntmps9
  go_upto_region 3 with (first
    | (refine load_pm ?_ _ rfl g rfl p HI.out.box ?_; first | rfl | (simp [Region.wanted, yielded]; done))
    | (refine load_mo ?_ _ rfl h rfl ⟨wo, wc, bo, bc⟩ o HI.out.mod ?_; first | rfl | (simp [Region.wanted, yielded]; done))
    | (go_at_call 8; (with_reducible refine (HMY.out _ HI.out.mat).mono ?_); rintro e w1 ⟨rfl, hb⟩; replace HI := Lib.hid (HI.out.step hb); clear hb))
  have k8 := HI.out.toP.cD hd
  have k7 := HI.out.toP.cK HKM.out
  have c0 : w1.cell? ⟨h, 0, none⟩ = some (.slice wo o.m wc) := HI.out.mod.cell 0
  have HO0 : Hid (Own W1 w1.heap.size (.slice (some ⟨w1.heap.size, 0, none⟩) 0 C) 0 z (w1.alloc (.cells (madeCells (Value.int .u64 0).cells (C * 1)) 23))) := Lib.hid ((Own.made1 w1 C (by omega) z).base HI.out.below)
  have hmk := run_made0 C (by omega) w1
  have hsz := (below_box w1 (.cells (madeCells (Value.int .u64 0).cells (C * 1)) 23))
  have c02 := (HI.out.mod.below hsz).cell 0
  clear hsz
  generalize w1.alloc (.cells (madeCells (Value.int .u64 0).cells (C * 1)) 23) = W2 at *
  generalize w1.heap.size = B at *
  clear HI
  go_wp2_with fail
  clear hmk c0 k7 k8
  go_loopw [5, 24] (fun s5 s24 wx => ∃ k : Nat, k ≤ o.m ∧ s24 = .int .i64 (k : Int) ∧ Hid (Own W1 B s5 (k * N) z wx)) (fun _ s24 _ => o.m - (RowKit.intOf s24).toNat)
  case atStart => exact ⟨0, Nat.zero_le _, rfl, by rw [Nat.zero_mul]; exact HO0⟩
  case round =>
    clear HO0
    obtain ⟨k, hk, rfl, HO⟩ := hrel
    obtain ⟨a, ha⟩ : ∃ a, k * N = a := ⟨_, rfl⟩
    have ha1 : (k + 1) * N = a + N := by rw [Nat.succ_mul, ha]
    have haC : k < o.m → a + N ≤ C := fun h => by rw [← ha1, ← hC]; exact Nat.mul_le_mul_right N h
    have HA := Lib.hid ha
    have HA1 := Lib.hid ha1
    rw [ha] at HO
    clear ha ha1
    by_cases hlt : k < o.m
    · have haC' := haC hlt
      clear haC
      obtain ⟨ad, bo', c, hwo, hc0, hs⟩ := HM1.out.mat.mat k hlt
      have hwo' : wo = some ad := hwo
      subst hwo'
      have HS := Lib.hid hs
      have hc := (HO.out.below.cell (World.block_lt_of_cell? W1 _ hc0)).trans hc0
      clear hs hwo hc0
      rw [HLD.out k hlt] at hc HS
      have hd0 : (d : Int) < (N : Int) := by omega
      go_wp2_with fail
      clear hc
      go_loopw [5, 31] (fun s5 s31 wx => ∃ j : Nat, j ≤ d ∧ s31 = .int .i64 (j : Int) ∧ Hid (Own W1 B s5 (a + j) z wx)) (fun _ s31 _ => d - (RowKit.intOf s31).toNat)
      case atStart => exact ⟨0, Nat.zero_le _, rfl, HO⟩
      case round =>
        obtain ⟨j, hj, rfl, HP⟩ := hrel
        have hq := (HM1.out.step HP.out.below).toP.cQ
        by_cases hlj : j < d
        · obtain ⟨bd, rfl, hcb⟩ := (HS.out.below HP.out.below).at_ hlj
          have HN := HZ1.out k j hlj
          rw [HA.out] at HN
          generalize o.F k j = xj at *
          go_wp2_with (first
            | (go_at_call 5; (with_reducible refine (HN.at _).mono ?_); rintro e w' ⟨rfl, nd, rfl⟩; obtain ⟨v2, w2, hr2, ho2⟩ := (HP.out.drewN nd).push1 1 (by omega); have HO2 := Lib.hid ho2; clear ho2)
            | (at_builtin; refine Lib.wpList_append_run _ rfl _ _ _ _ rfl _ _ rfl rfl _ _ hr2 ?_))
          go_roundw
          case rel => exact ⟨j + 1, by omega, by go_num, HO2⟩
          case measure => simp [RowKit.intOf]; omega
        · obtain rfl : j = d := by omega
          have c1 : W1.cell? ⟨h, 1, none⟩ = some (.slice bo o.n bc) := HM1.out.mod.cell 1
          obtain ⟨bd, hbo, hcb⟩ := HM1.out.mat.bias.at_ (k := k) (by omega)
          have hbo' : bo = some bd := hbo
          subst hbo'
          have hq := HM1.out.toP.cQ
          have HN := HZ2.out k
          rw [HA.out] at HN
          have hk0 : (0 : Int) ≤ (k : Int) := Int.natCast_nonneg _
          have hk1 : (k : Int) < (o.n : Int) := by omega
          clear hbo
          generalize o.b k = xb at *
          go_upto_region 12 with fail
          obtain ⟨uo, uc, rfl, _⟩ := HP.out.rd
          refine RK.region (Below W1.heap.size W1) 100 (by kernel_rfl) ?_
          have HP1 : Hid (Own W1 B (.slice uo (a + j) uc) (a + j) z wr.drew) := Lib.hid (HP.out.drewN 1)
          have HS0 : Below W1.heap.size W1 wr.drew := HP1.out.below
          have LC1 : (⟨h, 1, none⟩ : Addr).block < W1.heap.size := World.block_lt_of_cell? W1 _ c1
          have LCB : (bd.add k).block < W1.heap.size := World.block_lt_of_cell? W1 _ hcb
          have LCQ : (⟨g, 1, none⟩ : Addr).block < W1.heap.size := World.block_lt_of_cell? W1 _ hq
          refine RK.Any.take 0 43 (.slice uo (a + j) uc) rfl rfl (by kernel_rfl) (by kernel_rfl) (by kernel_rfl) (by kernel_rfl) (fun _ _ _ h => h) (by rfl) (fun W' hb => ?_) HS0 ?_
          · go_simp
          simp only [List.setIfInBounds_toArray, List.set_cons_zero, List.set_cons_succ]
          refine RK.Any.take 1 44 (.pointer (some ⟨h, 1, none⟩)) rfl rfl (by kernel_rfl) (by kernel_rfl) (by kernel_rfl) (by kernel_rfl) (fun _ _ _ h => h) (by rfl) (fun W' hb => ?_) HS0 ?_
          · go_simp
          simp only [List.setIfInBounds_toArray, List.set_cons_zero, List.set_cons_succ]
          refine RK.Any.take 2 45 (.slice (some bd) o.n bc) rfl rfl (by kernel_rfl) (by kernel_rfl) (by kernel_rfl) (by kernel_rfl) (fun _ _ _ h => h) (by rfl) (fun W' hb => ?_) HS0 ?_
          · have cc := (hb.cell LC1).trans c1; go_simp
          simp only [List.setIfInBounds_toArray, List.set_cons_zero, List.set_cons_succ]
          refine RK.Any.take 3 46 (.int .i64 (k : Int)) rfl rfl (by kernel_rfl) (by kernel_rfl) (by kernel_rfl) (by kernel_rfl) (fun _ _ _ h => h) (by rfl) (fun W' hb => ?_) HS0 ?_
          · go_simp
          simp only [List.setIfInBounds_toArray, List.set_cons_zero, List.set_cons_succ]
          refine RK.Any.take 4 47 (.pointer (some (bd.add k))) rfl rfl (by kernel_rfl) (by kernel_rfl) (by kernel_rfl) (by kernel_rfl) (fun _ _ _ h => h) (by rfl) (fun W' hb => ?_) HS0 ?_
          · go_simp
          simp only [List.setIfInBounds_toArray, List.set_cons_zero, List.set_cons_succ]
          refine RK.Any.take 5 48 (.int .i64 xb) rfl rfl (by kernel_rfl) (by kernel_rfl) (by kernel_rfl) (by kernel_rfl) (fun _ _ _ h => h) (by rfl) (fun W' hb => ?_) HS0 ?_
          · have cc := (hb.cell LCB).trans hcb; go_simp
          simp only [List.setIfInBounds_toArray, List.set_cons_zero, List.set_cons_succ]
          refine RK.Any.take 6 49 (.pointer (some ⟨g, 1, none⟩)) rfl rfl (by kernel_rfl) (by kernel_rfl) (by kernel_rfl) (by kernel_rfl) (fun _ _ _ h => h) (by rfl) (fun W' hb => ?_) HS0 ?_
          · go_simp
          simp only [List.setIfInBounds_toArray, List.set_cons_zero, List.set_cons_succ]
          refine RK.Any.take 7 50 (.int .u64 (p.Q : Int)) rfl rfl (by kernel_rfl) (by kernel_rfl) (by kernel_rfl) (by kernel_rfl) (fun _ _ _ h => h) (by rfl) (fun W' hb => ?_) HS0 ?_
          · have cc := (hb.cell LCQ).trans hq; go_simp
          simp only [List.setIfInBounds_toArray, List.set_cons_zero, List.set_cons_succ]
          clear c1 hcb hq LC1 LCB LCQ
          refine RK.Any.call 8 51 5 #[.int .i64 xb, .int .u64 (p.Q : Int)] (by kernel_rfl) rfl rfl (by rfl) (by go_simp) (Calls.mono (HN.at wr.drew) ?_)
          rintro e w1 ⟨rfl, nd, rfl⟩
          refine ⟨_, rfl, fun _ => (HP1.out.drewN nd).below, ?_⟩
          simp only [List.setIfInBounds_toArray, List.set_cons_zero, List.set_cons_succ]
          obtain ⟨v2, w2, hr2, ho2⟩ := (HP1.out.drewN nd).push1 1 (by omega)
          have HO2 : Hid (Own W1 B v2 ((k + 1) * N) z w2) := Lib.hid (by rw [HA1.out, ← hN]; exact ho2)
          have hb1 := (HP1.out.drewN nd).below
          clear ho2 HP1 HS0
          generalize wr.drew.drewN nd = w3 at *
          have hb4 := hb1.trans ((below_box w3 (.cells #[.int .u64 ((z (a + j) : Nat) : Int)] 23)).mono hb1.size)
          obtain ⟨w4, hw4⟩ : ∃ w4, w3.alloc (.cells #[.int .u64 ((z (a + j) : Nat) : Int)] 23) = w4 := ⟨_, rfl⟩
          rw [hw4] at hr2 hb4
          refine RK.Any.exec 9 52 (.slice (some ⟨w3.heap.size, 0, none⟩) 1 1) (w1 := w4) (by kernel_rfl) rfl rfl (by rfl) (by go_simp) hb4 ?_
          simp only [List.setIfInBounds_toArray, List.set_cons_zero, List.set_cons_succ]
          refine RK.Any.exec 10 53 (v2) (w1 := w2) (by kernel_rfl) rfl rfl (by rfl) (RK.exec_append _ _ _ _ rfl _ _ rfl rfl hr2) HO2.out.below ?_
          simp only [List.setIfInBounds_toArray, List.set_cons_zero, List.set_cons_succ]
          refine RK.Any.take 11 5 (v2) rfl rfl (by kernel_rfl) (by kernel_rfl) (by kernel_rfl) (by kernel_rfl) (fun _ _ _ h => h) (by rfl) (fun W' hb => ?_) HO2.out.below ?_
          · go_simp
          simp only [List.setIfInBounds_toArray, List.set_cons_zero, List.set_cons_succ]
          refine RK.Any.done (by kernel_rfl) ?_
          clear hr2 hb4 hw4 HP hb1
          go_wp2_with fail
          go_roundw
          case rel => exact ⟨k + 1, by omega, by go_num, HO2⟩
          case measure => simp [RowKit.intOf]; omega
    · obtain rfl : k = o.m := by omega
      go_wp2_with fail
      go_ret
      refine ⟨_, B, rfl, ?_⟩
      have h := HO.out
      rw [← HA.out, hC] at h
      exact h.base HB1.out
set_option maxRecDepth 100000 in
theorem secrets_any (p : Pm) (v : MoV) (o : MM.Mo) (ok : MoOk o) (W : World) (hr : MoAt W v o) :
    Calls Try.prog 9 #[.agg p.cells, .agg (v.cells o)] W fun e w' => ∃ u, e = .returned u ∧ NewU W.heap.size w' u (MM.secN p o) (MM.secZ p o) ∧ Below W.heap.size W w' := by
  by_cases hv : MM.Valid p o
  · refine (secrets_valid p v o ok hv W hr).mono ?_
    rintro e w' ⟨u, B, rfl, hm⟩
    have e1 : MM.secN p o = p.K.toNat * (p.D.toNat + 1) := if_pos hv
    rw [e1]
    exact ⟨_, rfl, hm.newU, hm.below⟩
  · have e1 : MM.secN p o = 0 := if_neg hv
    rw [e1]
    obtain ⟨wo, wc, bo, bc⟩ := v
    have hI0 := InM.new W p ⟨wo, wc, bo, bc⟩ o hr
    obtain ⟨g, hg⟩ : ∃ g, W.heap.size = g := ⟨_, rfl⟩
    obtain ⟨h, hh⟩ : ∃ h, g + 1 = h := ⟨_, rfl⟩
    rw [hg, hh] at hI0
    have HI := Lib.hid hI0
    have HMY : Hid (∀ (u : World) (_ : MoAt u ⟨wo, wc, bo, bc⟩ o), Calls Try.prog 8 #[.agg p.cells, .agg (MoV.cells ⟨wo, wc, bo, bc⟩ o)] u fun e w' => e = .returned (.bool false) ∧ Below u.heap.size u w') := Lib.hid fun u hu => by
      have := may_any p _ o ok u hu
      rwa [decide_eq_false hv] at this
    have HG := Lib.hid hg
    clear hr hv ok hI0
    go_enter Try.func9, Try.ntmps9
    go_wp2_with (first
      | (refine load_pm ?_ _ rfl g rfl p HI.out.box ?_; first | rfl | (simp [Region.wanted, yielded]; done))
      | (refine load_mo ?_ _ rfl h rfl ⟨wo, wc, bo, bc⟩ o HI.out.mod ?_; first | rfl | (simp [Region.wanted, yielded]; done))
      | (go_at_call 8; (with_reducible refine (HMY.out _ HI.out.mat).mono ?_); rintro e w1 ⟨rfl, hb⟩; replace HI := Lib.hid (HI.out.step hb); clear hb))
    go_ret
    exact ⟨_, rfl, .inl ⟨rfl, rfl⟩, HI.out.below⟩
end M
end Go.Proofs.Ytnlkikcnjlkkdaa
