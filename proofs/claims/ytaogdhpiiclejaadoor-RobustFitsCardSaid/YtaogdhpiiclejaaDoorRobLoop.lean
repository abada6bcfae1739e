/- A range over a function, outermost in its activation: the two ends of the loop and one round, each by itself, with the loop's own block named. -/
import Derived.Test.YtaogdhpiiclejaaDoorPolyW7
namespace Go.Proofs.YtaogdhpiiclejaaDoor
open Go Go.RowKit
namespace RL
/-- What the loop's own block holds. -/
def loopRec (fn : FuncId) (tmps : Array Value) (ps : Array Tmp) (assign body : Code) (D : Nat) (st : LoopState) (pe : Option Code) : Loop := { state := st, pending := pe, fn := fn, tmps := tmps, params := ps, assign := assign, body := body, defers := D }
section
variable {n : Nat} {P : Program}
/-- What is asked where the function that is ranged over has ended. -/
def Ended (l : Nat) (r : LoopState → Option Code → Loop) (Q : Act → World → Prop) (Qx : Code → Act → World → Prop) (a : Act) (e : Ending) (W : World) : Prop :=
  (∃ v, e = .returned v) ∧ ((W.heap[l]? = some (.loop (r .ready none)) ∧ Q a (W.putObj l (.loop (r .exhausted none)))) ∨ ∃ c, W.heap[l]? = some (.loop (r .done (some c))) ∧ Qx c a (W.putObj l (.loop (r .exhausted (some c)))))
theorem enter {g : Operand} {ps : Array Tmp} {assign body : Code} {Q : Exit → Act → World → Prop} {a : Act} {w : World} {gf : Nat} {lb : Array Value}
    (hg : a.eval g = .func (.func gf) #[] lb) (eg : ∀ args w, (callFunc gf args).run P w = .ok (.enter gf args) w)
    (h : ∀ fn, CallsIn Fence.wide (n - 1) P gf (#[.func (.yield (w.heap.size + 1)) #[] #[]] ++ lb) ((w.alloc (.deferred (some []))).alloc (.loop (loopRec fn a.tmps ps assign body w.heap.size .ready none)))
      (Ended (w.heap.size + 1) (loopRec fn a.tmps ps assign body w.heap.size) (Q .normal) (fun c => c.wpIn Fence.wide n P Q) { a with defers := M.mark w.heap.size :: a.defers })) :
    (Code.rangeFunc g ps assign body).wpIn Fence.wide n P Q a w := by
  refine wpIn_rangeFunc fun fn _ => ?_
  have hf := h fn
  obtain ⟨W1, hW1⟩ : ∃ W1, (w.alloc (.deferred (some []))).alloc (.loop (loopRec fn a.tmps ps assign body w.heap.size .ready none)) = W1 := ⟨_, rfl⟩
  rw [hW1] at hf
  refine ⟨w.heap.size + 1, [M.mark w.heap.size], W1, { target := .fn (.func gf) lb, args := #[.func (.yield (w.heap.size + 1)) #[] #[]] }, W1, gf, #[.func (.yield (w.heap.size + 1)) #[] #[]] ++ lb, W1, ?_, ?_, fun _ _ => trivial, ?_, by simp [Fence.wide], ?_⟩
  · rw [← hW1]; exact run_enterLoop_outer fn a.tmps ps assign body
  · simp only [resolve, hg]
    simp [go_sem]
  · simp [invoke, go_sem, eg]
  · refine hf.mono ?_
    rintro e W ⟨⟨v, rfl⟩, ⟨hl, hq⟩ | ⟨c, hl, hq⟩⟩
    · exact ⟨none, _, run_endLoop hl (by simp [loopRec]), hq⟩
    · exact ⟨some c, _, run_endLoop hl (by simp [loopRec]), hq⟩
/-- How a round's body is left. -/
def Left (l : Nat) (r : LoopState → Option Code → Loop) (R : Ending → World → Prop) : Exit → Act → World → Prop
  | .normal, _, W => W.heap[l]? = some (.loop (r .busy none)) ∧ R (.returned (.bool true)) (W.putObj l (.loop (r .ready none)))
  | .ret, _, W => W.heap[l]? = some (.loop (r .busy none)) ∧ R (.returned (.bool false)) (W.putObj l (.loop (r .done (some .ret))))
  | .exit id, _, W => W.heap[l]? = some (.loop (r .busy none)) ∧ R (.returned (.bool false)) (W.putObj l (.loop (r .done (some (.exit id)))))
  | .goto t, _, W => W.heap[l]? = some (.loop (r .busy none)) ∧ R (.returned (.bool false)) (W.putObj l (.loop (r .done (some (.goto t)))))
  | .panic _, _, _ => False
  | .outgrown, _, _ => False
theorem round {l : Nat} {fn : FuncId} {tmps : Array Value} {ps : Array Tmp} {assign body : Code} {D : Nat} {args : Array Value} {R : Ending → World → Prop} {W : World} (a1 : Act)
    (hl : W.heap[l]? = some (.loop (loopRec fn tmps ps assign body D .ready none))) (hs : args.size = ps.size)
    (hassign : ∀ K : Act → World → Prop, K a1 W → assign.wpIn (Fence.wide.inRound l) n P (Exit.then K (fun _ _ _ => False)) { tmps := (ps.zip args).foldl (fun t (p, v) => t.setIfInBounds p v) tmps, defers := [] } W)
    (hbody : body.wpIn (Fence.wide.inRound l) n P (Left l (loopRec fn tmps ps assign body D) R) a1 (W.putObj l (.loop (loopRec fn tmps ps assign body D .busy none)))) :
    YieldAt Fence.wide n P l args W R := by
  refine ⟨fn, _, assign, body, run_yield hl hs, roundIn_of_wpIn trivial (hassign _ ⟨_, run_beginRound hl rfl, wpIn_mono hbody ?_⟩)⟩
  rintro e a3 W3 h
  cases e with
  | normal => exact ⟨_, _, run_endRound none h.1, h.2⟩
  | ret => exact ⟨_, _, run_endRound _ h.1, h.2⟩
  | exit id => exact ⟨_, _, run_endRound _ h.1, h.2⟩
  | goto t => exact ⟨_, _, run_endRound _ h.1, h.2⟩
  | panic _ => exact h
  | outgrown => exact h
/-- The two, with what the loop's block holds behind a name. -/
theorem enter' {g : Operand} {ps : Array Tmp} {assign body : Code} {Q : Exit → Act → World → Prop} {a : Act} {w : World} {gf : Nat} {lb : Array Value}
    (hg : a.eval g = .func (.func gf) #[] lb) (eg : ∀ args w, (callFunc gf args).run P w = .ok (.enter gf args) w)
    (h : ∀ fn r, r = loopRec fn a.tmps ps assign body w.heap.size → CallsIn Fence.wide (n - 1) P gf (#[.func (.yield (w.heap.size + 1)) #[] #[]] ++ lb) ((w.alloc (.deferred (some []))).alloc (.loop (r .ready none)))
      (Ended (w.heap.size + 1) r (Q .normal) (fun c => c.wpIn Fence.wide n P Q) { a with defers := M.mark w.heap.size :: a.defers })) :
    (Code.rangeFunc g ps assign body).wpIn Fence.wide n P Q a w := enter hg eg fun fn => h fn _ rfl
theorem round' {l : Nat} {fn : FuncId} {tmps : Array Value} {ps : Array Tmp} {assign body : Code} {D : Nat} {args : Array Value} {R : Ending → World → Prop} {W : World} {r : LoopState → Option Code → Loop} (hr : r = loopRec fn tmps ps assign body D) (a1 : Act)
    (hl : W.heap[l]? = some (.loop (r .ready none))) (hs : args.size = ps.size)
    (hassign : ∀ K : Act → World → Prop, K a1 W → assign.wpIn (Fence.wide.inRound l) n P (Exit.then K (fun _ _ _ => False)) { tmps := (ps.zip args).foldl (fun t (p, v) => t.setIfInBounds p v) tmps, defers := [] } W)
    (hbody : body.wpIn (Fence.wide.inRound l) n P (Left l r R) a1 (W.putObj l (.loop (r .busy none)))) :
    YieldAt Fence.wide n P l args W R := by
  subst hr
  exact round a1 hl hs hassign hbody
end
/-- What lies at B or beyond stays as it is. -/
structure Keeps (B : Nat) (X Y : World) : Prop where
  size : X.heap.size ≤ Y.heap.size
  own : ∀ (k : Nat) (o : Obj), B ≤ k → X.heap[k]? = some o → Y.heap[k]? = some o
theorem Keeps.refl (B : Nat) (X : World) : Keeps B X X := ⟨Nat.le_refl _, fun _ _ _ h => h⟩
theorem Keeps.trans {B : Nat} {X Y Z : World} (h : Keeps B X Y) (k : Keeps B Y Z) : Keeps B X Z := ⟨Nat.le_trans h.size k.size, fun j o hj e => k.own j o hj (h.own j o hj e)⟩
theorem Keeps.up {B C : Nat} {X Y : World} (h : Keeps B X Y) (hB : B ≤ C) : Keeps C X Y := ⟨h.size, fun j o hj e => h.own j o (Nat.le_trans hB hj) e⟩
theorem Keeps.below {B : Nat} {W X Y : World} (h : Keeps B W X) (hb : Below W.heap.size X Y) : Keeps B W Y := ⟨Nat.le_trans h.size hb.size, fun k o hk e => (hb.block k (M.row_lt e)).trans (h.own k o hk e)⟩
theorem Keeps.of_below {B : Nat} {X Y : World} (h : Below X.heap.size X Y) : Keeps B X Y := (Keeps.refl B X).below h
theorem Keeps.put {B l : Nat} {X : World} {o' : Obj} (hB : l < B) : Keeps B X (X.putObj l o') := ⟨by simp, fun k o hk e => (World.putObj_heap_other (by omega)).trans e⟩
theorem Keeps.turn {B l : Nat} {W X Y : World} {o o1 o2 : Obj} (h : Keeps B W X) (hl : W.heap[l]? = some o) (hB : B ≤ l) (k : Keeps B (X.putObj l o1) Y) : Keeps B (W.putObj l o2) (Y.putObj l o2) := by
  refine ⟨by simpa using Nat.le_trans h.size (by simpa using k.size), fun j oj hj e => ?_⟩
  by_cases ej : j = l
  · subst ej
    rw [World.putObj_heap_same (M.row_lt hl)] at e
    have hX : j < (X.putObj j o1).heap.size := by simpa using M.row_lt (h.own j o hB hl)
    rw [World.putObj_heap_same (Nat.lt_of_lt_of_le hX k.size)]
    exact e
  · rw [World.putObj_heap_other ej] at e ⊢
    exact k.own j oj hj ((World.putObj_heap_other ej).trans (h.own j oj hj e))
/-- What lies at B or beyond, and all cells, stay as they are. -/
structure Holds (B : Nat) (X Y : World) : Prop extends Keeps B X Y where
  cells : M.CellsAs X Y
theorem Holds.keeps {B : Nat} {X Y : World} (h : Holds B X Y) : Keeps B X Y := h.toKeeps
theorem Holds.refl (B : Nat) (X : World) : Holds B X X := ⟨Keeps.refl B X, fun _ _ _ _ h => h⟩
theorem Holds.trans {B : Nat} {X Y Z : World} (h : Holds B X Y) (k : Holds B Y Z) : Holds B X Z := ⟨h.keeps.trans k.keeps, fun j cs t fr e => k.cells j cs t fr (h.cells j cs t fr e)⟩
theorem Holds.up {B C : Nat} {X Y : World} (h : Holds B X Y) (hB : B ≤ C) : Holds C X Y := ⟨h.keeps.up hB, h.cells⟩
theorem Holds.below {B : Nat} {W X Y : World} (h : Holds B W X) (hb : Below W.heap.size X Y) : Holds B W Y := ⟨h.keeps.below hb, fun k cs t fr e => (hb.block k (M.row_lt e)).trans (h.cells k cs t fr e)⟩
theorem Holds.of_below {B : Nat} {X Y : World} (h : Below X.heap.size X Y) : Holds B X Y := (Holds.refl B X).below h
theorem Holds.put {B l : Nat} {X : World} {o o' : Obj} (hl : X.heap[l]? = some o) (ho : o.isCells = false) (hB : l < B) : Holds B X (X.putObj l o') :=
  ⟨Keeps.put hB, fun k cs t fr e => (World.putObj_heap_other (fun e' => by subst e'; rw [hl] at e; cases e; cases ho)).trans e⟩
theorem Holds.box {B k : Nat} {X Y : World} {t : TypeId} {v : Value} (h : Holds B X Y) (hb : M.Box X k t v) : M.Box Y k t v := h.cells _ _ _ _ hb
theorem Holds.turn {B l : Nat} {W X Y : World} {o o1 o2 : Obj} (h : Holds B W X) (hl : W.heap[l]? = some o) (h2 : o2.isCells = false) (hB : B ≤ l) (k : Holds B (X.putObj l o1) Y) : Holds B (W.putObj l o2) (Y.putObj l o2) := by
  refine ⟨h.keeps.turn hl hB k.keeps, fun j cs t fr e => ?_⟩
  by_cases ej : j = l
  · subst ej
    rw [World.putObj_heap_same (M.row_lt hl)] at e
    cases e; cases h2
  · rw [World.putObj_heap_other ej] at e ⊢
    exact k.cells j cs t fr ((World.putObj_heap_other ej).trans (h.cells j cs t fr e))
theorem putObj_self {W : World} {l : Nat} {o : Obj} (h : W.heap[l]? = some o) : W.putObj l o = W := by
  have hh : (W.putObj l o).heap = W.heap := by
    refine Array.ext_getElem? fun i => ?_
    by_cases e : i = l
    · subst e
      rw [World.putObj_heap_same (M.row_lt h), h]
    · exact World.putObj_heap_other e
  unfold World.putObj at hh ⊢
  cases W
  simp at hh ⊢
  exact hh
theorem below_put {B l : Nat} {W : World} {o : Obj} (hl : B ≤ l) (hs : B ≤ W.heap.size) : Below B W (W.putObj l o) :=
  (Below.refl B W).grown (grownBy_putObj' W l o) hs (fun k e => by cases e; exact hl)
end RL
end Go.Proofs.YtaogdhpiiclejaaDoor
