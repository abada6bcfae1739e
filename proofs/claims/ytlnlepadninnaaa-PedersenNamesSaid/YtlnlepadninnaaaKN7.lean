/- The texts RobLoop, RangeK, Pm, one behind the other. -/
import Derived.Test.YtlnlepadninnaaaKN5
import Derived.Test.YtlnlepadninnaaaKN2
import Derived.Below
import Derived.Laws.Rows
import Derived.Deep.RegionHeld
/- A range over a function, outermost in its activation: the two ends of the loop and one round, each by itself, with the loop's own block named. -/
namespace Go.Proofs.Ytlnlepadninnaaa
open Go Go.RowKit
namespace RL
/-- What the loop's own block holds. -/
def loopRec (fn : FuncId) (tmps : Array Value) (ps : Array Tmp) (assign body : Code) (D : Nat) (st : LoopState) (pe : Option Code) : Loop := { state := st, pending := pe, fn := fn, tmps := tmps, params := ps, assign := assign, body := body, defers := D }
section
variable {n : Nat} {P : Program}
/-- What is asked where the function that is ranged over has ended. -/
def Ended (l : Nat) (r : LoopState → Option Code → Loop) (Q : Act → World → Prop) (Qx : Code → Act → World → Prop) (a : Act) (e : Ending) (W : World) : Prop :=
  (∃ v, e = .returned v) ∧ ((W.heap[l]? = some (.loop (r .ready none)) ∧ Q a (W.putObj l (.loop (r .exhausted none)))) ∨ ∃ c, W.heap[l]? = some (.loop (r .done (some c))) ∧ Qx c a (W.putObj l (.loop (r .exhausted (some c)))))
theorem enter {g : Operand} {ps : Array Tmp} {assign body : Code} {Q : Exit → Act → World → Prop} {a : Act} {w : World} {gf : Nat} {lb : Array Value}
    (hg : a.eval g = .func (.func gf) #[] lb) (eg : ∀ args w, (callFunc gf args).run P w = .ok (.enter gf args) w)
    (h : ∀ fn, CallsIn Fence.wide (n - 1) P gf (#[.func (.yield (w.heap.size + 1)) #[] #[]] ++ lb) ((w.alloc (.deferred (some []))).alloc (.loop (loopRec fn a.tmps ps assign body w.heap.size .ready none)))
      (Ended (w.heap.size + 1) (loopRec fn a.tmps ps assign body w.heap.size) (Q .normal) (fun c => c.wpIn Fence.wide n P Q) { a with defers := M.mark w.heap.size :: a.defers })) :
    (Code.rangeFunc g ps assign body).wpIn Fence.wide n P Q a w := by
  refine wpIn_rangeFunc fun fn _ => ?_
  have hf := h fn
  obtain ⟨W1, hW1⟩ : ∃ W1, (w.alloc (.deferred (some []))).alloc (.loop (loopRec fn a.tmps ps assign body w.heap.size .ready none)) = W1 := ⟨_, rfl⟩
  rw [hW1] at hf
  refine ⟨w.heap.size + 1, [M.mark w.heap.size], W1, { target := .fn (.func gf) lb, args := #[.func (.yield (w.heap.size + 1)) #[] #[]] }, W1, gf, #[.func (.yield (w.heap.size + 1)) #[] #[]] ++ lb, W1, ?_, ?_, fun _ _ => trivial, ?_, by simp [Fence.wide], ?_⟩
  · rw [← hW1]; exact run_enterLoop_outer fn a.tmps ps assign body
  · simp only [resolve, hg]
    simp [go_sem]
  · simp [invoke, go_sem, eg]
  · refine hf.mono ?_
    rintro e W ⟨⟨v, rfl⟩, ⟨hl, hq⟩ | ⟨c, hl, hq⟩⟩
    · exact ⟨none, _, run_endLoop hl (by simp [loopRec]), hq⟩
    · exact ⟨some c, _, run_endLoop hl (by simp [loopRec]), hq⟩
/-- How a round's body is left. -/
def Left (l : Nat) (r : LoopState → Option Code → Loop) (R : Ending → World → Prop) : Exit → Act → World → Prop
  | .normal, _, W => W.heap[l]? = some (.loop (r .busy none)) ∧ R (.returned (.bool true)) (W.putObj l (.loop (r .ready none)))
  | .ret, _, W => W.heap[l]? = some (.loop (r .busy none)) ∧ R (.returned (.bool false)) (W.putObj l (.loop (r .done (some .ret))))
  | .exit id, _, W => W.heap[l]? = some (.loop (r .busy none)) ∧ R (.returned (.bool false)) (W.putObj l (.loop (r .done (some (.exit id)))))
  | .goto t, _, W => W.heap[l]? = some (.loop (r .busy none)) ∧ R (.returned (.bool false)) (W.putObj l (.loop (r .done (some (.goto t)))))
  | .panic _, _, _ => False
  | .outgrown, _, _ => False
theorem round {l : Nat} {fn : FuncId} {tmps : Array Value} {ps : Array Tmp} {assign body : Code} {D : Nat} {args : Array Value} {R : Ending → World → Prop} {W : World} (a1 : Act)
    (hl : W.heap[l]? = some (.loop (loopRec fn tmps ps assign body D .ready none))) (hs : args.size = ps.size)
    (hassign : ∀ K : Act → World → Prop, K a1 W → assign.wpIn (Fence.wide.inRound l) n P (Exit.then K (fun _ _ _ => False)) { tmps := (ps.zip args).foldl (fun t (p, v) => t.setIfInBounds p v) tmps, defers := [] } W)
    (hbody : body.wpIn (Fence.wide.inRound l) n P (Left l (loopRec fn tmps ps assign body D) R) a1 (W.putObj l (.loop (loopRec fn tmps ps assign body D .busy none)))) :
    YieldAt Fence.wide n P l args W R := by
  refine ⟨fn, _, assign, body, run_yield hl hs, roundIn_of_wpIn trivial (hassign _ ⟨_, run_beginRound hl rfl, wpIn_mono hbody ?_⟩)⟩
  rintro e a3 W3 h
  cases e with
  | normal => exact ⟨_, _, run_endRound none h.1, h.2⟩
  | ret => exact ⟨_, _, run_endRound _ h.1, h.2⟩
  | exit id => exact ⟨_, _, run_endRound _ h.1, h.2⟩
  | goto t => exact ⟨_, _, run_endRound _ h.1, h.2⟩
  | panic _ => exact h
  | outgrown => exact h
/-- The two, with what the loop's block holds behind a name. -/
theorem enter' {g : Operand} {ps : Array Tmp} {assign body : Code} {Q : Exit → Act → World → Prop} {a : Act} {w : World} {gf : Nat} {lb : Array Value}
    (hg : a.eval g = .func (.func gf) #[] lb) (eg : ∀ args w, (callFunc gf args).run P w = .ok (.enter gf args) w)
    (h : ∀ fn r, r = loopRec fn a.tmps ps assign body w.heap.size → CallsIn Fence.wide (n - 1) P gf (#[.func (.yield (w.heap.size + 1)) #[] #[]] ++ lb) ((w.alloc (.deferred (some []))).alloc (.loop (r .ready none)))
      (Ended (w.heap.size + 1) r (Q .normal) (fun c => c.wpIn Fence.wide n P Q) { a with defers := M.mark w.heap.size :: a.defers })) :
    (Code.rangeFunc g ps assign body).wpIn Fence.wide n P Q a w := enter hg eg fun fn => h fn _ rfl
theorem round' {l : Nat} {fn : FuncId} {tmps : Array Value} {ps : Array Tmp} {assign body : Code} {D : Nat} {args : Array Value} {R : Ending → World → Prop} {W : World} {r : LoopState → Option Code → Loop} (hr : r = loopRec fn tmps ps assign body D) (a1 : Act)
    (hl : W.heap[l]? = some (.loop (r .ready none))) (hs : args.size = ps.size)
    (hassign : ∀ K : Act → World → Prop, K a1 W → assign.wpIn (Fence.wide.inRound l) n P (Exit.then K (fun _ _ _ => False)) { tmps := (ps.zip args).foldl (fun t (p, v) => t.setIfInBounds p v) tmps, defers := [] } W)
    (hbody : body.wpIn (Fence.wide.inRound l) n P (Left l r R) a1 (W.putObj l (.loop (r .busy none)))) :
    YieldAt Fence.wide n P l args W R := by
  subst hr
  exact round a1 hl hs hassign hbody
end
/-- What lies at B or beyond stays as it is. -/
structure Keeps (B : Nat) (X Y : World) : Prop where
  size : X.heap.size ≤ Y.heap.size
  own : ∀ (k : Nat) (o : Obj), B ≤ k → X.heap[k]? = some o → Y.heap[k]? = some o
theorem Keeps.refl (B : Nat) (X : World) : Keeps B X X := ⟨Nat.le_refl _, fun _ _ _ h => h⟩
theorem Keeps.trans {B : Nat} {X Y Z : World} (h : Keeps B X Y) (k : Keeps B Y Z) : Keeps B X Z := ⟨Nat.le_trans h.size k.size, fun j o hj e => k.own j o hj (h.own j o hj e)⟩
theorem Keeps.up {B C : Nat} {X Y : World} (h : Keeps B X Y) (hB : B ≤ C) : Keeps C X Y := ⟨h.size, fun j o hj e => h.own j o (Nat.le_trans hB hj) e⟩
theorem Keeps.below {B : Nat} {W X Y : World} (h : Keeps B W X) (hb : Below W.heap.size X Y) : Keeps B W Y := ⟨Nat.le_trans h.size hb.size, fun k o hk e => (hb.block k (M.row_lt e)).trans (h.own k o hk e)⟩
theorem Keeps.of_below {B : Nat} {X Y : World} (h : Below X.heap.size X Y) : Keeps B X Y := (Keeps.refl B X).below h
theorem Keeps.put {B l : Nat} {X : World} {o' : Obj} (hB : l < B) : Keeps B X (X.putObj l o') := ⟨by simp, fun k o hk e => (World.putObj_heap_other (by omega)).trans e⟩
theorem Keeps.turn {B l : Nat} {W X Y : World} {o o1 o2 : Obj} (h : Keeps B W X) (hl : W.heap[l]? = some o) (hB : B ≤ l) (k : Keeps B (X.putObj l o1) Y) : Keeps B (W.putObj l o2) (Y.putObj l o2) := by
  refine ⟨by simpa using Nat.le_trans h.size (by simpa using k.size), fun j oj hj e => ?_⟩
  by_cases ej : j = l
  · subst ej
    rw [World.putObj_heap_same (M.row_lt hl)] at e
    have hX : j < (X.putObj j o1).heap.size := by simpa using M.row_lt (h.own j o hB hl)
    rw [World.putObj_heap_same (Nat.lt_of_lt_of_le hX k.size)]
    exact e
  · rw [World.putObj_heap_other ej] at e ⊢
    exact k.own j oj hj ((World.putObj_heap_other ej).trans (h.own j oj hj e))
/-- What lies at B or beyond, and all cells, stay as they are. -/
structure Holds (B : Nat) (X Y : World) : Prop extends Keeps B X Y where
  cells : M.CellsAs X Y
theorem Holds.keeps {B : Nat} {X Y : World} (h : Holds B X Y) : Keeps B X Y := h.toKeeps
theorem Holds.refl (B : Nat) (X : World) : Holds B X X := ⟨Keeps.refl B X, fun _ _ _ _ h => h⟩
theorem Holds.trans {B : Nat} {X Y Z : World} (h : Holds B X Y) (k : Holds B Y Z) : Holds B X Z := ⟨h.keeps.trans k.keeps, fun j cs t fr e => k.cells j cs t fr (h.cells j cs t fr e)⟩
theorem Holds.up {B C : Nat} {X Y : World} (h : Holds B X Y) (hB : B ≤ C) : Holds C X Y := ⟨h.keeps.up hB, h.cells⟩
theorem Holds.below {B : Nat} {W X Y : World} (h : Holds B W X) (hb : Below W.heap.size X Y) : Holds B W Y := ⟨h.keeps.below hb, fun k cs t fr e => (hb.block k (M.row_lt e)).trans (h.cells k cs t fr e)⟩
theorem Holds.of_below {B : Nat} {X Y : World} (h : Below X.heap.size X Y) : Holds B X Y := (Holds.refl B X).below h
theorem Holds.put {B l : Nat} {X : World} {o o' : Obj} (hl : X.heap[l]? = some o) (ho : o.isCells = false) (hB : l < B) : Holds B X (X.putObj l o') :=
  ⟨Keeps.put hB, fun k cs t fr e => (World.putObj_heap_other (fun e' => by subst e'; rw [hl] at e; cases e; cases ho)).trans e⟩
theorem Holds.box {B k : Nat} {X Y : World} {t : TypeId} {v : Value} (h : Holds B X Y) (hb : M.Box X k t v) : M.Box Y k t v := h.cells _ _ _ _ hb
theorem Holds.turn {B l : Nat} {W X Y : World} {o o1 o2 : Obj} (h : Holds B W X) (hl : W.heap[l]? = some o) (h2 : o2.isCells = false) (hB : B ≤ l) (k : Holds B (X.putObj l o1) Y) : Holds B (W.putObj l o2) (Y.putObj l o2) := by
  refine ⟨h.keeps.turn hl hB k.keeps, fun j cs t fr e => ?_⟩
  by_cases ej : j = l
  · subst ej
    rw [World.putObj_heap_same (M.row_lt hl)] at e
    cases e; cases h2
  · rw [World.putObj_heap_other ej] at e ⊢
    exact k.cells j cs t fr ((World.putObj_heap_other ej).trans (h.cells j cs t fr e))
theorem putObj_self {W : World} {l : Nat} {o : Obj} (h : W.heap[l]? = some o) : W.putObj l o = W := by
  have hh : (W.putObj l o).heap = W.heap := by
    refine Array.ext_getElem? fun i => ?_
    by_cases e : i = l
    · subst e
      rw [World.putObj_heap_same (M.row_lt h), h]
    · exact World.putObj_heap_other e
  unfold World.putObj at hh ⊢
  cases W
  simp at hh ⊢
  exact hh
theorem below_put {B l : Nat} {W : World} {o : Obj} (hl : B ≤ l) (hs : B ≤ W.heap.size) : Below B W (W.putObj l o) :=
  (Below.refl B W).grown (grownBy_putObj' W l o) hs (fun k e => by cases e; exact hl)
end RL
end Go.Proofs.Ytlnlepadninnaaa
/- A range over a function, outermost in its activation, by an invariant that speaks of cells alone: the loop's own block and its mark are carried along here, once and for all. -/
namespace Go.Proofs.Ytlnlepadninnaaa
open Go Go.RowKit
namespace M
theorem CellsAs.refl (X : World) : CellsAs X X := fun _ _ _ _ h => h
theorem CellsAs.trans' {X Y Z : World} (h : CellsAs X Y) (k : CellsAs Y Z) : CellsAs X Z := fun j cs t fr e => k j cs t fr (h j cs t fr e)
theorem CellsAs.of_below {X Y : World} (h : Below X.heap.size X Y) : CellsAs X Y := fun k _ _ _ e => (h.block k (row_lt e)).trans e
theorem CellsAs.put {X : World} {l : Nat} {o o' : Obj} (hl : X.heap[l]? = some o) (ho : o.isCells = false) : CellsAs X (X.putObj l o') := fun k _ _ _ e => (World.putObj_heap_other (fun e' => by subst e'; rw [hl] at e; cases e; cases ho)).trans e
theorem cell_block {X : World} {a : Addr} {v : Value} (h : X.cell? a = some v) : ∃ cs t fr, X.heap[a.block]? = some (.cells cs t fr) := by
  unfold World.cell? at h
  cases e : X.heap[a.block]? with
  | none => rw [e] at h; simp at h
  | some o =>
    rw [e] at h
    cases o with
    | cells cs t fr => exact ⟨cs, t, fr, rfl⟩
    | _ => simp at h
theorem CellsAs.cell {X Y : World} (h : CellsAs X Y) {a : Addr} {v : Value} (hc : X.cell? a = some v) : Y.cell? a = some v := by
  obtain ⟨cs, t, fr, hb⟩ := cell_block hc
  rw [← hc]
  exact World.cell?_of_block ((h _ _ _ _ hb).trans hb.symm)
end M
namespace RL
open M
/-- What is no cells stays as it is. -/
def Objs (X Y : World) : Prop := ∀ (k : Nat) (o : Obj), o.isCells = false → X.heap[k]? = some o → Y.heap[k]? = some o
theorem Objs.refl (X : World) : Objs X X := fun _ _ _ h => h
theorem Objs.trans {X Y Z : World} (h : Objs X Y) (k : Objs Y Z) : Objs X Z := fun j o ho e => k j o ho (h j o ho e)
theorem Objs.of_below {X Y : World} (h : Below X.heap.size X Y) : Objs X Y := fun k _ _ e => (h.block k (row_lt e)).trans e
theorem Objs.setCell {X : World} {a : Addr} {u : Value} (hc : X.cell? a = some u) (v : Value) : Objs X (X.setCell a v) := fun k o ho e => (Below.heap_setCell X a v k (fun e' => by
  obtain ⟨cs, t, fr, hb⟩ := cell_block hc
  rw [e', hb] at e
  cases e; cases ho)).trans e
theorem Objs.drewN (X : World) (n : Nat) : Objs X (X.drewN n) := fun _ _ _ e => e
theorem Objs.grown {X Y : World} {row : Option Nat} (h : X.grownBy Y row) (hr : ∀ k, row = some k → ∃ cs t fr, X.heap[k]? = some (.cells cs t fr)) : Objs X Y := fun k o ho e => (h.block k (row_lt e) (fun e' => by
  obtain ⟨cs, t, fr, hb⟩ := hr k e'.symm
  rw [hb] at e; cases e; cases ho)).trans e
/-- How a round's body is left, by an invariant on cells. -/
def Leaves (X1 : World) (J Jx : World → Prop) : Exit → Act → World → Prop
  | .normal, _, W => J W ∧ Objs X1 W
  | .ret, _, W => Jx W ∧ Objs X1 W
  | _, _, _ => False
section
variable {n : Nat} {P : Program}
/-- A round, where the assignment may lay something anew. -/
theorem roundA {l : Nat} {fn : FuncId} {tmps : Array Value} {ps : Array Tmp} {assign body : Code} {D : Nat} {args : Array Value} {R : Ending → World → Prop} {W W1 : World} {r : LoopState → Option Code → Loop} (hr : r = loopRec fn tmps ps assign body D) (a1 : Act)
    (hl : W.heap[l]? = some (.loop (r .ready none))) (hl1 : W1.heap[l]? = some (.loop (r .ready none))) (hs : args.size = ps.size)
    (hassign : ∀ K : Act → World → Prop, K a1 W1 → assign.wpIn (Fence.wide.inRound l) n P (Exit.then K (fun _ _ _ => False)) { tmps := (ps.zip args).foldl (fun t (p, v) => t.setIfInBounds p v) tmps, defers := [] } W)
    (hbody : body.wpIn (Fence.wide.inRound l) n P (Left l r R) a1 (W1.putObj l (.loop (r .busy none)))) :
    YieldAt Fence.wide n P l args W R := by
  subst hr
  refine ⟨fn, _, assign, body, run_yield hl hs, roundIn_of_wpIn trivial (hassign _ ⟨_, run_beginRound hl1 rfl, wpIn_mono hbody ?_⟩)⟩
  rintro e a3 W3 h
  cases e with
  | normal => exact ⟨_, _, run_endRound none h.1, h.2⟩
  | ret => exact ⟨_, _, run_endRound _ h.1, h.2⟩
  | exit id => exact ⟨_, _, run_endRound _ h.1, h.2⟩
  | goto t => exact ⟨_, _, run_endRound _ h.1, h.2⟩
  | panic _ => exact h
  | outgrown => exact h
/-- What a function that is ranged over does: it yields N times, as long as it is told to go on. -/
def Seq (n : Nat) (P : Program) (gf : FuncId) (lb : Array Value) (N : Nat) (I : Nat → World → Prop) (El : Nat → Array Value → World → Prop) : Prop :=
  ∀ (l : Nat) (W : World) (J : Nat → World → Prop) (Jx : World → Prop), (∀ j X, J j X → I j X) → (∀ j X Y, J j X → Below X.heap.size X Y → J j Y) → (∀ X Y, Jx X → Below X.heap.size X Y → Jx Y) → J 0 W →
    (∀ j args X, j < N → J j X → El j args X → YieldAt Fence.wide (n - 1) P l args X fun e Y => (e = .returned (.bool true) ∧ J (j + 1) Y) ∨ (e = .returned (.bool false) ∧ Jx Y)) →
    CallsIn Fence.wide n P gf (#[.func (.yield l) #[] #[]] ++ lb) W fun e Y => (∃ v, e = .returned v) ∧ (J N Y ∨ Jx Y)
theorem range {g : Operand} {ps : Array Tmp} {assign body : Code} {Q : Exit → Act → World → Prop} {a : Act} {w : World} {gf : Nat} {lb : Array Value} (B N : Nat) (I : Nat → World → Prop) (Ix : World → Prop) (El : Nat → Array Value → World → Prop)
    (hg : a.eval g = .func (.func gf) #[] lb) (eg : ∀ args w, (callFunc gf args).run P w = .ok (.enter gf args) w)
    (hB : B ≤ w.heap.size)
    (hS : ∀ j X Y, I j X → Below B X Y → CellsAs X Y → I j Y) (hSx : ∀ X Y, Ix X → Below B X Y → CellsAs X Y → Ix Y)
    (hE : ∀ j args X Y, El j args X → CellsAs X Y → El j args Y)
    (h0 : I 0 w) (hseq : Seq (n - 1) P gf lb N (fun j X => I j X ∧ B ≤ X.heap.size) El)
    (hround : ∀ (l j : Nat) (args : Array Value) (X : World), j < N → I j X → El j args X → B ≤ l → B ≤ X.heap.size →
      ∃ a1 W1, Below X.heap.size X W1 ∧ args.size = ps.size ∧
        (∀ K : Act → World → Prop, K a1 W1 → assign.wpIn (Fence.wide.inRound l) (n - 1 - 1) P (Exit.then K (fun _ _ _ => False)) { tmps := (ps.zip args).foldl (fun t (p, v) => t.setIfInBounds p v) a.tmps, defers := [] } X) ∧
        ∀ X1, CellsAs W1 X1 → I j X1 → El j args X1 → B ≤ X1.heap.size → body.wpIn (Fence.wide.inRound l) (n - 1 - 1) P (Leaves X1 (fun Y => I (j + 1) Y ∧ B ≤ Y.heap.size) (fun Y => Ix Y ∧ B ≤ Y.heap.size)) a1 X1)
    (hend : ∀ Y D, I N Y → Y.heap[D]? = some (.deferred (some [])) → B ≤ D → B ≤ Y.heap.size → Q .normal { a with defers := M.mark D :: a.defers } Y)
    (hstop : ∀ Y D, Ix Y → Y.heap[D]? = some (.deferred (some [])) → B ≤ D → B ≤ Y.heap.size → Code.ret.wpIn Fence.wide n P Q { a with defers := M.mark D :: a.defers } Y) :
    (Code.rangeFunc g ps assign body).wpIn Fence.wide n P Q a w := by
  refine enter' hg eg fun fn r hr => ?_
  obtain ⟨D, hD⟩ : ∃ D, w.heap.size = D := ⟨_, rfl⟩
  obtain ⟨W, hW⟩ : ∃ W, (w.alloc (.deferred (some []))).alloc (.loop (r .ready none)) = W := ⟨_, rfl⟩
  have b4 : Below w.heap.size w W := by rw [← hW]; exact (below_box _ _).trans ((below_box _ _).mono (by simp))
  have hl4 : W.heap[D + 1]? = some (.loop (r .ready none)) := by
    have := World.alloc_heap_new (w.alloc (.deferred (some []))) (.loop (r .ready none))
    rwa [World.size_alloc, hD, hW] at this
  have hD4 : W.heap[D]? = some (.deferred (some [])) := by
    have h1 := World.alloc_heap_new w (.deferred (some []))
    rw [hD] at h1
    have h2 := (below_box (w.alloc (.deferred (some []))) (.loop (r .ready none))).block D (row_lt h1)
    rw [hW] at h2
    exact h2.trans h1
  rw [hW]
  rw [hD] at hr hB ⊢
  have hturn : ∀ (X : World) (st st' : LoopState) (pe pe' : Option Code), X.heap[D + 1]? = some (.loop (r st pe)) → B ≤ X.heap.size → Below B X (X.putObj (D + 1) (.loop (r st' pe'))) ∧ CellsAs X (X.putObj (D + 1) (.loop (r st' pe'))) :=
    fun X st st' pe pe' h hs => ⟨below_put (by omega) hs, CellsAs.put h rfl⟩
  have hother : ∀ (X : World) (o : Obj), X.heap[D]? = some (.deferred (some [])) → (X.putObj (D + 1) o).heap[D]? = some (.deferred (some [])) := fun X o h => (World.putObj_heap_other (by omega)).trans h
  obtain ⟨J, hJ⟩ : ∃ J : Nat → World → Prop, J = fun j X => (I j X ∧ B ≤ X.heap.size) ∧ X.heap[D + 1]? = some (.loop (r .ready none)) ∧ X.heap[D]? = some (.deferred (some [])) := ⟨_, rfl⟩
  obtain ⟨Jx, hJx⟩ : ∃ Jx : World → Prop, Jx = fun X => (Ix X ∧ B ≤ X.heap.size) ∧ X.heap[D + 1]? = some (.loop (r .done (some .ret))) ∧ X.heap[D]? = some (.deferred (some [])) := ⟨_, rfl⟩
  refine (hseq (D + 1) W J Jx (fun j X h => by rw [hJ] at h; exact h.1) (fun j X Y h hb => ?_) (fun X Y h hb => ?_) ?_ ?_).mono ?_
  · rw [hJ] at h ⊢
    exact ⟨⟨hS _ _ _ h.1.1 (hb.mono h.1.2) (.of_below hb), Nat.le_trans h.1.2 hb.size⟩, (hb.block _ (row_lt h.2.1)).trans h.2.1, (hb.block _ (row_lt h.2.2)).trans h.2.2⟩
  · rw [hJx] at h ⊢
    exact ⟨⟨hSx _ _ h.1.1 (hb.mono h.1.2) (.of_below hb), Nat.le_trans h.1.2 hb.size⟩, (hb.block _ (row_lt h.2.1)).trans h.2.1, (hb.block _ (row_lt h.2.2)).trans h.2.2⟩
  · rw [hJ]
    exact ⟨⟨hS _ _ _ h0 (b4.mono (by omega)) (.of_below b4), by have := b4.size; omega⟩, hl4, hD4⟩
  · intro j args X hj hJX hEl
    rw [hJ] at hJX
    obtain ⟨⟨hI, hsX⟩, hlX, hDX⟩ := hJX
    obtain ⟨a1, W1, hb1, hsz, hassign, hbody⟩ := hround (D + 1) j args X hj hI hEl (by omega) hsX
    have hlW : W1.heap[D + 1]? = some (.loop (r .ready none)) := (hb1.block _ (row_lt hlX)).trans hlX
    have hDW : W1.heap[D]? = some (.deferred (some [])) := (hb1.block _ (row_lt hDX)).trans hDX
    have hsW : B ≤ W1.heap.size := Nat.le_trans hsX hb1.size
    obtain ⟨t1, t2⟩ := hturn W1 .ready .busy none none hlW hsW
    refine roundA hr a1 hlX hlW hsz hassign (wpIn_mono (hbody _ t2 (hS _ _ _ hI ((hb1.mono hsX).trans t1) ((CellsAs.of_below hb1).trans' t2)) (hE _ _ _ _ hEl ((CellsAs.of_below hb1).trans' t2)) (by rw [World.putObj_size]; exact hsW)) ?_)
    have hbusy : (W1.putObj (D + 1) (.loop (r .busy none))).heap[D + 1]? = some (.loop (r .busy none)) := World.putObj_heap_same (row_lt hlW)
    have hDb := hother W1 (.loop (r .busy none)) hDW
    rintro e a3 W3 h
    cases e with
    | normal =>
      obtain ⟨⟨h1, h2⟩, h3⟩ := h
      have k1 := h3 _ _ rfl hbusy
      have k2 := h3 _ _ rfl hDb
      obtain ⟨t3, t4⟩ := hturn W3 .busy .ready none none k1 h2
      refine ⟨k1, .inl ⟨rfl, ?_⟩⟩
      rw [hJ]
      exact ⟨⟨hS _ _ _ h1 t3 t4, by rw [World.putObj_size]; exact h2⟩, World.putObj_heap_same (row_lt k1), hother _ _ k2⟩
    | ret =>
      obtain ⟨⟨h1, h2⟩, h3⟩ := h
      have k1 := h3 _ _ rfl hbusy
      have k2 := h3 _ _ rfl hDb
      obtain ⟨t3, t4⟩ := hturn W3 .busy .done none (some .ret) k1 h2
      refine ⟨k1, .inr ⟨rfl, ?_⟩⟩
      rw [hJx]
      exact ⟨⟨hSx _ _ h1 t3 t4, by rw [World.putObj_size]; exact h2⟩, World.putObj_heap_same (row_lt k1), hother _ _ k2⟩
    | exit id => exact h.elim
    | goto t => exact h.elim
    | panic _ => exact h.elim
    | outgrown => exact h.elim
  · rintro E Y ⟨hret, hj | hj⟩
    · rw [hJ] at hj
      obtain ⟨⟨h1, h2⟩, k1, k2⟩ := hj
      obtain ⟨t3, t4⟩ := hturn Y .ready .exhausted none none k1 h2
      exact ⟨hret, .inl ⟨k1, hend _ D (hS _ _ _ h1 t3 t4) (hother _ _ k2) hB (by rw [World.putObj_size]; exact h2)⟩⟩
    · rw [hJx] at hj
      obtain ⟨⟨h1, h2⟩, k1, k2⟩ := hj
      obtain ⟨t3, t4⟩ := hturn Y .done .exhausted (some .ret) (some .ret) k1 h2
      exact ⟨hret, .inr ⟨.ret, k1, hstop _ D (hSx _ _ h1 t3 t4) (hother _ _ k2) hB (by rw [World.putObj_size]; exact h2)⟩⟩
end
end RL
end Go.Proofs.Ytlnlepadninnaaa
/- Parameters as a value: thirteen numbers, each one cell. -/
namespace Go.Proofs.Ytlnlepadninnaaa
open Go Go.RowKit Go.Lib

/-- The parameters. -/
structure Pm where
  P : Nat
  Q : Nat
  G : Nat
  H : Nat
  Nodes : Int
  N : Int
  T : Int
  K : Int
  D : Int
  R : Int
  M : Int
  X : Int
/-- Their cells. -/
abbrev Pm.cells (p : Pm) : Array Value := #[.int .u64 (p.P : Int), .int .u64 (p.Q : Int), .int .u64 (p.G : Int), .int .u64 (p.H : Int), .int .i64 p.Nodes, .int .i64 p.N, .int .i64 p.T, .int .i64 p.K, .int .i64 p.D, .int .i64 p.R, .int .i64 p.M, .int .i64 p.X]
theorem Pm.c0 (p : Pm) : p.cells[0]? = some (.int .u64 (p.P : Int)) := rfl
theorem Pm.c1 (p : Pm) : p.cells[1]? = some (.int .u64 (p.Q : Int)) := rfl
theorem Pm.c2 (p : Pm) : p.cells[2]? = some (.int .u64 (p.G : Int)) := rfl
theorem Pm.c3 (p : Pm) : p.cells[3]? = some (.int .u64 (p.H : Int)) := rfl

namespace M
/-- A whole row read out of its block, also where the operation stands under a guard that lets it run. -/
theorem wpList_row_if {P : Program} {ops : Array Oper} {rest : List Oper} {o : Oper} {a : Act} {w : World} {Q : Exit → Act → World → Prop} (hgd : Region.wanted o (yielded ops a.tmps) = true) (ty : TypeId) (x : Operand) (ho : o.op = .load ty x)
    (g : Nat) (hx : a.eval x = .pointer (some ⟨g, 0, none⟩)) (t : TypeId) (cs : Array Value) (fr : Nat × Nat) (d : TypeDesc) (hg : w.heap[g]? = some (.cells cs t fr))
    (hu : P.underlying ty = some d) (hd : (match d with | .struct _ | .array _ _ => true | _ => false) = true) (hi : (P.info? ty).map (·.size) = some cs.size)
    (h : wpList P ops Q rest (a.put o.dst (.agg cs)) w) : wpList P ops Q (o :: rest) a w :=
  wpList_step fun _ hK => by rw [if_pos hgd]; exact wp_load_row ty x ho g hx t cs fr d hg hu hd hi (hK _ _ h)
/-- The parameters lie in the block g. -/
def PBox (w : World) (g : Nat) (p : Pm) : Prop := w.heap[g]? = some (.cells p.cells 25 (0, 0))
theorem PBox.lt {w : World} {g : Nat} {p : Pm} (h : PBox w g p) : g < w.heap.size := by
  rcases Nat.lt_or_ge g w.heap.size with h' | h'
  · exact h'
  · unfold PBox at h; rw [Array.getElem?_eq_none h'] at h; cases h
theorem PBox.below {w w' : World} {g : Nat} {p : Pm} (h : PBox w g p) (hb : Below w.heap.size w w') : PBox w' g p := by
  unfold PBox
  rw [hb.block _ h.lt]; exact h
theorem PBox.new (w : World) (p : Pm) : PBox (w.alloc (.cells p.cells 25)) w.heap.size p := heap_alloc_new w _
theorem PBox.cell {w : World} {g : Nat} {p : Pm} (h : PBox w g p) (j : Nat) : w.cell? ⟨g, j, none⟩ = p.cells[j]? := cell_of_row w g j _ _ _ h
end M
end Go.Proofs.Ytlnlepadninnaaa
