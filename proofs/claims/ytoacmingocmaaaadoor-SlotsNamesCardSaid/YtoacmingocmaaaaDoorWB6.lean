/- The texts DskBox, RobLoop, RangeK, DskBack, one behind the other. -/
import Derived.Test.YtoacmingocmaaaaDoorWB1
import Derived.Test.YtoacmingocmaaaaDoorWB3
import Derived.RangeFuncBox
import Derived.RangeFuncNested
import Derived.RangeFuncBound
import Derived.RangeFuncCalls
import Derived.RangeFuncLeaves
import Derived.Shelf.Abstract
import Derived.WalkKit
import Derived.OwnWalkIn
import Derived.TacticsInMore
import Derived.LoopNIn
import Derived.LoopIn
import Derived.Test.YtoacmingocmaaaaDoorWB5
/- One value in a box; the marks that ranges over a function leave with a call. -/
namespace Go.Proofs.YtoacmingocmaaaaDoor
open Go Go.RowKit Go.Lib Go.Shelf
namespace M
def Box (W : World) (B : Nat) (t : TypeId) (v : Value) : Prop := W.heap[B]? = some (.cells #[v] t (0, 0))
theorem Box.below {W W' : World} {B : Nat} {t : TypeId} {v : Value} (h : Box W B t v) (hb : Below W.heap.size W W') : Box W' B t v := (hb.block B (row_lt h)).trans h
theorem Box.cell {W : World} {B : Nat} {t : TypeId} {v : Value} (h : Box W B t v) : W.cell? ⟨B, 0, none⟩ = some v := by rw [cell_of_row W B 0 _ _ _ h]; rfl
theorem Box.free {W : World} {B : Nat} {t : TypeId} {v : Value} (h : Box W B t v) : W.frozen? ⟨B, 0, none⟩ = false := by simp [World.frozen?, show W.heap[B]? = _ from h]
theorem Box.new (W : World) (t : TypeId) (v : Value) : Box (W.alloc (.cells #[v] t)) W.heap.size t v := heap_alloc_new _ _
theorem Box.set {W : World} {B : Nat} {t : TypeId} {v : Value} (h : Box W B t v) (u : Value) : Box (W.setCell ⟨B, 0, none⟩ u) B t u := by
  have := heap_setCell_same W B 0 #[v] t u h
  simpa [Box] using this
theorem Box.other {W : World} {B : Nat} {t : TypeId} {v : Value} (h : Box W B t v) (a : Addr) (u : Value) (hne : B ≠ a.block) : Box (W.setCell a u) B t v := (Below.heap_setCell W a u B hne).trans h
theorem Box.drewN {W : World} {B : Nat} {t : TypeId} {v : Value} (h : Box W B t v) (n : Nat) : Box (W.drewN n) B t v := h
def mark (D : Nat) : Deferred := { target := .collected D, args := #[] }
structure Marks (Ds : List Nat) (w : World) : Prop where
  nodup : Ds.Nodup
  at_ : ∀ D, D ∈ Ds → w.heap[D]? = some (.deferred (some []))
theorem Marks.nil (w : World) : Marks [] w := ⟨List.nodup_nil, fun _ h => by cases h⟩
theorem Marks.lt {Ds : List Nat} {w : World} (h : Marks Ds w) {D : Nat} (hD : D ∈ Ds) : D < w.heap.size := row_lt (h.at_ D hD)
theorem Marks.below {Ds : List Nat} {w w' : World} (h : Marks Ds w) (hb : Below w.heap.size w w') : Marks Ds w' := ⟨h.nodup, fun D hD => (hb.block D (h.lt hD)).trans (h.at_ D hD)⟩
theorem Marks.drewN {Ds : List Nat} {w : World} (h : Marks Ds w) (n : Nat) : Marks Ds (w.drewN n) := ⟨h.nodup, h.at_⟩
theorem Marks.cons {Ds : List Nat} {w : World} (h : Marks Ds w) {D : Nat} (hD : w.heap[D]? = some (.deferred (some []))) (hne : D ∉ Ds) : Marks (D :: Ds) w :=
  ⟨List.nodup_cons.2 ⟨hne, h.nodup⟩, fun E hE => by
    rcases List.mem_cons.1 hE with rfl | h'
    · exact hD
    · exact h.at_ E h'⟩
theorem Marks.setCell {Ds : List Nat} {w : World} (h : Marks Ds w) {a : Addr} {v u : Value} (hc : w.cell? a = some u) : Marks Ds (w.setCell a v) :=
  ⟨h.nodup, fun D hD => (Below.heap_setCell w a v D (fun e => by
    have h1 := h.at_ D hD
    rw [e] at h1
    simp [World.cell?, h1] at hc)).trans (h.at_ D hD)⟩
/-- All cells are as they were. -/
def CellsAs (w w' : World) : Prop := ∀ (k : Nat) (cs : Array Value) (t : TypeId) (fr : Nat × Nat), w.heap[k]? = some (.cells cs t fr) → w'.heap[k]? = some (.cells cs t fr)
theorem leaves_marks {F : Fence} {n : Nat} {P : Program} {fn : Func} {tmps : Array Value} {R : Ending → World → Prop} {B : Nat} : ∀ (Ds : List Nat) (w : World), Marks Ds w → (∀ D, D ∈ Ds → B ≤ D) →
    (∀ w', Below B w w' → CellsAs w w' → LeavesInM F n P fn tmps R [] .returning w') → LeavesInM F n P fn tmps R (Ds.map mark) .returning w
  | [], w, _, _, h => h w (Below.refl _ _) (fun _ _ _ _ h => h)
  | D :: Ds, w, hm, hB, h => by
    refine ⟨by simp, .inl ⟨D, _, rfl, run_takeDeferred (hm.at_ D (by simp)), ?_⟩⟩
    have hne : D ∉ Ds := (List.nodup_cons.1 hm.nodup).1
    have hD := hm.lt (D := D) (by simp)
    have hb : Below B w (w.putObj D (.deferred none)) := (Below.refl B w).grown (grownBy_putObj' w D _) (by have := hB D (by simp); omega) (fun k e => by cases e; exact hB D (by simp))
    refine leaves_marks Ds _ ⟨(List.nodup_cons.1 hm.nodup).2, fun E hE => (World.putObj_heap_other (by intro e; subst e; exact hne hE)).trans (hm.at_ E (by simp [hE]))⟩ (fun E hE => hB E (by simp [hE])) ?_
    intro w' hb' hc'
    refine h w' (hb.trans hb') (fun k cs t fr hk => hc' k cs t fr ?_)
    refine (World.putObj_heap_other (fun e => ?_)).trans hk
    subst e
    rw [hm.at_ k (by simp)] at hk
    cases hk
end M
end Go.Proofs.YtoacmingocmaaaaDoor
/- A range over a function, outermost in its activation: the two ends of the loop and one round, each by itself, with the loop's own block named. -/
namespace Go.Proofs.YtoacmingocmaaaaDoor
open Go Go.RowKit
namespace RL
/-- What the loop's own block holds. -/
def loopRec (fn : FuncId) (tmps : Array Value) (ps : Array Tmp) (assign body : Code) (D : Nat) (st : LoopState) (pe : Option Code) : Loop := { state := st, pending := pe, fn := fn, tmps := tmps, params := ps, assign := assign, body := body, defers := D }
section
variable {n : Nat} {P : Program}
/-- What is asked where the function that is ranged over has ended. -/
def Ended (l : Nat) (r : LoopState → Option Code → Loop) (Q : Act → World → Prop) (Qx : Code → Act → World → Prop) (a : Act) (e : Ending) (W : World) : Prop :=
  (∃ v, e = .returned v) ∧ ((W.heap[l]? = some (.loop (r .ready none)) ∧ Q a (W.putObj l (.loop (r .exhausted none)))) ∨ ∃ c, W.heap[l]? = some (.loop (r .done (some c))) ∧ Qx c a (W.putObj l (.loop (r .exhausted (some c)))))
theorem enter {g : Operand} {ps : Array Tmp} {assign body : Code} {Q : Exit → Act → World → Prop} {a : Act} {w : World} {gf : Nat} {lb : Array Value}
    (hg : a.eval g = .func (.func gf) #[] lb) (eg : ∀ args w, (callFunc gf args).run P w = .ok (.enter gf args) w)
    (h : ∀ fn, CallsIn Fence.wide (n - 1) P gf (#[.func (.yield (w.heap.size + 1)) #[] #[]] ++ lb) ((w.alloc (.deferred (some []))).alloc (.loop (loopRec fn a.tmps ps assign body w.heap.size .ready none)))
      (Ended (w.heap.size + 1) (loopRec fn a.tmps ps assign body w.heap.size) (Q .normal) (fun c => c.wpIn Fence.wide n P Q) { a with defers := M.mark w.heap.size :: a.defers })) :
    (Code.rangeFunc g ps assign body).wpIn Fence.wide n P Q a w := by
  refine wpIn_rangeFunc fun fn _ => ?_
  have hf := h fn
  obtain ⟨W1, hW1⟩ : ∃ W1, (w.alloc (.deferred (some []))).alloc (.loop (loopRec fn a.tmps ps assign body w.heap.size .ready none)) = W1 := ⟨_, rfl⟩
  rw [hW1] at hf
  refine ⟨w.heap.size + 1, [M.mark w.heap.size], W1, { target := .fn (.func gf) lb, args := #[.func (.yield (w.heap.size + 1)) #[] #[]] }, W1, gf, #[.func (.yield (w.heap.size + 1)) #[] #[]] ++ lb, W1, ?_, ?_, fun _ _ => trivial, ?_, by simp [Fence.wide], ?_⟩
  · rw [← hW1]; exact run_enterLoop_outer fn a.tmps ps assign body
  · simp only [resolve, hg]
    simp [go_sem]
  · simp [invoke, go_sem, eg]
  · refine hf.mono ?_
    rintro e W ⟨⟨v, rfl⟩, ⟨hl, hq⟩ | ⟨c, hl, hq⟩⟩
    · exact ⟨none, _, run_endLoop hl (by simp [loopRec]), hq⟩
    · exact ⟨some c, _, run_endLoop hl (by simp [loopRec]), hq⟩
/-- How a round's body is left. -/
def Left (l : Nat) (r : LoopState → Option Code → Loop) (R : Ending → World → Prop) : Exit → Act → World → Prop
  | .normal, _, W => W.heap[l]? = some (.loop (r .busy none)) ∧ R (.returned (.bool true)) (W.putObj l (.loop (r .ready none)))
  | .ret, _, W => W.heap[l]? = some (.loop (r .busy none)) ∧ R (.returned (.bool false)) (W.putObj l (.loop (r .done (some .ret))))
  | .exit id, _, W => W.heap[l]? = some (.loop (r .busy none)) ∧ R (.returned (.bool false)) (W.putObj l (.loop (r .done (some (.exit id)))))
  | .goto t, _, W => W.heap[l]? = some (.loop (r .busy none)) ∧ R (.returned (.bool false)) (W.putObj l (.loop (r .done (some (.goto t)))))
  | .panic _, _, _ => False
  | .outgrown, _, _ => False
theorem round {l : Nat} {fn : FuncId} {tmps : Array Value} {ps : Array Tmp} {assign body : Code} {D : Nat} {args : Array Value} {R : Ending → World → Prop} {W : World} (a1 : Act)
    (hl : W.heap[l]? = some (.loop (loopRec fn tmps ps assign body D .ready none))) (hs : args.size = ps.size)
    (hassign : ∀ K : Act → World → Prop, K a1 W → assign.wpIn (Fence.wide.inRound l) n P (Exit.then K (fun _ _ _ => False)) { tmps := (ps.zip args).foldl (fun t (p, v) => t.setIfInBounds p v) tmps, defers := [] } W)
    (hbody : body.wpIn (Fence.wide.inRound l) n P (Left l (loopRec fn tmps ps assign body D) R) a1 (W.putObj l (.loop (loopRec fn tmps ps assign body D .busy none)))) :
    YieldAt Fence.wide n P l args W R := by
  refine ⟨fn, _, assign, body, run_yield hl hs, roundIn_of_wpIn trivial (hassign _ ⟨_, run_beginRound hl rfl, wpIn_mono hbody ?_⟩)⟩
  rintro e a3 W3 h
  cases e with
  | normal => exact ⟨_, _, run_endRound none h.1, h.2⟩
  | ret => exact ⟨_, _, run_endRound _ h.1, h.2⟩
  | exit id => exact ⟨_, _, run_endRound _ h.1, h.2⟩
  | goto t => exact ⟨_, _, run_endRound _ h.1, h.2⟩
  | panic _ => exact h
  | outgrown => exact h
/-- The two, with what the loop's block holds behind a name. -/
theorem enter' {g : Operand} {ps : Array Tmp} {assign body : Code} {Q : Exit → Act → World → Prop} {a : Act} {w : World} {gf : Nat} {lb : Array Value}
    (hg : a.eval g = .func (.func gf) #[] lb) (eg : ∀ args w, (callFunc gf args).run P w = .ok (.enter gf args) w)
    (h : ∀ fn r, r = loopRec fn a.tmps ps assign body w.heap.size → CallsIn Fence.wide (n - 1) P gf (#[.func (.yield (w.heap.size + 1)) #[] #[]] ++ lb) ((w.alloc (.deferred (some []))).alloc (.loop (r .ready none)))
      (Ended (w.heap.size + 1) r (Q .normal) (fun c => c.wpIn Fence.wide n P Q) { a with defers := M.mark w.heap.size :: a.defers })) :
    (Code.rangeFunc g ps assign body).wpIn Fence.wide n P Q a w := enter hg eg fun fn => h fn _ rfl
theorem round' {l : Nat} {fn : FuncId} {tmps : Array Value} {ps : Array Tmp} {assign body : Code} {D : Nat} {args : Array Value} {R : Ending → World → Prop} {W : World} {r : LoopState → Option Code → Loop} (hr : r = loopRec fn tmps ps assign body D) (a1 : Act)
    (hl : W.heap[l]? = some (.loop (r .ready none))) (hs : args.size = ps.size)
    (hassign : ∀ K : Act → World → Prop, K a1 W → assign.wpIn (Fence.wide.inRound l) n P (Exit.then K (fun _ _ _ => False)) { tmps := (ps.zip args).foldl (fun t (p, v) => t.setIfInBounds p v) tmps, defers := [] } W)
    (hbody : body.wpIn (Fence.wide.inRound l) n P (Left l r R) a1 (W.putObj l (.loop (r .busy none)))) :
    YieldAt Fence.wide n P l args W R := by
  subst hr
  exact round a1 hl hs hassign hbody
end
/-- What lies at B or beyond stays as it is. -/
structure Keeps (B : Nat) (X Y : World) : Prop where
  size : X.heap.size ≤ Y.heap.size
  own : ∀ (k : Nat) (o : Obj), B ≤ k → X.heap[k]? = some o → Y.heap[k]? = some o
theorem Keeps.refl (B : Nat) (X : World) : Keeps B X X := ⟨Nat.le_refl _, fun _ _ _ h => h⟩
theorem Keeps.trans {B : Nat} {X Y Z : World} (h : Keeps B X Y) (k : Keeps B Y Z) : Keeps B X Z := ⟨Nat.le_trans h.size k.size, fun j o hj e => k.own j o hj (h.own j o hj e)⟩
theorem Keeps.up {B C : Nat} {X Y : World} (h : Keeps B X Y) (hB : B ≤ C) : Keeps C X Y := ⟨h.size, fun j o hj e => h.own j o (Nat.le_trans hB hj) e⟩
theorem Keeps.below {B : Nat} {W X Y : World} (h : Keeps B W X) (hb : Below W.heap.size X Y) : Keeps B W Y := ⟨Nat.le_trans h.size hb.size, fun k o hk e => (hb.block k (M.row_lt e)).trans (h.own k o hk e)⟩
theorem Keeps.of_below {B : Nat} {X Y : World} (h : Below X.heap.size X Y) : Keeps B X Y := (Keeps.refl B X).below h
theorem Keeps.put {B l : Nat} {X : World} {o' : Obj} (hB : l < B) : Keeps B X (X.putObj l o') := ⟨by simp, fun k o hk e => (World.putObj_heap_other (by omega)).trans e⟩
theorem Keeps.turn {B l : Nat} {W X Y : World} {o o1 o2 : Obj} (h : Keeps B W X) (hl : W.heap[l]? = some o) (hB : B ≤ l) (k : Keeps B (X.putObj l o1) Y) : Keeps B (W.putObj l o2) (Y.putObj l o2) := by
  refine ⟨by simpa using Nat.le_trans h.size (by simpa using k.size), fun j oj hj e => ?_⟩
  by_cases ej : j = l
  · subst ej
    rw [World.putObj_heap_same (M.row_lt hl)] at e
    have hX : j < (X.putObj j o1).heap.size := by simpa using M.row_lt (h.own j o hB hl)
    rw [World.putObj_heap_same (Nat.lt_of_lt_of_le hX k.size)]
    exact e
  · rw [World.putObj_heap_other ej] at e ⊢
    exact k.own j oj hj ((World.putObj_heap_other ej).trans (h.own j oj hj e))
/-- What lies at B or beyond, and all cells, stay as they are. -/
structure Holds (B : Nat) (X Y : World) : Prop extends Keeps B X Y where
  cells : M.CellsAs X Y
theorem Holds.keeps {B : Nat} {X Y : World} (h : Holds B X Y) : Keeps B X Y := h.toKeeps
theorem Holds.refl (B : Nat) (X : World) : Holds B X X := ⟨Keeps.refl B X, fun _ _ _ _ h => h⟩
theorem Holds.trans {B : Nat} {X Y Z : World} (h : Holds B X Y) (k : Holds B Y Z) : Holds B X Z := ⟨h.keeps.trans k.keeps, fun j cs t fr e => k.cells j cs t fr (h.cells j cs t fr e)⟩
theorem Holds.up {B C : Nat} {X Y : World} (h : Holds B X Y) (hB : B ≤ C) : Holds C X Y := ⟨h.keeps.up hB, h.cells⟩
theorem Holds.below {B : Nat} {W X Y : World} (h : Holds B W X) (hb : Below W.heap.size X Y) : Holds B W Y := ⟨h.keeps.below hb, fun k cs t fr e => (hb.block k (M.row_lt e)).trans (h.cells k cs t fr e)⟩
theorem Holds.of_below {B : Nat} {X Y : World} (h : Below X.heap.size X Y) : Holds B X Y := (Holds.refl B X).below h
theorem Holds.put {B l : Nat} {X : World} {o o' : Obj} (hl : X.heap[l]? = some o) (ho : o.isCells = false) (hB : l < B) : Holds B X (X.putObj l o') :=
  ⟨Keeps.put hB, fun k cs t fr e => (World.putObj_heap_other (fun e' => by subst e'; rw [hl] at e; cases e; cases ho)).trans e⟩
theorem Holds.box {B k : Nat} {X Y : World} {t : TypeId} {v : Value} (h : Holds B X Y) (hb : M.Box X k t v) : M.Box Y k t v := h.cells _ _ _ _ hb
theorem Holds.turn {B l : Nat} {W X Y : World} {o o1 o2 : Obj} (h : Holds B W X) (hl : W.heap[l]? = some o) (h2 : o2.isCells = false) (hB : B ≤ l) (k : Holds B (X.putObj l o1) Y) : Holds B (W.putObj l o2) (Y.putObj l o2) := by
  refine ⟨h.keeps.turn hl hB k.keeps, fun j cs t fr e => ?_⟩
  by_cases ej : j = l
  · subst ej
    rw [World.putObj_heap_same (M.row_lt hl)] at e
    cases e; cases h2
  · rw [World.putObj_heap_other ej] at e ⊢
    exact k.cells j cs t fr ((World.putObj_heap_other ej).trans (h.cells j cs t fr e))
theorem putObj_self {W : World} {l : Nat} {o : Obj} (h : W.heap[l]? = some o) : W.putObj l o = W := by
  have hh : (W.putObj l o).heap = W.heap := by
    refine Array.ext_getElem? fun i => ?_
    by_cases e : i = l
    · subst e
      rw [World.putObj_heap_same (M.row_lt h), h]
    · exact World.putObj_heap_other e
  unfold World.putObj at hh ⊢
  cases W
  simp at hh ⊢
  exact hh
theorem below_put {B l : Nat} {W : World} {o : Obj} (hl : B ≤ l) (hs : B ≤ W.heap.size) : Below B W (W.putObj l o) :=
  (Below.refl B W).grown (grownBy_putObj' W l o) hs (fun k e => by cases e; exact hl)
end RL
end Go.Proofs.YtoacmingocmaaaaDoor
/- A range over a function, outermost in its activation, by an invariant that speaks of cells alone: the loop's own block and its mark are carried along here, once and for all. -/
namespace Go.Proofs.YtoacmingocmaaaaDoor
open Go Go.RowKit
namespace M
theorem CellsAs.refl (X : World) : CellsAs X X := fun _ _ _ _ h => h
theorem CellsAs.trans' {X Y Z : World} (h : CellsAs X Y) (k : CellsAs Y Z) : CellsAs X Z := fun j cs t fr e => k j cs t fr (h j cs t fr e)
theorem CellsAs.of_below {X Y : World} (h : Below X.heap.size X Y) : CellsAs X Y := fun k _ _ _ e => (h.block k (row_lt e)).trans e
theorem CellsAs.put {X : World} {l : Nat} {o o' : Obj} (hl : X.heap[l]? = some o) (ho : o.isCells = false) : CellsAs X (X.putObj l o') := fun k _ _ _ e => (World.putObj_heap_other (fun e' => by subst e'; rw [hl] at e; cases e; cases ho)).trans e
theorem cell_block {X : World} {a : Addr} {v : Value} (h : X.cell? a = some v) : ∃ cs t fr, X.heap[a.block]? = some (.cells cs t fr) := by
  unfold World.cell? at h
  cases e : X.heap[a.block]? with
  | none => rw [e] at h; simp at h
  | some o =>
    rw [e] at h
    cases o with
    | cells cs t fr => exact ⟨cs, t, fr, rfl⟩
    | _ => simp at h
theorem CellsAs.cell {X Y : World} (h : CellsAs X Y) {a : Addr} {v : Value} (hc : X.cell? a = some v) : Y.cell? a = some v := by
  obtain ⟨cs, t, fr, hb⟩ := cell_block hc
  rw [← hc]
  exact World.cell?_of_block ((h _ _ _ _ hb).trans hb.symm)
end M
namespace RL
open M
/-- What is no cells stays as it is. -/
def Objs (X Y : World) : Prop := ∀ (k : Nat) (o : Obj), o.isCells = false → X.heap[k]? = some o → Y.heap[k]? = some o
theorem Objs.refl (X : World) : Objs X X := fun _ _ _ h => h
theorem Objs.trans {X Y Z : World} (h : Objs X Y) (k : Objs Y Z) : Objs X Z := fun j o ho e => k j o ho (h j o ho e)
theorem Objs.of_below {X Y : World} (h : Below X.heap.size X Y) : Objs X Y := fun k _ _ e => (h.block k (row_lt e)).trans e
theorem Objs.setCell {X : World} {a : Addr} {u : Value} (hc : X.cell? a = some u) (v : Value) : Objs X (X.setCell a v) := fun k o ho e => (Below.heap_setCell X a v k (fun e' => by
  obtain ⟨cs, t, fr, hb⟩ := cell_block hc
  rw [e', hb] at e
  cases e; cases ho)).trans e
theorem Objs.drewN (X : World) (n : Nat) : Objs X (X.drewN n) := fun _ _ _ e => e
theorem Objs.grown {X Y : World} {row : Option Nat} (h : X.grownBy Y row) (hr : ∀ k, row = some k → ∃ cs t fr, X.heap[k]? = some (.cells cs t fr)) : Objs X Y := fun k o ho e => (h.block k (row_lt e) (fun e' => by
  obtain ⟨cs, t, fr, hb⟩ := hr k e'.symm
  rw [hb] at e; cases e; cases ho)).trans e
/-- How a round's body is left, by an invariant on cells. -/
def Leaves (X1 : World) (J Jx : World → Prop) : Exit → Act → World → Prop
  | .normal, _, W => J W ∧ Objs X1 W
  | .ret, _, W => Jx W ∧ Objs X1 W
  | _, _, _ => False
section
variable {n : Nat} {P : Program}
/-- A round, where the assignment may lay something anew. -/
theorem roundA {l : Nat} {fn : FuncId} {tmps : Array Value} {ps : Array Tmp} {assign body : Code} {D : Nat} {args : Array Value} {R : Ending → World → Prop} {W W1 : World} {r : LoopState → Option Code → Loop} (hr : r = loopRec fn tmps ps assign body D) (a1 : Act)
    (hl : W.heap[l]? = some (.loop (r .ready none))) (hl1 : W1.heap[l]? = some (.loop (r .ready none))) (hs : args.size = ps.size)
    (hassign : ∀ K : Act → World → Prop, K a1 W1 → assign.wpIn (Fence.wide.inRound l) n P (Exit.then K (fun _ _ _ => False)) { tmps := (ps.zip args).foldl (fun t (p, v) => t.setIfInBounds p v) tmps, defers := [] } W)
    (hbody : body.wpIn (Fence.wide.inRound l) n P (Left l r R) a1 (W1.putObj l (.loop (r .busy none)))) :
    YieldAt Fence.wide n P l args W R := by
  subst hr
  refine ⟨fn, _, assign, body, run_yield hl hs, roundIn_of_wpIn trivial (hassign _ ⟨_, run_beginRound hl1 rfl, wpIn_mono hbody ?_⟩)⟩
  rintro e a3 W3 h
  cases e with
  | normal => exact ⟨_, _, run_endRound none h.1, h.2⟩
  | ret => exact ⟨_, _, run_endRound _ h.1, h.2⟩
  | exit id => exact ⟨_, _, run_endRound _ h.1, h.2⟩
  | goto t => exact ⟨_, _, run_endRound _ h.1, h.2⟩
  | panic _ => exact h
  | outgrown => exact h
/-- What a function that is ranged over does: it yields N times, as long as it is told to go on. -/
def Seq (n : Nat) (P : Program) (gf : FuncId) (lb : Array Value) (N : Nat) (I : Nat → World → Prop) (El : Nat → Array Value → World → Prop) : Prop :=
  ∀ (l : Nat) (W : World) (J : Nat → World → Prop) (Jx : World → Prop), (∀ j X, J j X → I j X) → (∀ j X Y, J j X → Below X.heap.size X Y → J j Y) → (∀ X Y, Jx X → Below X.heap.size X Y → Jx Y) → J 0 W →
    (∀ j args X, j < N → J j X → El j args X → YieldAt Fence.wide (n - 1) P l args X fun e Y => (e = .returned (.bool true) ∧ J (j + 1) Y) ∨ (e = .returned (.bool false) ∧ Jx Y)) →
    CallsIn Fence.wide n P gf (#[.func (.yield l) #[] #[]] ++ lb) W fun e Y => (∃ v, e = .returned v) ∧ (J N Y ∨ Jx Y)
theorem range {g : Operand} {ps : Array Tmp} {assign body : Code} {Q : Exit → Act → World → Prop} {a : Act} {w : World} {gf : Nat} {lb : Array Value} (B N : Nat) (I : Nat → World → Prop) (Ix : World → Prop) (El : Nat → Array Value → World → Prop)
    (hg : a.eval g = .func (.func gf) #[] lb) (eg : ∀ args w, (callFunc gf args).run P w = .ok (.enter gf args) w)
    (hB : B ≤ w.heap.size)
    (hS : ∀ j X Y, I j X → Below B X Y → CellsAs X Y → I j Y) (hSx : ∀ X Y, Ix X → Below B X Y → CellsAs X Y → Ix Y)
    (hE : ∀ j args X Y, El j args X → CellsAs X Y → El j args Y)
    (h0 : I 0 w) (hseq : Seq (n - 1) P gf lb N (fun j X => I j X ∧ B ≤ X.heap.size) El)
    (hround : ∀ (l j : Nat) (args : Array Value) (X : World), j < N → I j X → El j args X → B ≤ l → B ≤ X.heap.size →
      ∃ a1 W1, Below X.heap.size X W1 ∧ args.size = ps.size ∧
        (∀ K : Act → World → Prop, K a1 W1 → assign.wpIn (Fence.wide.inRound l) (n - 1 - 1) P (Exit.then K (fun _ _ _ => False)) { tmps := (ps.zip args).foldl (fun t (p, v) => t.setIfInBounds p v) a.tmps, defers := [] } X) ∧
        ∀ X1, CellsAs W1 X1 → I j X1 → El j args X1 → B ≤ X1.heap.size → body.wpIn (Fence.wide.inRound l) (n - 1 - 1) P (Leaves X1 (fun Y => I (j + 1) Y ∧ B ≤ Y.heap.size) (fun Y => Ix Y ∧ B ≤ Y.heap.size)) a1 X1)
    (hend : ∀ Y D, I N Y → Y.heap[D]? = some (.deferred (some [])) → B ≤ D → B ≤ Y.heap.size → Q .normal { a with defers := M.mark D :: a.defers } Y)
    (hstop : ∀ Y D, Ix Y → Y.heap[D]? = some (.deferred (some [])) → B ≤ D → B ≤ Y.heap.size → Code.ret.wpIn Fence.wide n P Q { a with defers := M.mark D :: a.defers } Y) :
    (Code.rangeFunc g ps assign body).wpIn Fence.wide n P Q a w := by
  refine enter' hg eg fun fn r hr => ?_
  obtain ⟨D, hD⟩ : ∃ D, w.heap.size = D := ⟨_, rfl⟩
  obtain ⟨W, hW⟩ : ∃ W, (w.alloc (.deferred (some []))).alloc (.loop (r .ready none)) = W := ⟨_, rfl⟩
  have b4 : Below w.heap.size w W := by rw [← hW]; exact (below_box _ _).trans ((below_box _ _).mono (by simp))
  have hl4 : W.heap[D + 1]? = some (.loop (r .ready none)) := by
    have := World.alloc_heap_new (w.alloc (.deferred (some []))) (.loop (r .ready none))
    rwa [World.size_alloc, hD, hW] at this
  have hD4 : W.heap[D]? = some (.deferred (some [])) := by
    have h1 := World.alloc_heap_new w (.deferred (some []))
    rw [hD] at h1
    have h2 := (below_box (w.alloc (.deferred (some []))) (.loop (r .ready none))).block D (row_lt h1)
    rw [hW] at h2
    exact h2.trans h1
  rw [hW]
  rw [hD] at hr hB ⊢
  have hturn : ∀ (X : World) (st st' : LoopState) (pe pe' : Option Code), X.heap[D + 1]? = some (.loop (r st pe)) → B ≤ X.heap.size → Below B X (X.putObj (D + 1) (.loop (r st' pe'))) ∧ CellsAs X (X.putObj (D + 1) (.loop (r st' pe'))) :=
    fun X st st' pe pe' h hs => ⟨below_put (by omega) hs, CellsAs.put h rfl⟩
  have hother : ∀ (X : World) (o : Obj), X.heap[D]? = some (.deferred (some [])) → (X.putObj (D + 1) o).heap[D]? = some (.deferred (some [])) := fun X o h => (World.putObj_heap_other (by omega)).trans h
  obtain ⟨J, hJ⟩ : ∃ J : Nat → World → Prop, J = fun j X => (I j X ∧ B ≤ X.heap.size) ∧ X.heap[D + 1]? = some (.loop (r .ready none)) ∧ X.heap[D]? = some (.deferred (some [])) := ⟨_, rfl⟩
  obtain ⟨Jx, hJx⟩ : ∃ Jx : World → Prop, Jx = fun X => (Ix X ∧ B ≤ X.heap.size) ∧ X.heap[D + 1]? = some (.loop (r .done (some .ret))) ∧ X.heap[D]? = some (.deferred (some [])) := ⟨_, rfl⟩
  refine (hseq (D + 1) W J Jx (fun j X h => by rw [hJ] at h; exact h.1) (fun j X Y h hb => ?_) (fun X Y h hb => ?_) ?_ ?_).mono ?_
  · rw [hJ] at h ⊢
    exact ⟨⟨hS _ _ _ h.1.1 (hb.mono h.1.2) (.of_below hb), Nat.le_trans h.1.2 hb.size⟩, (hb.block _ (row_lt h.2.1)).trans h.2.1, (hb.block _ (row_lt h.2.2)).trans h.2.2⟩
  · rw [hJx] at h ⊢
    exact ⟨⟨hSx _ _ h.1.1 (hb.mono h.1.2) (.of_below hb), Nat.le_trans h.1.2 hb.size⟩, (hb.block _ (row_lt h.2.1)).trans h.2.1, (hb.block _ (row_lt h.2.2)).trans h.2.2⟩
  · rw [hJ]
    exact ⟨⟨hS _ _ _ h0 (b4.mono (by omega)) (.of_below b4), by have := b4.size; omega⟩, hl4, hD4⟩
  · intro j args X hj hJX hEl
    rw [hJ] at hJX
    obtain ⟨⟨hI, hsX⟩, hlX, hDX⟩ := hJX
    obtain ⟨a1, W1, hb1, hsz, hassign, hbody⟩ := hround (D + 1) j args X hj hI hEl (by omega) hsX
    have hlW : W1.heap[D + 1]? = some (.loop (r .ready none)) := (hb1.block _ (row_lt hlX)).trans hlX
    have hDW : W1.heap[D]? = some (.deferred (some [])) := (hb1.block _ (row_lt hDX)).trans hDX
    have hsW : B ≤ W1.heap.size := Nat.le_trans hsX hb1.size
    obtain ⟨t1, t2⟩ := hturn W1 .ready .busy none none hlW hsW
    refine roundA hr a1 hlX hlW hsz hassign (wpIn_mono (hbody _ t2 (hS _ _ _ hI ((hb1.mono hsX).trans t1) ((CellsAs.of_below hb1).trans' t2)) (hE _ _ _ _ hEl ((CellsAs.of_below hb1).trans' t2)) (by rw [World.putObj_size]; exact hsW)) ?_)
    have hbusy : (W1.putObj (D + 1) (.loop (r .busy none))).heap[D + 1]? = some (.loop (r .busy none)) := World.putObj_heap_same (row_lt hlW)
    have hDb := hother W1 (.loop (r .busy none)) hDW
    rintro e a3 W3 h
    cases e with
    | normal =>
      obtain ⟨⟨h1, h2⟩, h3⟩ := h
      have k1 := h3 _ _ rfl hbusy
      have k2 := h3 _ _ rfl hDb
      obtain ⟨t3, t4⟩ := hturn W3 .busy .ready none none k1 h2
      refine ⟨k1, .inl ⟨rfl, ?_⟩⟩
      rw [hJ]
      exact ⟨⟨hS _ _ _ h1 t3 t4, by rw [World.putObj_size]; exact h2⟩, World.putObj_heap_same (row_lt k1), hother _ _ k2⟩
    | ret =>
      obtain ⟨⟨h1, h2⟩, h3⟩ := h
      have k1 := h3 _ _ rfl hbusy
      have k2 := h3 _ _ rfl hDb
      obtain ⟨t3, t4⟩ := hturn W3 .busy .done none (some .ret) k1 h2
      refine ⟨k1, .inr ⟨rfl, ?_⟩⟩
      rw [hJx]
      exact ⟨⟨hSx _ _ h1 t3 t4, by rw [World.putObj_size]; exact h2⟩, World.putObj_heap_same (row_lt k1), hother _ _ k2⟩
    | exit id => exact h.elim
    | goto t => exact h.elim
    | panic _ => exact h.elim
    | outgrown => exact h.elim
  · rintro E Y ⟨hret, hj | hj⟩
    · rw [hJ] at hj
      obtain ⟨⟨h1, h2⟩, k1, k2⟩ := hj
      obtain ⟨t3, t4⟩ := hturn Y .ready .exhausted none none k1 h2
      exact ⟨hret, .inl ⟨k1, hend _ D (hS _ _ _ h1 t3 t4) (hother _ _ k2) hB (by rw [World.putObj_size]; exact h2)⟩⟩
    · rw [hJx] at hj
      obtain ⟨⟨h1, h2⟩, k1, k2⟩ := hj
      obtain ⟨t3, t4⟩ := hturn Y .done .exhausted (some .ret) (some .ret) k1 h2
      exact ⟨hret, .inr ⟨.ret, k1, hstop _ D (hSx _ _ h1 t3 t4) (hother _ _ k2) hB (by rw [World.putObj_size]; exact h2)⟩⟩
end
end RL
end Go.Proofs.YtoacmingocmaaaaDoor
/- The library's Backward over a row of writes. -/
namespace Go.Proofs.YtoacmingocmaaaaDoor
open Go Go.RowKit Go.Lib Go.Shelf
namespace M
open MM
attribute [local go_sem] Oper.semAt_some
theorem backward_any (v : Value) (w : World) (hv : ∃ ao n c, v = .slice ao n c) :
    Calls Tryd.prog 54 #[v] w fun e w' => e = .returned (.func (.func 76) #[] #[.pointer (some ⟨w.heap.size, 0, none⟩)]) ∧ w.alloc (.cells #[v] 80) = w' := by
  obtain ⟨ao, n, c, rfl⟩ := hv
  go_enter Tryd.func54, Tryd.ntmps54
  go_wp2_with fail
  go_ret
  exact ⟨rfl, rfl⟩
set_option maxRecDepth 100000 in
set_option maxHeartbeats 4000000 in
theorem back_seq (n : Nat) (Bs : Nat) (ao : Option Addr) (L cap : Nat) (c : List (Int × By)) (hL : c.length = L) (hL9 : L ≤ 1000000) (hcap : L ≤ cap) (I : Nat → World → Prop)
    (hI : ∀ j X, I j X → Box X Bs 80 (.slice ao L cap) ∧ CacheAt X (.slice ao L cap) c) :
    RL.Seq n Tryd.prog 76 #[.pointer (some ⟨Bs, 0, none⟩)] L I (fun j args _ => ∃ x, c[L - 1 - j]? = some x ∧ args = #[.int .i64 ((L - 1 - j : Nat) : Int), wv x.1 x.2]) := by
  intro l W J Jx hJI hJS _ h0 hY
  have HI := Lib.hid (fun j X (h : J j X) => hI j X (hJI j X h))
  have HY := Lib.hid hY
  have HL := Lib.hid hL
  have cB := (HI.out 0 W h0).1.cell
  have H0 := Lib.hid h0
  have hL1 : (L : Int) ≤ 1000000 := by omega
  clear hI hJI hJS hY h0 hL
  refine callsIn_of_wp Tryd.func76 rfl trivial ?_ rfl
  simp only [Tryd.ntmps76, List.size_toArray, List.length_cons, List.length_nil, Nat.reduceAdd, Nat.reduceSub, Array.replicate_succ, Array.replicate_zero, List.push_toArray, List.append_toArray, List.nil_append, List.cons_append]
  gi_wp2
  clear cB
  gi_loopw [3] (fun i wr => ∃ (j : Nat) (d : Int), j ≤ L ∧ i = .int .i64 d ∧ d = (L : Int) - 1 - j ∧ Hid (J j wr)) (fun i _ => (RowKit.intOf i + 1).toNat)
  case atStart => exact ⟨0, _, Nat.zero_le _, rfl, by omega, H0⟩
  case round =>
    clear H0
    obtain ⟨j, d, hj, rfl, hd, HJ⟩ := hrel
    by_cases hlt : j < L
    · obtain ⟨k, hk⟩ : ∃ k : Nat, L - 1 - j = k := ⟨_, rfl⟩
      obtain rfl : d = (k : Int) := by omega
      have hdk : Hid ((k : Int) = (L : Int) - 1 - j) := Lib.hid hd
      clear hd
      have cB := (HI.out j wr HJ.out).1.cell
      have hC := (HI.out j wr HJ.out).2
      obtain ⟨x, hx⟩ : ∃ x, c[k]? = some x := ⟨_, List.getElem?_eq_getElem (by rw [HL.out]; omega)⟩
      obtain ⟨g, cap2, hv, hrg⟩ := write_range hC hx
      obtain rfl : ao = some ⟨g, 0, none⟩ := by injection hv
      have hc0 := hrg 0 _ rfl
      have hc1 := hrg 1 _ rfl
      rw [Nat.add_zero] at hc0
      obtain ⟨fn, tmps, assign, body, hy, hR⟩ := HY.out j #[.int .i64 (k : Int), wv x.1 x.2] wr hlt HJ.out ⟨x, by rw [hk]; exact hx, by rw [hk]⟩
      have HRD := Lib.hid hR
      have hj0 : (0 : Int) ≤ (k : Int) := Int.natCast_nonneg _
      have hj1 : (k : Int) < (L : Int) := by omega
      obtain ⟨xk, xt⟩ := x
      simp only at hc0 hc1 hy
      clear hR hC hrg hv hx
      gi_wp2
      refine ⟨fun h => (by cases h), HRD.out.mono ?_⟩
      rintro e W3 (⟨rfl, hJ3⟩ | ⟨rfl, hJx3⟩)
      · have HJ3 := Lib.hid hJ3
        clear hJ3
        gi_wp2
        go_roundw
        case rel => exact ⟨j + 1, _, by omega, rfl, by have := hdk.out; omega, HJ3⟩
        case measure => simp [RowKit.intOf]
      · have HJ3 := Lib.hid hJx3
        clear hJx3
        gi_wp2
        refine bodyPost_ret (results_none rfl _ _ _) rfl ?_
        exact ⟨⟨_, rfl⟩, .inr HJ3.out⟩
    · obtain rfl : j = L := by omega
      obtain rfl : d = -1 := by omega
      clear hd
      gi_wp2
      go_end0
      exact ⟨⟨_, rfl⟩, .inl HJ.out⟩
end M
end Go.Proofs.YtoacmingocmaaaaDoor
