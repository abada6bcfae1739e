/- Parameters as a value: thirteen numbers, each one cell. -/
import Derived.Test.YtmeaiindbkkkiaaDoorModRet
import Derived.Below
import Derived.Laws.Rows
import Derived.Deep.RegionHeld
namespace Go.Proofs.YtmeaiindbkkkiaaDoor
open Go Go.RowKit Go.Lib

/-- The parameters. -/
structure Pm where
  P : Nat
  Q : Nat
  G : Nat
  H : Nat
  Nodes : Int
  N : Int
  T : Int
  K : Int
  D : Int
  R : Int
  M : Int
  X : Int
/-- Their cells. -/
abbrev Pm.cells (p : Pm) : Array Value := #[.int .u64 (p.P : Int), .int .u64 (p.Q : Int), .int .u64 (p.G : Int), .int .u64 (p.H : Int), .int .i64 p.Nodes, .int .i64 p.N, .int .i64 p.T, .int .i64 p.K, .int .i64 p.D, .int .i64 p.R, .int .i64 p.M, .int .i64 p.X]
theorem Pm.c0 (p : Pm) : p.cells[0]? = some (.int .u64 (p.P : Int)) := rfl
theorem Pm.c1 (p : Pm) : p.cells[1]? = some (.int .u64 (p.Q : Int)) := rfl
theorem Pm.c2 (p : Pm) : p.cells[2]? = some (.int .u64 (p.G : Int)) := rfl
theorem Pm.c3 (p : Pm) : p.cells[3]? = some (.int .u64 (p.H : Int)) := rfl

namespace M
/-- A call that answers v in every world and makes new memory at most: what was there stays. A plain definition: the walk does not look into it. -/
def RetB (f : FuncId) (args : Array Value) (v : Value) : Prop := ∀ W : World, Calls Tryd.prog f args W fun e w' => e = .returned v ∧ Below W.heap.size W w'
theorem RetB.at {f : FuncId} {args : Array Value} {v : Value} (h : RetB f args v) (W : World) : Calls Tryd.prog f args W fun e w' => e = .returned v ∧ Below W.heap.size W w' := h W
theorem below_drewN (w : World) (n : Nat) : Below w.heap.size w (w.drewN n) := ⟨rfl, rfl, rfl, Nat.le_refl _, fun _ _ => rfl⟩
theorem Ret.toB {f : FuncId} {args : Array Value} {v : Value} (h : Ret f args v) : RetB f args v := fun W => (h W).mono fun _ _ ⟨he, n, hn⟩ => ⟨he, by rw [hn]; exact below_drewN _ _⟩
theorem bcell {W w1 : World} (hb : Below W.heap.size W w1) : (∀ b o, b < W.heap.size → w1.cell? ⟨b, o, none⟩ = W.cell? ⟨b, o, none⟩) ∧ (∀ b o, b < W.heap.size → w1.frozen? ⟨b, o, none⟩ = W.frozen? ⟨b, o, none⟩) :=
  ⟨fun b o h => hb.cell (p := ⟨b, o, none⟩) h, fun b o h => hb.frozen (p := ⟨b, o, none⟩) h⟩
theorem Laid.below {w w' : World} (h : Laid w) (hb : Below w.heap.size w w') : Laid w' := by
  obtain ⟨⟨t, fr, h1⟩, h2⟩ := h
  refine ⟨⟨t, fr, ?_⟩, fun j hj => ?_⟩
  · have hs : (0 : Nat) < w.heap.size := by
      rcases Nat.lt_or_ge (0 : Nat) w.heap.size with h | h
      · exact h
      · rw [Array.getElem?_eq_none h] at h1; cases h1
    rw [hb.block _ hs]; exact h1
  · have hc := h2 j hj
    have hs := World.block_lt_of_cell? w _ hc
    rw [hb.cell hs]; exact hc
theorem Laid.alloc {w : World} (h : Laid w) (o : Obj) : Laid (w.alloc o) := h.below ((Below.refl _ _).alloc (Nat.le_refl _) _)
/-- .. in worlds whose two tables are laid. -/
def RetBL (f : FuncId) (args : Array Value) (v : Value) : Prop := ∀ W : World, Laid W → Calls Tryd.prog f args W fun e w' => e = .returned v ∧ Below W.heap.size W w'
theorem RetBL.at {f : FuncId} {args : Array Value} {v : Value} (h : RetBL f args v) (W : World) (hl : Laid W) : Calls Tryd.prog f args W fun e w' => e = .returned v ∧ Below W.heap.size W w' := h W hl
/-- A whole row read out of its block, also where the operation stands under a guard that lets it run. -/
theorem wpList_row_if {P : Program} {ops : Array Oper} {rest : List Oper} {o : Oper} {a : Act} {w : World} {Q : Exit → Act → World → Prop} (hgd : Region.wanted o (yielded ops a.tmps) = true) (ty : TypeId) (x : Operand) (ho : o.op = .load ty x)
    (g : Nat) (hx : a.eval x = .pointer (some ⟨g, 0, none⟩)) (t : TypeId) (cs : Array Value) (fr : Nat × Nat) (d : TypeDesc) (hg : w.heap[g]? = some (.cells cs t fr))
    (hu : P.underlying ty = some d) (hd : (match d with | .struct _ | .array _ _ => true | _ => false) = true) (hi : (P.info? ty).map (·.size) = some cs.size)
    (h : wpList P ops Q rest (a.put o.dst (.agg cs)) w) : wpList P ops Q (o :: rest) a w :=
  wpList_step fun _ hK => by rw [if_pos hgd]; exact wp_load_row ty x ho g hx t cs fr d hg hu hd hi (hK _ _ h)
/-- The parameters lie in the block g. -/
def Box (w : World) (g : Nat) (p : Pm) : Prop := w.heap[g]? = some (.cells p.cells 25 (0, 0))
theorem Box.lt {w : World} {g : Nat} {p : Pm} (h : Box w g p) : g < w.heap.size := by
  rcases Nat.lt_or_ge g w.heap.size with h' | h'
  · exact h'
  · unfold Box at h; rw [Array.getElem?_eq_none h'] at h; cases h
theorem Box.below {w w' : World} {g : Nat} {p : Pm} (h : Box w g p) (hb : Below w.heap.size w w') : Box w' g p := by
  unfold Box
  rw [hb.block _ h.lt]; exact h
theorem Box.new (w : World) (p : Pm) : Box (w.alloc (.cells p.cells 25)) w.heap.size p := heap_alloc_new w _
theorem Box.cell {w : World} {g : Nat} {p : Pm} (h : Box w g p) (j : Nat) : w.cell? ⟨g, j, none⟩ = p.cells[j]? := cell_of_row w g j _ _ _ h
/-- What a law's walk carries along: its parameters' block, the laid tables, that nothing old has changed. -/
structure In (w0 : World) (g : Nat) (p : Pm) (w : World) : Prop where
  box : Box w g p
  laid : Laid w
  below : Below w0.heap.size w0 w
theorem In.step {w0 w w' : World} {g : Nat} {p : Pm} (h : In w0 g p w) (hb : Below w.heap.size w w') : In w0 g p w' :=
  ⟨h.box.below hb, h.laid.below hb, h.below.trans (hb.mono h.below.size)⟩
theorem In.kept {w0 w : World} {g : Nat} {p : Pm} (h : In w0 g p w) : w.cell? ⟨g, 0, none⟩ = some (.int .u64 (p.P : Int)) ∧ w.cell? ⟨g, 1, none⟩ = some (.int .u64 (p.Q : Int)) ∧ w.cell? ⟨g, 2, none⟩ = some (.int .u64 (p.G : Int)) ∧ w.cell? ⟨g, 3, none⟩ = some (.int .u64 (p.H : Int)) ∧ w.cell? ⟨g, 4, none⟩ = some (.int .i64 p.Nodes) ∧ w.cell? ⟨g, 5, none⟩ = some (.int .i64 p.N) ∧ w.cell? ⟨g, 6, none⟩ = some (.int .i64 p.T) ∧ w.cell? ⟨g, 7, none⟩ = some (.int .i64 p.K) ∧ w.cell? ⟨g, 8, none⟩ = some (.int .i64 p.D) ∧ w.cell? ⟨g, 9, none⟩ = some (.int .i64 p.R) ∧ w.cell? ⟨g, 10, none⟩ = some (.int .i64 p.M) ∧ w.cell? ⟨g, 11, none⟩ = some (.int .i64 p.X) :=
  ⟨h.box.cell 0, h.box.cell 1, h.box.cell 2, h.box.cell 3, h.box.cell 4, h.box.cell 5, h.box.cell 6, h.box.cell 7, h.box.cell 8, h.box.cell 9, h.box.cell 10, h.box.cell 11⟩
theorem In.kS {w0 w : World} {g : Nat} {p : Pm} (h : In w0 g p w) : In w0 g p w ∧ w.cell? ⟨g, 0, none⟩ = some (.int .u64 (p.P : Int)) ∧ w.cell? ⟨g, 1, none⟩ = some (.int .u64 (p.Q : Int)) ∧ w.cell? ⟨g, 2, none⟩ = some (.int .u64 (p.G : Int)) ∧ w.cell? ⟨g, 3, none⟩ = some (.int .u64 (p.H : Int)) ∧ w.cell? ⟨g, 4, none⟩ = some (.int .i64 p.Nodes) ∧ w.cell? ⟨g, 5, none⟩ = some (.int .i64 p.N) ∧ w.cell? ⟨g, 6, none⟩ = some (.int .i64 p.T) ∧ w.cell? ⟨g, 7, none⟩ = some (.int .i64 p.K) ∧ w.cell? ⟨g, 8, none⟩ = some (.int .i64 p.D) ∧ w.cell? ⟨g, 9, none⟩ = some (.int .i64 p.R) ∧ w.cell? ⟨g, 10, none⟩ = some (.int .i64 p.M) ∧ w.cell? ⟨g, 11, none⟩ = some (.int .i64 p.X) := ⟨h, h.kept⟩
theorem In.drew {w0 w : World} {g : Nat} {p : Pm} (h : In w0 g p w) : In w0 g p w.drew := ⟨h.box, h.laid.drewN 1, h.below.drew⟩
theorem In.alloc {w0 w : World} {g : Nat} {p : Pm} (h : In w0 g p w) (o : Obj) : In w0 g p (w.alloc o) := h.step ((Below.refl _ _).alloc (Nat.le_refl _) _)
theorem In.new (w : World) (p : Pm) (hl : Laid w) : In w w.heap.size p (w.alloc (.cells p.cells 25)) := ⟨Box.new w p, hl.alloc _, (Below.refl _ _).alloc (Nat.le_refl _) _⟩
end M
end Go.Proofs.YtmeaiindbkkkiaaDoor
