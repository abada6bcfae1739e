/- Parameters as a value: thirteen numbers, each one cell. -/
import Derived.Test.YtdblijpoelcghaaNum
import Derived.Below
import Derived.Laws.Rows
import Derived.Deep.RegionHeld
namespace Go.Proofs.Ytdblijpoelcghaa
open Go Go.RowKit Go.Lib

/-- The parameters. -/
structure Pm where
  P : Nat
  Q : Nat
  G : Nat
  H : Nat
  Nodes : Int
  N : Int
  T : Int
  K : Int
  D : Int
  R : Int
  M : Int
  X : Int
/-- Their cells. -/
abbrev Pm.cells (p : Pm) : Array Value := #[.int .u64 (p.P : Int), .int .u64 (p.Q : Int), .int .u64 (p.G : Int), .int .u64 (p.H : Int), .int .i64 p.Nodes, .int .i64 p.N, .int .i64 p.T, .int .i64 p.K, .int .i64 p.D, .int .i64 p.R, .int .i64 p.M, .int .i64 p.X]
theorem Pm.c0 (p : Pm) : p.cells[0]? = some (.int .u64 (p.P : Int)) := rfl
theorem Pm.c1 (p : Pm) : p.cells[1]? = some (.int .u64 (p.Q : Int)) := rfl
theorem Pm.c2 (p : Pm) : p.cells[2]? = some (.int .u64 (p.G : Int)) := rfl
theorem Pm.c3 (p : Pm) : p.cells[3]? = some (.int .u64 (p.H : Int)) := rfl

namespace M
/-- A whole row read out of its block, also where the operation stands under a guard that lets it run. -/
theorem wpList_row_if {P : Program} {ops : Array Oper} {rest : List Oper} {o : Oper} {a : Act} {w : World} {Q : Exit → Act → World → Prop} (hgd : Region.wanted o (yielded ops a.tmps) = true) (ty : TypeId) (x : Operand) (ho : o.op = .load ty x)
    (g : Nat) (hx : a.eval x = .pointer (some ⟨g, 0, none⟩)) (t : TypeId) (cs : Array Value) (fr : Nat × Nat) (d : TypeDesc) (hg : w.heap[g]? = some (.cells cs t fr))
    (hu : P.underlying ty = some d) (hd : (match d with | .struct _ | .array _ _ => true | _ => false) = true) (hi : (P.info? ty).map (·.size) = some cs.size)
    (h : wpList P ops Q rest (a.put o.dst (.agg cs)) w) : wpList P ops Q (o :: rest) a w :=
  wpList_step fun _ hK => by rw [if_pos hgd]; exact wp_load_row ty x ho g hx t cs fr d hg hu hd hi (hK _ _ h)
/-- The parameters lie in the block g. -/
def Box (w : World) (g : Nat) (p : Pm) : Prop := w.heap[g]? = some (.cells p.cells 31 (0, 0))
theorem Box.lt {w : World} {g : Nat} {p : Pm} (h : Box w g p) : g < w.heap.size := by
  rcases Nat.lt_or_ge g w.heap.size with h' | h'
  · exact h'
  · unfold Box at h; rw [Array.getElem?_eq_none h'] at h; cases h
theorem Box.below {w w' : World} {g : Nat} {p : Pm} (h : Box w g p) (hb : Below w.heap.size w w') : Box w' g p := by
  unfold Box
  rw [hb.block _ h.lt]; exact h
theorem Box.new (w : World) (p : Pm) : Box (w.alloc (.cells p.cells 31)) w.heap.size p := heap_alloc_new w _
theorem Box.cell {w : World} {g : Nat} {p : Pm} (h : Box w g p) (j : Nat) : w.cell? ⟨g, j, none⟩ = p.cells[j]? := cell_of_row w g j _ _ _ h
end M
end Go.Proofs.Ytdblijpoelcghaa
