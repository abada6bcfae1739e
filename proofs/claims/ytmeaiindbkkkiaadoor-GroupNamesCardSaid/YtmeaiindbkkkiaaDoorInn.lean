/- What a walk carries along over calls that make memory: rows that lie as they were laid, the laid tables, that nothing old has changed. -/
import Derived.Test.YtmeaiindbkkkiaaDoorPm
import Derived.ProofKit
namespace Go.Proofs.YtmeaiindbkkkiaaDoor
open Go Go.RowKit Go.Lib
namespace M
theorem setCell_drewN (w : World) (n : Nat) (a : Addr) (v : Value) : (w.drewN n).setCell a v = (w.setCell a v).drewN n := rfl
theorem alloc_drewN (w : World) (n : Nat) (o : Obj) : (w.drewN n).alloc o = (w.alloc o).drewN n := rfl
theorem below_drewN' (w : World) (n B : Nat) : Below B w (w.drewN n) := ⟨rfl, rfl, rfl, Nat.le_refl _, fun _ _ => rfl⟩
theorem row_lt {w : World} {b : Nat} {o : Obj} (h : w.heap[b]? = some o) : b < w.heap.size := by
  rcases Nat.lt_or_ge b w.heap.size with h' | h'
  · exact h'
  · rw [Array.getElem?_eq_none h'] at h; cases h
/-- What a walk carries along: rows that lie as they were laid, the laid tables, that nothing old has changed. -/
structure Inn (w0 : World) (rows : List (Nat × Array Value × TypeId)) (w : World) : Prop where
  rows : ∀ r ∈ rows, w.heap[r.1]? = some (.cells r.2.1 r.2.2 (0, 0))
  laid : Laid w
  below : Below w0.heap.size w0 w
theorem Inn.step {w0 w w' : World} {rows : List (Nat × Array Value × TypeId)} (h : Inn w0 rows w) (hb : Below w.heap.size w w') : Inn w0 rows w' :=
  ⟨fun r hr => (hb.block _ (row_lt (h.rows r hr))).trans (h.rows r hr), h.laid.below hb, h.below.trans (hb.mono h.below.size)⟩
theorem Inn.drew {w0 w : World} {rows : List (Nat × Array Value × TypeId)} (h : Inn w0 rows w) : Inn w0 rows w.drew := ⟨h.rows, h.laid.drewN 1, h.below.drew⟩
theorem Inn.alloc {w0 w : World} {rows : List (Nat × Array Value × TypeId)} (h : Inn w0 rows w) (o : Obj) : Inn w0 rows (w.alloc o) := h.step ((Below.refl _ _).alloc (Nat.le_refl _) _)
theorem Inn.drewN {w0 w : World} {rows : List (Nat × Array Value × TypeId)} (h : Inn w0 rows w) (n : Nat) : Inn w0 rows (w.drewN n) := ⟨h.rows, h.laid.drewN n, h.below.trans (below_drewN' w n _)⟩
theorem Inn.add {w0 w : World} {rows : List (Nat × Array Value × TypeId)} (h : Inn w0 rows w) (b : Nat) (cs : Array Value) (t : TypeId) (hb : w.heap[b]? = some (.cells cs t (0, 0))) : Inn w0 ((b, cs, t) :: rows) w :=
  ⟨fun r hr => by rcases List.mem_cons.1 hr with e | hr; · subst e; exact hb
                  · exact h.rows r hr, h.laid, h.below⟩
theorem Inn.cell {w0 w : World} {rows : List (Nat × Array Value × TypeId)} (h : Inn w0 rows w) {b : Nat} {cs : Array Value} {t : TypeId} (hm : (b, cs, t) ∈ rows) (j : Nat) : w.cell? ⟨b, j, none⟩ = cs[j]? := cell_of_row w b j _ _ _ (h.rows _ hm)
/-- A pair as it lies. -/
abbrev pair (s b : Nat) : Array Value := #[.int .u64 (s : Int), .int .u64 (b : Int)]
end M
end Go.Proofs.YtmeaiindbkkkiaaDoor
