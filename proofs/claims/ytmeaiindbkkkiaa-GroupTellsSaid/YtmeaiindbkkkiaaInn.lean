/- What a walk carries along over calls that make memory: rows that lie as they were laid, the laid tables, that nothing old has changed. -/
import Derived.Test.YtmeaiindbkkkiaaPm
import Derived.ProofKit
namespace Go.Proofs.Ytmeaiindbkkkiaa
open Go Go.RowKit Go.Lib
namespace M
theorem setCell_drewN (w : World) (n : Nat) (a : Addr) (v : Value) : (w.drewN n).setCell a v = (w.setCell a v).drewN n := rfl
theorem alloc_drewN (w : World) (n : Nat) (o : Obj) : (w.drewN n).alloc o = (w.alloc o).drewN n := rfl
theorem below_drewN' (w : World) (n B : Nat) : Below B w (w.drewN n) := ⟨rfl, rfl, rfl, Nat.le_refl _, fun _ _ => rfl⟩
theorem row_lt {w : World} {b : Nat} {o : Obj} (h : w.heap[b]? = some o) : b < w.heap.size := by
  rcases Nat.lt_or_ge b w.heap.size with h' | h'
  · exact h'
  · rw [Array.getElem?_eq_none h'] at h; cases h
/-- A pair as it lies. -/
abbrev pair (s b : Nat) : Array Value := #[.int .u64 (s : Int), .int .u64 (b : Int)]
end M
end Go.Proofs.Ytmeaiindbkkkiaa
