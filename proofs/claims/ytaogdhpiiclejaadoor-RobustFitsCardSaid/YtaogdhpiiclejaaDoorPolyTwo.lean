/- A row of two numbers. -/
import Derived.Test.YtaogdhpiiclejaaDoorOwn
import Derived.Test.YtaogdhpiiclejaaDoorPolyMath
namespace Go.Proofs.YtaogdhpiiclejaaDoor
open Go Go.RowKit Go.Lib
namespace M
theorem two_rd (W : World) (x : Nat) : Rd (W.alloc (.cells #[.int .u64 (x : Int), .int .u64 1] 23)) (some ⟨W.heap.size, 0, none⟩) 2 (MM.two x 1) := fun _ => ⟨_, rfl, Row.of_block (heap_alloc_new _ _) fun k hk => by
  match k, hk with
  | 0, _ => rfl
  | 1, _ => rfl
  | k + 2, h => exact absurd h (by omega)⟩
theorem two_lt2 {x k : Nat} (hx : x < 18446744073709551616) : MM.two x 1 k < 18446744073709551616 := by
  match k with
  | 0 => exact hx
  | _ + 1 => show (1 : Nat) < _; omega
end M
end Go.Proofs.YtaogdhpiiclejaaDoor
