/- What the tie of the program's two tables gives a walk: each cell of the witnesses, each cell of the table of bits.TrailingZeros64. -/
import Derived.Test.YtdblijpoelcghaaRows
import Derived.Test.YtdblijpoelcghaaModW2
import Derived.ProofKit
import Derived.OpenShut
import Derived.LaidMore
import Derived.SevenTiedAt
import Derived.Stop.Joined
namespace Go.Proofs.Ytdblijpoelcghaa
open Go.ChangeShapes Go.WideShapes Go.ChangeAt Go.RowKit
namespace M


theorem own : ownKnob Try.prog.godebug = none := by kernel_rfl

/-- An array of integers that reads as a known row: its cells. -/
theorem int_cells {P : Program} {W : World} {n : Nat} {e t : TypeId} {k : IntKind} {cs : Array Value} {zs : List Int} {base fuel : Nat} {spare : Nat → Bool} {held : Bool} {enc : TypeId × Value → Unit} {q : List MemPlace}
    (ht : P.underlying t = some (.array n e)) (he : P.underlying e = some (.int k)) (c1 : P.cellsOf e = 1) (c2 : P.cellsOf t = n) (hz : zs.length = n)
    (h : DataW.trod enc P W base spare held fuel t cs.toList = some (.agg (zs.map fun z => .lit (.int k z)), q)) :
    cs.size = n ∧ ∀ r, r < n → cs[r]? = some (.int k (zs.getD r 0)) := by
  obtain ⟨xs, m, _, ex, hcl, hl, hel⟩ := DataW.trod_array ht h
  refine ⟨by rw [c2] at hcl; simpa using hcl, fun r hr => ?_⟩
  have hE := hel r hr
  rw [c1, Nat.mul_one, List.getElem?_eq_getElem (by omega)] at hE
  obtain ⟨z, e1, e2, _⟩ := DataW.trod_int he hE
  have e3 : (xs.map (·.1)) = zs.map fun z => .lit (.int k z) := (DataW.agg.inj (Prod.mk.inj ex).1).symm
  have e4 : (xs.map (·.1))[r]? = (zs.map fun z => (DataW.lit (.int k z) : DataW Unit))[r]? := by rw [e3]
  rw [List.getElem?_map, List.getElem?_map, List.getElem?_eq_getElem (by omega : r < xs.length), List.getElem?_eq_getElem (by omega : r < zs.length), e2] at e4
  have hz' : z = zs.getD r 0 := by
    simp only [Option.map_some, Option.some.injEq, DataW.lit.injEq, Lit.int.injEq, true_and] at e4
    rw [e4, List.getD, List.getElem?_eq_getElem (by omega : r < zs.length)]; rfl
  rw [← hz']
  have : cs.toList[r]? = some (.int k z) := by
    have h0 : ((cs.toList.drop r).take 1)[0]? = some (.int k z) := by rw [e1]; rfl
    simpa using h0
  simpa using this

theorem u64_bounds {n : Int} (h : (Lit.int .u64 n).wf = true) : 0 ≤ n ∧ n ≤ 18446744073709551615 := by
  simp [Lit.wf, IntKind.min, IntKind.max, IntKind.signed, IntKind.bits] at h
  omega

theorem grown_drewN {W w' : World} (h : Grown W w') (n : Nat) : Grown W (w'.drewN n) := h

/-- A call that answers v in every world, and leaves the world as it was but for draws. A plain definition: the walk does not look into it. -/
def Ret (f : FuncId) (args : Array Value) (v : Value) : Prop := ∀ W : World, Calls Try.prog f args W fun e w' => e = .returned v ∧ ∃ n, w' = W.drewN n
theorem Ret.at {f : FuncId} {args : Array Value} {v : Value} (h : Ret f args v) (W : World) : Calls Try.prog f args W fun e w' => e = .returned v ∧ ∃ n, w' = W.drewN n := h W
theorem Ret.quiet {f : FuncId} {args : Array Value} {v : Value} (h : Ret f args v) {w : World} {n : Nat} : Calls Try.prog f args (w.drewN n) fun e w'' => e = .returned v ∧ ∃ m, w'' = w.drewN m := Calls.quiet_of (h _)
end M
end Go.Proofs.Ytdblijpoelcghaa
