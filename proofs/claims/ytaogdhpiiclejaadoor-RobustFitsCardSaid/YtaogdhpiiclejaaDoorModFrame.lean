/- What the tie of the program's two tables gives a walk: each cell of the witnesses, each cell of the table of bits.TrailingZeros64. -/
import Derived.Test.YtaogdhpiiclejaaDoorRows
import Derived.Test.YtaogdhpiiclejaaDoorModW5
import Derived.Test.YtaogdhpiiclejaaDoorModW3
import Derived.ProofKit
import Derived.OpenShut
import Derived.LaidMore
import Derived.SevenTiedAt
import Derived.Stop.Joined
namespace Go.Proofs.YtaogdhpiiclejaaDoor
open Go.ChangeShapes Go.WideShapes Go.ChangeAt Go.RowKit
namespace M

def laid : List (String × DataW Unit) := [("math/bits.deBruijn64tab", Rows.laid_math_bits_deBruijn64tab), ("consistory/mod.witnesses", Rows.laid_consistory_mod_witnesses)]

theorem own : ownKnob Tryd.prog.godebug = none := by kernel_rfl

/-- An array of integers that reads as a known row: its cells. -/
theorem int_cells {P : Program} {W : World} {n : Nat} {e t : TypeId} {k : IntKind} {cs : Array Value} {zs : List Int} {base fuel : Nat} {spare : Nat → Bool} {held : Bool} {enc : TypeId × Value → Unit} {q : List MemPlace}
    (ht : P.underlying t = some (.array n e)) (he : P.underlying e = some (.int k)) (c1 : P.cellsOf e = 1) (c2 : P.cellsOf t = n) (hz : zs.length = n)
    (h : DataW.trod enc P W base spare held fuel t cs.toList = some (.agg (zs.map fun z => .lit (.int k z)), q)) :
    cs.size = n ∧ ∀ r, r < n → cs[r]? = some (.int k (zs.getD r 0)) := by
  obtain ⟨xs, m, _, ex, hcl, hl, hel⟩ := DataW.trod_array ht h
  refine ⟨by rw [c2] at hcl; simpa using hcl, fun r hr => ?_⟩
  have hE := hel r hr
  rw [c1, Nat.mul_one, List.getElem?_eq_getElem (by omega)] at hE
  obtain ⟨z, e1, e2, _⟩ := DataW.trod_int he hE
  have e3 : (xs.map (·.1)) = zs.map fun z => .lit (.int k z) := (DataW.agg.inj (Prod.mk.inj ex).1).symm
  have e4 : (xs.map (·.1))[r]? = (zs.map fun z => (DataW.lit (.int k z) : DataW Unit))[r]? := by rw [e3]
  rw [List.getElem?_map, List.getElem?_map, List.getElem?_eq_getElem (by omega : r < xs.length), List.getElem?_eq_getElem (by omega : r < zs.length), e2] at e4
  have hz' : z = zs.getD r 0 := by
    simp only [Option.map_some, Option.some.injEq, DataW.lit.injEq, Lit.int.injEq, true_and] at e4
    rw [e4, List.getD, List.getElem?_eq_getElem (by omega : r < zs.length)]; rfl
  rw [← hz']
  have : cs.toList[r]? = some (.int k z) := by
    have h0 : ((cs.toList.drop r).take 1)[0]? = some (.int k z) := by rw [e1]; rfl
    simpa using h0
  simpa using this

theorem u64_bounds {n : Int} (h : (Lit.int .u64 n).wf = true) : 0 ≤ n ∧ n ≤ 18446744073709551615 := by
  simp [Lit.wf, IntKind.min, IntKind.max, IntKind.signed, IntKind.bits] at h
  omega

theorem grown_drewN {W w' : World} (h : Grown W w') (n : Nat) : Grown W (w'.drewN n) := h

/-- A call that answers v in every world, and leaves the world as it was but for draws. A plain definition: the walk does not look into it. -/
def Ret (f : FuncId) (args : Array Value) (v : Value) : Prop := ∀ W : World, Calls Tryd.prog f args W fun e w' => e = .returned v ∧ ∃ n, w' = W.drewN n
theorem Ret.at {f : FuncId} {args : Array Value} {v : Value} (h : Ret f args v) (W : World) : Calls Tryd.prog f args W fun e w' => e = .returned v ∧ ∃ n, w' = W.drewN n := h W
theorem Ret.quiet {f : FuncId} {args : Array Value} {v : Value} (h : Ret f args v) {w : World} {n : Nat} : Calls Tryd.prog f args (w.drewN n) fun e w'' => e = .returned v ∧ ∃ m, w'' = w.drewN m := Calls.quiet_of (h _)
/-- .. in worlds whose two tables are laid. -/
def RetL (f : FuncId) (args : Array Value) (v : Value) : Prop := ∀ W : World, Laid W → Calls Tryd.prog f args W fun e w' => e = .returned v ∧ ∃ n, w' = W.drewN n
theorem RetL.at {f : FuncId} {args : Array Value} {v : Value} (h : RetL f args v) (W : World) (hl : Laid W) : Calls Tryd.prog f args W fun e w' => e = .returned v ∧ ∃ n, w' = W.drewN n := h W hl

def tabZ : List Int := Lib.deBruijn64tab.map fun n : Nat => (n : Int)
def witZ : List Int := MM.wits.map fun n : Nat => (n : Int)

theorem of_laid {W : World} (h : laidMetH Tryd.prog laid W) : Laid W := by
  rw [MakeChecks.laidMetH_plain _ _ _ (by kernel_rfl)] at h
  obtain ⟨ps, ⟨g0, t0, cs0, f0, p0, q0, hg0, ht0, hv0, hd0, ⟨g1, t1, cs1, f1, p1, q1, hg1, ht1, hv1, hd1, _, _⟩, _⟩, _, _⟩ := h
  obtain rfl := Option.some.inj ((show Tryd.prog.globalNamed "math/bits.deBruijn64tab" = some 1 by kernel_rfl).symm.trans hg0)
  obtain rfl := Option.some.inj ((show Tryd.prog.globalNamed "consistory/mod.witnesses" = some 0 by kernel_rfl).symm.trans hg1)
  obtain rfl := Option.some.inj ((show (Tryd.prog.globals[(1 : Nat)]?).map (·.type) = some 65 by kernel_rfl).symm.trans ht0)
  obtain rfl := Option.some.inj ((show (Tryd.prog.globals[(0 : Nat)]?).map (·.type) = some 50 by kernel_rfl).symm.trans ht1)
  obtain ⟨_, hc0⟩ := int_cells (zs := tabZ) Tryd.underlying65 Tryd.underlying5 (by kernel_rfl) (by kernel_rfl) (by decide) hd0
  obtain ⟨hs1, hc1⟩ := int_cells (zs := witZ) Tryd.underlying50 Tryd.underlying23 (by kernel_rfl) (by kernel_rfl) (by decide) hd1
  constructor
  · have hcs : cs1 = witCells := by
      apply Array.ext_getElem?
      intro i
      by_cases hi : i < 9
      · rw [hc1 i hi]
        match i, hi with
        | 0, _ => rfl
        | 1, _ => rfl
        | 2, _ => rfl
        | 3, _ => rfl
        | 4, _ => rfl
        | 5, _ => rfl
        | 6, _ => rfl
        | 7, _ => rfl
        | 8, _ => rfl
        | i + 9, h => exact absurd h (by omega)
      · rw [Array.getElem?_eq_none (by omega), Array.getElem?_eq_none (by show 9 ≤ i; omega)]
    subst hcs
    simp only [World.var?, hg1, Option.bind_some] at hv1
    split at hv1
    · rename_i c t fr hb
      cases hv1
      exact ⟨t, fr, hb⟩
    · cases hv1
  · intro j hj
    rw [World.var?_cell hg0 hv0 j, hc0 j hj]
    congr 2
    unfold tabZ
    rw [List.getD_eq_getElem?_getD, List.getD_eq_getElem?_getD, List.getElem?_map]
    cases Lib.deBruijn64tab[j]? <;> rfl
end M
end Go.Proofs.YtaogdhpiiclejaaDoor
