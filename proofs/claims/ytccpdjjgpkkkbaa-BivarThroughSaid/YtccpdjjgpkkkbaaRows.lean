/-
  No cell of these rows narrows 'for every input' (looked for: loops, veiled, ifaces, maps, wideKeys, modest, calm, conditions, laid).
  DERIVED. THE GIVEN ROWS OF THIS SEAT. 4 by the template 'for every input the law returns true; each argument reads behind the call as it read before'; 0 by the template 'total and deterministic' (their statements: YtccpdjjgpkkkbaaTotals.lean).
  GIVEN WITH THE SEED: the statements are not yours to turn. If you find one false, say at which input.
  Laid BY PROGRAM, IN A SANDBOX (cutbox-rows.mjs): the forced cells as the released guide's own fill.sh prints them over the translation 766ba115c3e4b040… (all of the seat's roots in one cut). By AI agents, Wed Nov 11 2026. No macro, syntax, notation, axiom, sorry.
-/
import Derived.Test.YtccpdjjgpkkkbaaChecked
import GoSem.Claim
import GoSem.ClaimJoined
import GoSem.ClaimMapViews
import Derived.JoinedTies
import Derived.KernelRfl
namespace Go.Proofs.Ytccpdjjgpkkkbaa
/- THE CELL 'sum', in the pinned program and in every row, IS THE sha256 OF THE DUMP (.gsa) THAT YtccpdjjgpkkkbaaProg.lean LOADS. Nothing in Lean hashes anything: it is a label: what it is worth is what the hold of that sum in a sandbox is worth. -/
noncomputable def Try.pinned : Pinned := { name := "ytccpdjjgpkkkbaa", sum := "766ba115c3e4b040ba7b49915fbd70eeeb0100caed5ccce973f2782b8c7c4d2b", checked := Try.checked }
namespace Rows
def none {H : Type} : Left H := { results := [], args := [] }

/-- 'consistorylaw06.BivarNames': WHATEVER THE INPUT: true; the input reads as it did. -/
def bivarNamesSpec : ChangeSpec := { name := "bivarNames", fn := fun _ => fun
  | [] => { results := [.lit (.bool true)], args := [] }
  | _ => none }
def bivarNamesRow : OpenClaim := { program := "ytccpdjjgpkkkbaa", sum := "766ba115c3e4b040ba7b49915fbd70eeeb0100caed5ccce973f2782b8c7c4d2b", func := "consistory/consistorylaw06.BivarNames", spec := "bivarNames", unfollowed := true, recurses := true, named := ["math/bits.divideError", "math/bits.overflowError"], apart := false }
def BivarNamesSaid : Prop := bivarNamesRow.holds Try.pinned (OpenSpec.ofChange bivarNamesSpec)

/-- ITS FALSE NEIGHBOUR: 'it returns false'. Refute it at one input. -/
def bivarNamesWrong : ChangeSpec := { name := "bivarNames", fn := fun _ => fun
  | [] => { results := [.lit (.bool false)], args := [] }
  | _ => none }
def BivarNamesWrongFalsely : Prop := bivarNamesRow.holds Try.pinned (OpenSpec.ofChange bivarNamesWrong)

/-- 'consistorylaw06.BivarTells': WHATEVER THE INPUT: true; the input reads as it did. -/
def bivarTellsSpec : ChangeSpec := { name := "bivarTells", fn := fun _ => fun
  | [d1, d2, d3, d4] => { results := [.lit (.bool true)], args := [d1, d2, d3, d4] }
  | _ => none }
def bivarTellsRow : OpenClaim := { program := "ytccpdjjgpkkkbaa", sum := "766ba115c3e4b040ba7b49915fbd70eeeb0100caed5ccce973f2782b8c7c4d2b", func := "consistory/consistorylaw06.BivarTells", spec := "bivarTells", unfollowed := true, recurses := true, named := ["math/bits.divideError", "math/bits.overflowError"], apart := false }
def BivarTellsSaid : Prop := bivarTellsRow.holds Try.pinned (OpenSpec.ofChange bivarTellsSpec)

/-- ITS FALSE NEIGHBOUR: 'it returns false'. Refute it at one input. -/
def bivarTellsWrong : ChangeSpec := { name := "bivarTells", fn := fun _ => fun
  | [d1, d2, d3, d4] => { results := [.lit (.bool false)], args := [d1, d2, d3, d4] }
  | _ => none }
def BivarTellsWrongFalsely : Prop := bivarTellsRow.holds Try.pinned (OpenSpec.ofChange bivarTellsWrong)

/-- 'consistorylaw06.BivarThrough': WHATEVER THE INPUT: true; the input reads as it did. -/
def bivarThroughSpec : ChangeSpec := { name := "bivarThrough", fn := fun _ => fun
  | [d1, d2, d3] => { results := [.lit (.bool true)], args := [d1, d2, d3] }
  | _ => none }
def bivarThroughRow : OpenClaim := { program := "ytccpdjjgpkkkbaa", sum := "766ba115c3e4b040ba7b49915fbd70eeeb0100caed5ccce973f2782b8c7c4d2b", func := "consistory/consistorylaw06.BivarThrough", spec := "bivarThrough", unfollowed := true, recurses := true, named := ["math/bits.divideError", "math/bits.overflowError"], apart := false }
def BivarThroughSaid : Prop := bivarThroughRow.holds Try.pinned (OpenSpec.ofChange bivarThroughSpec)

/-- ITS FALSE NEIGHBOUR: 'it returns false'. Refute it at one input. -/
def bivarThroughWrong : ChangeSpec := { name := "bivarThrough", fn := fun _ => fun
  | [d1, d2, d3] => { results := [.lit (.bool false)], args := [d1, d2, d3] }
  | _ => none }
def BivarThroughWrongFalsely : Prop := bivarThroughRow.holds Try.pinned (OpenSpec.ofChange bivarThroughWrong)

/-- 'consistorylaw06.BivarCross': WHATEVER THE INPUT: true; the input reads as it did. -/
def bivarCrossSpec : ChangeSpec := { name := "bivarCross", fn := fun _ => fun
  | [d1, d2, d3, d4] => { results := [.lit (.bool true)], args := [d1, d2, d3, d4] }
  | _ => none }
def bivarCrossRow : OpenClaim := { program := "ytccpdjjgpkkkbaa", sum := "766ba115c3e4b040ba7b49915fbd70eeeb0100caed5ccce973f2782b8c7c4d2b", func := "consistory/consistorylaw06.BivarCross", spec := "bivarCross", unfollowed := true, recurses := true, named := ["math/bits.divideError", "math/bits.overflowError"], apart := false }
def BivarCrossSaid : Prop := bivarCrossRow.holds Try.pinned (OpenSpec.ofChange bivarCrossSpec)

/-- ITS FALSE NEIGHBOUR: 'it returns false'. Refute it at one input. -/
def bivarCrossWrong : ChangeSpec := { name := "bivarCross", fn := fun _ => fun
  | [d1, d2, d3, d4] => { results := [.lit (.bool false)], args := [d1, d2, d3, d4] }
  | _ => none }
def BivarCrossWrongFalsely : Prop := bivarCrossRow.holds Try.pinned (OpenSpec.ofChange bivarCrossWrong)

/- THE SECOND FORM. 'bulk': how many values and letters a reading holds, each counted each time it is reached (what is shared counts as often as it is met; a slice's spare places count too). A statement '..UptoSaid' is the law's where the arguments, and the package variables that the reading takes, are together of bulk at most 1048576: NARROWER than '..Said'. Prove '..Said' where nothing that the law and all that it calls make is longer than what came in: it says more and counts as full. Else prove '..UptoSaid'. A law counts once. -/
mutual
def uptoBulk {H : Type} : DataW H → Nat
  | .lit (.string bytes) => bytes.length + 1
  | .lit _ => 1
  | .nil => 1
  | .ptr d => uptoBulk d + 1
  | .slice elems spare => uptoBulkAll elems + uptoBulkAll spare + 1
  | .agg parts => uptoBulkAll parts + 1
  | .iface _ d => uptoBulk d + 1
  | .map entries => uptoBulkEntries entries + 1
  | .held _ => 1
def uptoBulkAll {H : Type} : List (DataW H) → Nat
  | [] => 0
  | d :: r => uptoBulk d + uptoBulkAll r
def uptoBulkEntries {H : Type} : List (Lit × DataW H) → Nat
  | [] => 0
  | x :: r => uptoBulkEntry x + uptoBulkEntries r
def uptoBulkEntry {H : Type} : Lit × DataW H → Nat
  | (.string bytes, d) => bytes.length + uptoBulk d + 1
  | (_, d) => uptoBulk d + 1
 end
def uptoSmall : (H : Type) → List (DataW H) → Bool := fun _ ds => decide (uptoBulkAll ds ≤ 1048576)
def OpenSpec.upto (s : _root_.Go.ChangeSpec) : _root_.Go.OpenSpec := { _root_.Go.OpenSpec.ofChange s with cond := some uptoSmall }

/-- 'consistorylaw06.BivarNames', WHERE WHAT IT READS IS OF BULK AT MOST 1048576: true; the input reads as it did. -/
def bivarNamesUptoRow : OpenClaim := { program := "ytccpdjjgpkkkbaa", sum := "766ba115c3e4b040ba7b49915fbd70eeeb0100caed5ccce973f2782b8c7c4d2b", func := "consistory/consistorylaw06.BivarNames", spec := "bivarNames", unfollowed := true, recurses := true, named := ["math/bits.divideError", "math/bits.overflowError"], apart := false, narrowed := true }
def BivarNamesUptoSaid : Prop := bivarNamesUptoRow.holds Try.pinned (OpenSpec.upto bivarNamesSpec)

/-- 'consistorylaw06.BivarTells', WHERE WHAT IT READS IS OF BULK AT MOST 1048576: true; the input reads as it did. -/
def bivarTellsUptoRow : OpenClaim := { program := "ytccpdjjgpkkkbaa", sum := "766ba115c3e4b040ba7b49915fbd70eeeb0100caed5ccce973f2782b8c7c4d2b", func := "consistory/consistorylaw06.BivarTells", spec := "bivarTells", unfollowed := true, recurses := true, named := ["math/bits.divideError", "math/bits.overflowError"], apart := false, narrowed := true }
def BivarTellsUptoSaid : Prop := bivarTellsUptoRow.holds Try.pinned (OpenSpec.upto bivarTellsSpec)

/-- 'consistorylaw06.BivarThrough', WHERE WHAT IT READS IS OF BULK AT MOST 1048576: true; the input reads as it did. -/
def bivarThroughUptoRow : OpenClaim := { program := "ytccpdjjgpkkkbaa", sum := "766ba115c3e4b040ba7b49915fbd70eeeb0100caed5ccce973f2782b8c7c4d2b", func := "consistory/consistorylaw06.BivarThrough", spec := "bivarThrough", unfollowed := true, recurses := true, named := ["math/bits.divideError", "math/bits.overflowError"], apart := false, narrowed := true }
def BivarThroughUptoSaid : Prop := bivarThroughUptoRow.holds Try.pinned (OpenSpec.upto bivarThroughSpec)

/-- 'consistorylaw06.BivarCross', WHERE WHAT IT READS IS OF BULK AT MOST 1048576: true; the input reads as it did. -/
def bivarCrossUptoRow : OpenClaim := { program := "ytccpdjjgpkkkbaa", sum := "766ba115c3e4b040ba7b49915fbd70eeeb0100caed5ccce973f2782b8c7c4d2b", func := "consistory/consistorylaw06.BivarCross", spec := "bivarCross", unfollowed := true, recurses := true, named := ["math/bits.divideError", "math/bits.overflowError"], apart := false, narrowed := true }
def BivarCrossUptoSaid : Prop := bivarCrossUptoRow.holds Try.pinned (OpenSpec.upto bivarCrossSpec)

end Rows
end Go.Proofs.Ytccpdjjgpkkkbaa
