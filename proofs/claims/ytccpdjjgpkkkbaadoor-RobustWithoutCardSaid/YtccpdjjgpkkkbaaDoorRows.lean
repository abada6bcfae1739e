/-
  NARROWER THAN 'FOR EVERY INPUT', by the rows' own cells (each row's printed sentence says how): RobustNames: laid · RobustLies: laid · RobustWithout: laid · BivarBack: laid · BivarColumns: laid · BivarHidden: laid.
  DERIVED. THE GIVEN ROWS OF THIS SEAT. 6 by the template 'for every input the law returns true; each argument reads behind the call as it read before'; 0 by the template 'total and deterministic' (their statements: YtccpdjjgpkkkbaaDoorTotals.lean).
  GIVEN WITH THE SEED: the statements are not yours to turn. If you find one false, say at which input.
  Laid BY PROGRAM, IN A SANDBOX (cutbox-rows.mjs): the forced cells as the released guide's own fill.sh prints them over the translation b0a48e44dfe1a813… (all of the seat's roots in one cut). By AI agents, Wed Nov 11 2026. No macro, syntax, notation, axiom, sorry.
-/
import Derived.Test.YtccpdjjgpkkkbaaDoorChecked
import GoSem.Claim
import GoSem.ClaimJoined
import GoSem.ClaimMapViews
import Derived.JoinedTies
import Derived.KernelRfl
namespace Go.Proofs.YtccpdjjgpkkkbaaDoor
/- THE CELL 'sum', in the pinned program and in every row, IS THE sha256 OF THE DUMP (.gsa) THAT YtccpdjjgpkkkbaaDoorProg.lean LOADS. Nothing in Lean hashes anything: it is a label: what it is worth is what the hold of that sum in a sandbox is worth. -/
noncomputable def Tryd.pinned : Pinned := { name := "ytccpdjjgpkkkbaadoor", sum := "b0a48e44dfe1a8133e4bda09dbf06c346b78a26315696db850c8c832a57c90e9", checked := Tryd.checked }
namespace Rows
def none {H : Type} : Left H := { results := [], args := [] }

/- WHAT THE LISTED PACKAGE-LEVEL VARIABLES READ AS WHEN THE CALL BEGINS. Each datum BY PROGRAM (the guide's laid-datum.mjs) off the statement by which the dump's own 'gosem.cut.vars' lays the variable. In a bare row this is a premise. The card (YtccpdjjgpkkkbaaDoorCards.lean) ties it to the program's text. -/
def laid_math_bits_deBruijn64tab {H : Type} : DataW H := .agg [.lit (.int .u8 0), .lit (.int .u8 1), .lit (.int .u8 56), .lit (.int .u8 2), .lit (.int .u8 57), .lit (.int .u8 49), .lit (.int .u8 28), .lit (.int .u8 3), .lit (.int .u8 61), .lit (.int .u8 58), .lit (.int .u8 42), .lit (.int .u8 50), .lit (.int .u8 38), .lit (.int .u8 29), .lit (.int .u8 17), .lit (.int .u8 4), .lit (.int .u8 62), .lit (.int .u8 47), .lit (.int .u8 59), .lit (.int .u8 36), .lit (.int .u8 45), .lit (.int .u8 43), .lit (.int .u8 51), .lit (.int .u8 22), .lit (.int .u8 53), .lit (.int .u8 39), .lit (.int .u8 33), .lit (.int .u8 30), .lit (.int .u8 24), .lit (.int .u8 18), .lit (.int .u8 12), .lit (.int .u8 5), .lit (.int .u8 63), .lit (.int .u8 55), .lit (.int .u8 48), .lit (.int .u8 27), .lit (.int .u8 60), .lit (.int .u8 41), .lit (.int .u8 37), .lit (.int .u8 16), .lit (.int .u8 46), .lit (.int .u8 35), .lit (.int .u8 44), .lit (.int .u8 21), .lit (.int .u8 52), .lit (.int .u8 32), .lit (.int .u8 23), .lit (.int .u8 11), .lit (.int .u8 54), .lit (.int .u8 26), .lit (.int .u8 40), .lit (.int .u8 15), .lit (.int .u8 34), .lit (.int .u8 20), .lit (.int .u8 31), .lit (.int .u8 10), .lit (.int .u8 25), .lit (.int .u8 14), .lit (.int .u8 19), .lit (.int .u8 9), .lit (.int .u8 13), .lit (.int .u8 8), .lit (.int .u8 7), .lit (.int .u8 6)]
def laid_consistory_mod_witnesses {H : Type} : DataW H := .agg [.lit (.int .u64 2), .lit (.int .u64 3), .lit (.int .u64 5), .lit (.int .u64 7), .lit (.int .u64 11), .lit (.int .u64 13), .lit (.int .u64 17), .lit (.int .u64 19), .lit (.int .u64 23)]

/-- 'consistorylaw05.RobustNames': WHATEVER THE INPUT: true; the input reads as it did. -/
def robustNamesSpec : ChangeSpec := { name := "robustNames", fn := fun _ => fun
  | [] => { results := [.lit (.bool true)], args := [] }
  | _ => none }
def robustNamesRow : OpenClaim := { program := "ytccpdjjgpkkkbaadoor", sum := "b0a48e44dfe1a8133e4bda09dbf06c346b78a26315696db850c8c832a57c90e9", func := "consistory/consistorylaw05.RobustNames", spec := "robustNames", unfollowed := true, recurses := true, named := ["consistory/mod.witnesses", "math/bits.deBruijn64tab", "math/bits.divideError", "math/bits.overflowError"], apart := false, laid := [("math/bits.deBruijn64tab", laid_math_bits_deBruijn64tab), ("consistory/mod.witnesses", laid_consistory_mod_witnesses)] }
def RobustNamesSaid : Prop := robustNamesRow.holds Tryd.pinned (OpenSpec.ofChange robustNamesSpec)

/-- ITS FALSE NEIGHBOUR: 'it returns false'. Refute it at one input. -/
def robustNamesWrong : ChangeSpec := { name := "robustNames", fn := fun _ => fun
  | [] => { results := [.lit (.bool false)], args := [] }
  | _ => none }
def RobustNamesWrongFalsely : Prop := robustNamesRow.holds Tryd.pinned (OpenSpec.ofChange robustNamesWrong)

/-- 'consistorylaw05.RobustLies': WHATEVER THE INPUT: true; the input reads as it did. -/
def robustLiesSpec : ChangeSpec := { name := "robustLies", fn := fun _ => fun
  | [d1, d2, d3, d4, d5, d6] => { results := [.lit (.bool true)], args := [d1, d2, d3, d4, d5, d6] }
  | _ => none }
def robustLiesRow : OpenClaim := { program := "ytccpdjjgpkkkbaadoor", sum := "b0a48e44dfe1a8133e4bda09dbf06c346b78a26315696db850c8c832a57c90e9", func := "consistory/consistorylaw05.RobustLies", spec := "robustLies", unfollowed := true, recurses := true, named := ["consistory/mod.witnesses", "math/bits.deBruijn64tab", "math/bits.divideError", "math/bits.overflowError"], apart := false, laid := [("math/bits.deBruijn64tab", laid_math_bits_deBruijn64tab), ("consistory/mod.witnesses", laid_consistory_mod_witnesses)] }
def RobustLiesSaid : Prop := robustLiesRow.holds Tryd.pinned (OpenSpec.ofChange robustLiesSpec)

/-- ITS FALSE NEIGHBOUR: 'it returns false'. Refute it at one input. -/
def robustLiesWrong : ChangeSpec := { name := "robustLies", fn := fun _ => fun
  | [d1, d2, d3, d4, d5, d6] => { results := [.lit (.bool false)], args := [d1, d2, d3, d4, d5, d6] }
  | _ => none }
def RobustLiesWrongFalsely : Prop := robustLiesRow.holds Tryd.pinned (OpenSpec.ofChange robustLiesWrong)

/-- 'consistorylaw05.RobustWithout': WHATEVER THE INPUT: true; the input reads as it did. -/
def robustWithoutSpec : ChangeSpec := { name := "robustWithout", fn := fun _ => fun
  | [d1, d2, d3, d4, d5] => { results := [.lit (.bool true)], args := [d1, d2, d3, d4, d5] }
  | _ => none }
def robustWithoutRow : OpenClaim := { program := "ytccpdjjgpkkkbaadoor", sum := "b0a48e44dfe1a8133e4bda09dbf06c346b78a26315696db850c8c832a57c90e9", func := "consistory/consistorylaw05.RobustWithout", spec := "robustWithout", unfollowed := true, recurses := true, named := ["consistory/mod.witnesses", "math/bits.deBruijn64tab", "math/bits.divideError", "math/bits.overflowError"], apart := false, laid := [("math/bits.deBruijn64tab", laid_math_bits_deBruijn64tab), ("consistory/mod.witnesses", laid_consistory_mod_witnesses)] }
def RobustWithoutSaid : Prop := robustWithoutRow.holds Tryd.pinned (OpenSpec.ofChange robustWithoutSpec)

/-- ITS FALSE NEIGHBOUR: 'it returns false'. Refute it at one input. -/
def robustWithoutWrong : ChangeSpec := { name := "robustWithout", fn := fun _ => fun
  | [d1, d2, d3, d4, d5] => { results := [.lit (.bool false)], args := [d1, d2, d3, d4, d5] }
  | _ => none }
def RobustWithoutWrongFalsely : Prop := robustWithoutRow.holds Tryd.pinned (OpenSpec.ofChange robustWithoutWrong)

/-- 'consistorylaw06.BivarBack': WHATEVER THE INPUT: true; the input reads as it did. -/
def bivarBackSpec : ChangeSpec := { name := "bivarBack", fn := fun _ => fun
  | [d1, d2, d3, d4] => { results := [.lit (.bool true)], args := [d1, d2, d3, d4] }
  | _ => none }
def bivarBackRow : OpenClaim := { program := "ytccpdjjgpkkkbaadoor", sum := "b0a48e44dfe1a8133e4bda09dbf06c346b78a26315696db850c8c832a57c90e9", func := "consistory/consistorylaw06.BivarBack", spec := "bivarBack", unfollowed := true, recurses := true, named := ["math/bits.divideError", "math/bits.overflowError", "consistory/mod.witnesses", "math/bits.deBruijn64tab"], apart := false, laid := [("math/bits.deBruijn64tab", laid_math_bits_deBruijn64tab), ("consistory/mod.witnesses", laid_consistory_mod_witnesses)] }
def BivarBackSaid : Prop := bivarBackRow.holds Tryd.pinned (OpenSpec.ofChange bivarBackSpec)

/-- ITS FALSE NEIGHBOUR: 'it returns false'. Refute it at one input. -/
def bivarBackWrong : ChangeSpec := { name := "bivarBack", fn := fun _ => fun
  | [d1, d2, d3, d4] => { results := [.lit (.bool false)], args := [d1, d2, d3, d4] }
  | _ => none }
def BivarBackWrongFalsely : Prop := bivarBackRow.holds Tryd.pinned (OpenSpec.ofChange bivarBackWrong)

/-- 'consistorylaw06.BivarColumns': WHATEVER THE INPUT: true; the input reads as it did. -/
def bivarColumnsSpec : ChangeSpec := { name := "bivarColumns", fn := fun _ => fun
  | [d1, d2, d3, d4] => { results := [.lit (.bool true)], args := [d1, d2, d3, d4] }
  | _ => none }
def bivarColumnsRow : OpenClaim := { program := "ytccpdjjgpkkkbaadoor", sum := "b0a48e44dfe1a8133e4bda09dbf06c346b78a26315696db850c8c832a57c90e9", func := "consistory/consistorylaw06.BivarColumns", spec := "bivarColumns", unfollowed := true, recurses := true, named := ["math/bits.divideError", "math/bits.overflowError", "consistory/mod.witnesses", "math/bits.deBruijn64tab"], apart := false, laid := [("math/bits.deBruijn64tab", laid_math_bits_deBruijn64tab), ("consistory/mod.witnesses", laid_consistory_mod_witnesses)] }
def BivarColumnsSaid : Prop := bivarColumnsRow.holds Tryd.pinned (OpenSpec.ofChange bivarColumnsSpec)

/-- ITS FALSE NEIGHBOUR: 'it returns false'. Refute it at one input. -/
def bivarColumnsWrong : ChangeSpec := { name := "bivarColumns", fn := fun _ => fun
  | [d1, d2, d3, d4] => { results := [.lit (.bool false)], args := [d1, d2, d3, d4] }
  | _ => none }
def BivarColumnsWrongFalsely : Prop := bivarColumnsRow.holds Tryd.pinned (OpenSpec.ofChange bivarColumnsWrong)

/-- 'consistorylaw06.BivarHidden': WHATEVER THE INPUT: true; the input reads as it did. -/
def bivarHiddenSpec : ChangeSpec := { name := "bivarHidden", fn := fun _ => fun
  | [d1, d2, d3, d4] => { results := [.lit (.bool true)], args := [d1, d2, d3, d4] }
  | _ => none }
def bivarHiddenRow : OpenClaim := { program := "ytccpdjjgpkkkbaadoor", sum := "b0a48e44dfe1a8133e4bda09dbf06c346b78a26315696db850c8c832a57c90e9", func := "consistory/consistorylaw06.BivarHidden", spec := "bivarHidden", unfollowed := true, recurses := true, named := ["math/bits.divideError", "math/bits.overflowError", "consistory/mod.witnesses", "math/bits.deBruijn64tab"], apart := false, laid := [("math/bits.deBruijn64tab", laid_math_bits_deBruijn64tab), ("consistory/mod.witnesses", laid_consistory_mod_witnesses)] }
def BivarHiddenSaid : Prop := bivarHiddenRow.holds Tryd.pinned (OpenSpec.ofChange bivarHiddenSpec)

/-- ITS FALSE NEIGHBOUR: 'it returns false'. Refute it at one input. -/
def bivarHiddenWrong : ChangeSpec := { name := "bivarHidden", fn := fun _ => fun
  | [d1, d2, d3, d4] => { results := [.lit (.bool false)], args := [d1, d2, d3, d4] }
  | _ => none }
def BivarHiddenWrongFalsely : Prop := bivarHiddenRow.holds Tryd.pinned (OpenSpec.ofChange bivarHiddenWrong)

/- THE SECOND FORM. 'bulk': how many values and letters a reading holds, each counted each time it is reached (what is shared counts as often as it is met; a slice's spare places count too). A statement '..UptoSaid' is the law's where the arguments, and the package variables that the reading takes, are together of bulk at most 1048576: NARROWER than '..Said'. Prove '..Said' where nothing that the law and all that it calls make is longer than what came in: it says more and counts as full. Else prove '..UptoSaid'. A law counts once. -/
mutual
def uptoBulk {H : Type} : DataW H → Nat
  | .lit (.string bytes) => bytes.length + 1
  | .lit _ => 1
  | .nil => 1
  | .ptr d => uptoBulk d + 1
  | .slice elems spare => uptoBulkAll elems + uptoBulkAll spare + 1
  | .agg parts => uptoBulkAll parts + 1
  | .iface _ d => uptoBulk d + 1
  | .map entries => uptoBulkEntries entries + 1
  | .held _ => 1
def uptoBulkAll {H : Type} : List (DataW H) → Nat
  | [] => 0
  | d :: r => uptoBulk d + uptoBulkAll r
def uptoBulkEntries {H : Type} : List (Lit × DataW H) → Nat
  | [] => 0
  | x :: r => uptoBulkEntry x + uptoBulkEntries r
def uptoBulkEntry {H : Type} : Lit × DataW H → Nat
  | (.string bytes, d) => bytes.length + uptoBulk d + 1
  | (_, d) => uptoBulk d + 1
 end
def uptoSmall : (H : Type) → List (DataW H) → Bool := fun _ ds => decide (uptoBulkAll ds ≤ 1048576)
def OpenSpec.upto (s : _root_.Go.ChangeSpec) : _root_.Go.OpenSpec := { _root_.Go.OpenSpec.ofChange s with cond := some uptoSmall }

/-- 'consistorylaw05.RobustNames', WHERE WHAT IT READS IS OF BULK AT MOST 1048576: true; the input reads as it did. -/
def robustNamesUptoRow : OpenClaim := { program := "ytccpdjjgpkkkbaadoor", sum := "b0a48e44dfe1a8133e4bda09dbf06c346b78a26315696db850c8c832a57c90e9", func := "consistory/consistorylaw05.RobustNames", spec := "robustNames", unfollowed := true, recurses := true, named := ["consistory/mod.witnesses", "math/bits.deBruijn64tab", "math/bits.divideError", "math/bits.overflowError"], apart := false, laid := [("math/bits.deBruijn64tab", laid_math_bits_deBruijn64tab), ("consistory/mod.witnesses", laid_consistory_mod_witnesses)], narrowed := true }
def RobustNamesUptoSaid : Prop := robustNamesUptoRow.holds Tryd.pinned (OpenSpec.upto robustNamesSpec)

/-- 'consistorylaw05.RobustLies', WHERE WHAT IT READS IS OF BULK AT MOST 1048576: true; the input reads as it did. -/
def robustLiesUptoRow : OpenClaim := { program := "ytccpdjjgpkkkbaadoor", sum := "b0a48e44dfe1a8133e4bda09dbf06c346b78a26315696db850c8c832a57c90e9", func := "consistory/consistorylaw05.RobustLies", spec := "robustLies", unfollowed := true, recurses := true, named := ["consistory/mod.witnesses", "math/bits.deBruijn64tab", "math/bits.divideError", "math/bits.overflowError"], apart := false, laid := [("math/bits.deBruijn64tab", laid_math_bits_deBruijn64tab), ("consistory/mod.witnesses", laid_consistory_mod_witnesses)], narrowed := true }
def RobustLiesUptoSaid : Prop := robustLiesUptoRow.holds Tryd.pinned (OpenSpec.upto robustLiesSpec)

/-- 'consistorylaw05.RobustWithout', WHERE WHAT IT READS IS OF BULK AT MOST 1048576: true; the input reads as it did. -/
def robustWithoutUptoRow : OpenClaim := { program := "ytccpdjjgpkkkbaadoor", sum := "b0a48e44dfe1a8133e4bda09dbf06c346b78a26315696db850c8c832a57c90e9", func := "consistory/consistorylaw05.RobustWithout", spec := "robustWithout", unfollowed := true, recurses := true, named := ["consistory/mod.witnesses", "math/bits.deBruijn64tab", "math/bits.divideError", "math/bits.overflowError"], apart := false, laid := [("math/bits.deBruijn64tab", laid_math_bits_deBruijn64tab), ("consistory/mod.witnesses", laid_consistory_mod_witnesses)], narrowed := true }
def RobustWithoutUptoSaid : Prop := robustWithoutUptoRow.holds Tryd.pinned (OpenSpec.upto robustWithoutSpec)

/-- 'consistorylaw06.BivarBack', WHERE WHAT IT READS IS OF BULK AT MOST 1048576: true; the input reads as it did. -/
def bivarBackUptoRow : OpenClaim := { program := "ytccpdjjgpkkkbaadoor", sum := "b0a48e44dfe1a8133e4bda09dbf06c346b78a26315696db850c8c832a57c90e9", func := "consistory/consistorylaw06.BivarBack", spec := "bivarBack", unfollowed := true, recurses := true, named := ["math/bits.divideError", "math/bits.overflowError", "consistory/mod.witnesses", "math/bits.deBruijn64tab"], apart := false, laid := [("math/bits.deBruijn64tab", laid_math_bits_deBruijn64tab), ("consistory/mod.witnesses", laid_consistory_mod_witnesses)], narrowed := true }
def BivarBackUptoSaid : Prop := bivarBackUptoRow.holds Tryd.pinned (OpenSpec.upto bivarBackSpec)

/-- 'consistorylaw06.BivarColumns', WHERE WHAT IT READS IS OF BULK AT MOST 1048576: true; the input reads as it did. -/
def bivarColumnsUptoRow : OpenClaim := { program := "ytccpdjjgpkkkbaadoor", sum := "b0a48e44dfe1a8133e4bda09dbf06c346b78a26315696db850c8c832a57c90e9", func := "consistory/consistorylaw06.BivarColumns", spec := "bivarColumns", unfollowed := true, recurses := true, named := ["math/bits.divideError", "math/bits.overflowError", "consistory/mod.witnesses", "math/bits.deBruijn64tab"], apart := false, laid := [("math/bits.deBruijn64tab", laid_math_bits_deBruijn64tab), ("consistory/mod.witnesses", laid_consistory_mod_witnesses)], narrowed := true }
def BivarColumnsUptoSaid : Prop := bivarColumnsUptoRow.holds Tryd.pinned (OpenSpec.upto bivarColumnsSpec)

/-- 'consistorylaw06.BivarHidden', WHERE WHAT IT READS IS OF BULK AT MOST 1048576: true; the input reads as it did. -/
def bivarHiddenUptoRow : OpenClaim := { program := "ytccpdjjgpkkkbaadoor", sum := "b0a48e44dfe1a8133e4bda09dbf06c346b78a26315696db850c8c832a57c90e9", func := "consistory/consistorylaw06.BivarHidden", spec := "bivarHidden", unfollowed := true, recurses := true, named := ["math/bits.divideError", "math/bits.overflowError", "consistory/mod.witnesses", "math/bits.deBruijn64tab"], apart := false, laid := [("math/bits.deBruijn64tab", laid_math_bits_deBruijn64tab), ("consistory/mod.witnesses", laid_consistory_mod_witnesses)], narrowed := true }
def BivarHiddenUptoSaid : Prop := bivarHiddenUptoRow.holds Tryd.pinned (OpenSpec.upto bivarHiddenSpec)

end Rows
end Go.Proofs.YtccpdjjgpkkkbaaDoor
