/-
  NARROWER THAN 'FOR EVERY INPUT', by the rows' own cells (each row's printed sentence says how): PedersenRows: laid · PedersenEither: laid · PedersenShares: laid · PedersenBonds: laid.
  DERIVED. THE GIVEN ROWS OF THIS SEAT. 4 by the template 'for every input the law returns true; each argument reads behind the call as it read before'; 0 by the template 'total and deterministic' (their statements: YtlnlepadninnaaaDoorTotals.lean).
  GIVEN WITH THE SEED: the statements are not yours to turn. If you find one false, say at which input.
  Laid BY PROGRAM, IN A SANDBOX (cutbox-rows.mjs): the forced cells as the released guide's own fill.sh prints them over the translation 823f996e4b1849d4… (all of the seat's roots in one cut). By AI agents, Wed Nov 11 2026. No macro, syntax, notation, axiom, sorry.
-/
import Derived.Test.YtlnlepadninnaaaDoorChecked
import GoSem.Claim
import GoSem.ClaimJoined
import GoSem.ClaimMapViews
import Derived.JoinedTies
import Derived.KernelRfl
namespace Go.Proofs.YtlnlepadninnaaaDoor
/- THE CELL 'sum', in the pinned program and in every row, IS THE sha256 OF THE DUMP (.gsa) THAT YtlnlepadninnaaaDoorProg.lean LOADS. Nothing in Lean hashes anything: it is a label: what it is worth is what the hold of that sum in a sandbox is worth. -/
noncomputable def Tryd.pinned : Pinned := { name := "ytlnlepadninnaaadoor", sum := "823f996e4b1849d48c06be14a71574e9160deedba4af60c766cb31c75b895b0e", checked := Tryd.checked }
namespace Rows
def none {H : Type} : Left H := { results := [], args := [] }

/- WHAT THE LISTED PACKAGE-LEVEL VARIABLES READ AS WHEN THE CALL BEGINS. Each datum BY PROGRAM (the guide's laid-datum.mjs) off the statement by which the dump's own 'gosem.cut.vars' lays the variable. In a bare row this is a premise. The card (YtlnlepadninnaaaDoorCards.lean) ties it to the program's text. -/
def laid_math_bits_deBruijn64tab {H : Type} : DataW H := .agg [.lit (.int .u8 0), .lit (.int .u8 1), .lit (.int .u8 56), .lit (.int .u8 2), .lit (.int .u8 57), .lit (.int .u8 49), .lit (.int .u8 28), .lit (.int .u8 3), .lit (.int .u8 61), .lit (.int .u8 58), .lit (.int .u8 42), .lit (.int .u8 50), .lit (.int .u8 38), .lit (.int .u8 29), .lit (.int .u8 17), .lit (.int .u8 4), .lit (.int .u8 62), .lit (.int .u8 47), .lit (.int .u8 59), .lit (.int .u8 36), .lit (.int .u8 45), .lit (.int .u8 43), .lit (.int .u8 51), .lit (.int .u8 22), .lit (.int .u8 53), .lit (.int .u8 39), .lit (.int .u8 33), .lit (.int .u8 30), .lit (.int .u8 24), .lit (.int .u8 18), .lit (.int .u8 12), .lit (.int .u8 5), .lit (.int .u8 63), .lit (.int .u8 55), .lit (.int .u8 48), .lit (.int .u8 27), .lit (.int .u8 60), .lit (.int .u8 41), .lit (.int .u8 37), .lit (.int .u8 16), .lit (.int .u8 46), .lit (.int .u8 35), .lit (.int .u8 44), .lit (.int .u8 21), .lit (.int .u8 52), .lit (.int .u8 32), .lit (.int .u8 23), .lit (.int .u8 11), .lit (.int .u8 54), .lit (.int .u8 26), .lit (.int .u8 40), .lit (.int .u8 15), .lit (.int .u8 34), .lit (.int .u8 20), .lit (.int .u8 31), .lit (.int .u8 10), .lit (.int .u8 25), .lit (.int .u8 14), .lit (.int .u8 19), .lit (.int .u8 9), .lit (.int .u8 13), .lit (.int .u8 8), .lit (.int .u8 7), .lit (.int .u8 6)]
def laid_consistory_mod_witnesses {H : Type} : DataW H := .agg [.lit (.int .u64 2), .lit (.int .u64 3), .lit (.int .u64 5), .lit (.int .u64 7), .lit (.int .u64 11), .lit (.int .u64 13), .lit (.int .u64 17), .lit (.int .u64 19), .lit (.int .u64 23)]

/-- 'consistorylaw08.PedersenRows': WHATEVER THE INPUT: true; the input reads as it did. -/
def pedersenRowsSpec : ChangeSpec := { name := "pedersenRows", fn := fun _ => fun
  | [d1, d2, d3, d4] => { results := [.lit (.bool true)], args := [d1, d2, d3, d4] }
  | _ => none }
def pedersenRowsRow : OpenClaim := { program := "ytlnlepadninnaaadoor", sum := "823f996e4b1849d48c06be14a71574e9160deedba4af60c766cb31c75b895b0e", func := "consistory/consistorylaw08.PedersenRows", spec := "pedersenRows", unfollowed := true, recurses := true, named := ["math/bits.divideError", "math/bits.overflowError", "consistory/mod.witnesses", "math/bits.deBruijn64tab"], apart := false, laid := [("math/bits.deBruijn64tab", laid_math_bits_deBruijn64tab), ("consistory/mod.witnesses", laid_consistory_mod_witnesses)] }
def PedersenRowsSaid : Prop := pedersenRowsRow.holds Tryd.pinned (OpenSpec.ofChange pedersenRowsSpec)

/-- ITS FALSE NEIGHBOUR: 'it returns false'. Refute it at one input. -/
def pedersenRowsWrong : ChangeSpec := { name := "pedersenRows", fn := fun _ => fun
  | [d1, d2, d3, d4] => { results := [.lit (.bool false)], args := [d1, d2, d3, d4] }
  | _ => none }
def PedersenRowsWrongFalsely : Prop := pedersenRowsRow.holds Tryd.pinned (OpenSpec.ofChange pedersenRowsWrong)

/-- 'consistorylaw08.PedersenEither': WHATEVER THE INPUT: true; the input reads as it did. -/
def pedersenEitherSpec : ChangeSpec := { name := "pedersenEither", fn := fun _ => fun
  | [d1, d2, d3, d4] => { results := [.lit (.bool true)], args := [d1, d2, d3, d4] }
  | _ => none }
def pedersenEitherRow : OpenClaim := { program := "ytlnlepadninnaaadoor", sum := "823f996e4b1849d48c06be14a71574e9160deedba4af60c766cb31c75b895b0e", func := "consistory/consistorylaw08.PedersenEither", spec := "pedersenEither", unfollowed := true, recurses := true, named := ["math/bits.divideError", "math/bits.overflowError", "consistory/mod.witnesses", "math/bits.deBruijn64tab"], apart := false, laid := [("math/bits.deBruijn64tab", laid_math_bits_deBruijn64tab), ("consistory/mod.witnesses", laid_consistory_mod_witnesses)] }
def PedersenEitherSaid : Prop := pedersenEitherRow.holds Tryd.pinned (OpenSpec.ofChange pedersenEitherSpec)

/-- ITS FALSE NEIGHBOUR: 'it returns false'. Refute it at one input. -/
def pedersenEitherWrong : ChangeSpec := { name := "pedersenEither", fn := fun _ => fun
  | [d1, d2, d3, d4] => { results := [.lit (.bool false)], args := [d1, d2, d3, d4] }
  | _ => none }
def PedersenEitherWrongFalsely : Prop := pedersenEitherRow.holds Tryd.pinned (OpenSpec.ofChange pedersenEitherWrong)

/-- 'consistorylaw08.PedersenShares': WHATEVER THE INPUT: true; the input reads as it did. -/
def pedersenSharesSpec : ChangeSpec := { name := "pedersenShares", fn := fun _ => fun
  | [d1, d2, d3, d4, d5, d6] => { results := [.lit (.bool true)], args := [d1, d2, d3, d4, d5, d6] }
  | _ => none }
def pedersenSharesRow : OpenClaim := { program := "ytlnlepadninnaaadoor", sum := "823f996e4b1849d48c06be14a71574e9160deedba4af60c766cb31c75b895b0e", func := "consistory/consistorylaw08.PedersenShares", spec := "pedersenShares", unfollowed := true, recurses := true, named := ["math/bits.divideError", "math/bits.overflowError", "consistory/mod.witnesses", "math/bits.deBruijn64tab"], apart := false, laid := [("math/bits.deBruijn64tab", laid_math_bits_deBruijn64tab), ("consistory/mod.witnesses", laid_consistory_mod_witnesses)] }
def PedersenSharesSaid : Prop := pedersenSharesRow.holds Tryd.pinned (OpenSpec.ofChange pedersenSharesSpec)

/-- ITS FALSE NEIGHBOUR: 'it returns false'. Refute it at one input. -/
def pedersenSharesWrong : ChangeSpec := { name := "pedersenShares", fn := fun _ => fun
  | [d1, d2, d3, d4, d5, d6] => { results := [.lit (.bool false)], args := [d1, d2, d3, d4, d5, d6] }
  | _ => none }
def PedersenSharesWrongFalsely : Prop := pedersenSharesRow.holds Tryd.pinned (OpenSpec.ofChange pedersenSharesWrong)

/-- 'consistorylaw08.PedersenBonds': WHATEVER THE INPUT: true; the input reads as it did. -/
def pedersenBondsSpec : ChangeSpec := { name := "pedersenBonds", fn := fun _ => fun
  | [d1, d2, d3, d4, d5, d6, d7] => { results := [.lit (.bool true)], args := [d1, d2, d3, d4, d5, d6, d7] }
  | _ => none }
def pedersenBondsRow : OpenClaim := { program := "ytlnlepadninnaaadoor", sum := "823f996e4b1849d48c06be14a71574e9160deedba4af60c766cb31c75b895b0e", func := "consistory/consistorylaw08.PedersenBonds", spec := "pedersenBonds", unfollowed := true, recurses := true, named := ["math/bits.divideError", "math/bits.overflowError", "consistory/mod.witnesses", "math/bits.deBruijn64tab"], apart := false, laid := [("math/bits.deBruijn64tab", laid_math_bits_deBruijn64tab), ("consistory/mod.witnesses", laid_consistory_mod_witnesses)] }
def PedersenBondsSaid : Prop := pedersenBondsRow.holds Tryd.pinned (OpenSpec.ofChange pedersenBondsSpec)

/-- ITS FALSE NEIGHBOUR: 'it returns false'. Refute it at one input. -/
def pedersenBondsWrong : ChangeSpec := { name := "pedersenBonds", fn := fun _ => fun
  | [d1, d2, d3, d4, d5, d6, d7] => { results := [.lit (.bool false)], args := [d1, d2, d3, d4, d5, d6, d7] }
  | _ => none }
def PedersenBondsWrongFalsely : Prop := pedersenBondsRow.holds Tryd.pinned (OpenSpec.ofChange pedersenBondsWrong)

/- THE SECOND FORM. 'bulk': how many values and letters a reading holds, each counted each time it is reached (what is shared counts as often as it is met; a slice's spare places count too). A statement '..UptoSaid' is the law's where the arguments, and the package variables that the reading takes, are together of bulk at most 1048576: NARROWER than '..Said'. Prove '..Said' where nothing that the law and all that it calls make is longer than what came in: it says more and counts as full. Else prove '..UptoSaid'. A law counts once. -/
mutual
def uptoBulk {H : Type} : DataW H → Nat
  | .lit (.string bytes) => bytes.length + 1
  | .lit _ => 1
  | .nil => 1
  | .ptr d => uptoBulk d + 1
  | .slice elems spare => uptoBulkAll elems + uptoBulkAll spare + 1
  | .agg parts => uptoBulkAll parts + 1
  | .iface _ d => uptoBulk d + 1
  | .map entries => uptoBulkEntries entries + 1
  | .held _ => 1
def uptoBulkAll {H : Type} : List (DataW H) → Nat
  | [] => 0
  | d :: r => uptoBulk d + uptoBulkAll r
def uptoBulkEntries {H : Type} : List (Lit × DataW H) → Nat
  | [] => 0
  | x :: r => uptoBulkEntry x + uptoBulkEntries r
def uptoBulkEntry {H : Type} : Lit × DataW H → Nat
  | (.string bytes, d) => bytes.length + uptoBulk d + 1
  | (_, d) => uptoBulk d + 1
 end
def uptoSmall : (H : Type) → List (DataW H) → Bool := fun _ ds => decide (uptoBulkAll ds ≤ 1048576)
def OpenSpec.upto (s : _root_.Go.ChangeSpec) : _root_.Go.OpenSpec := { _root_.Go.OpenSpec.ofChange s with cond := some uptoSmall }

/-- 'consistorylaw08.PedersenRows', WHERE WHAT IT READS IS OF BULK AT MOST 1048576: true; the input reads as it did. -/
def pedersenRowsUptoRow : OpenClaim := { program := "ytlnlepadninnaaadoor", sum := "823f996e4b1849d48c06be14a71574e9160deedba4af60c766cb31c75b895b0e", func := "consistory/consistorylaw08.PedersenRows", spec := "pedersenRows", unfollowed := true, recurses := true, named := ["math/bits.divideError", "math/bits.overflowError", "consistory/mod.witnesses", "math/bits.deBruijn64tab"], apart := false, laid := [("math/bits.deBruijn64tab", laid_math_bits_deBruijn64tab), ("consistory/mod.witnesses", laid_consistory_mod_witnesses)], narrowed := true }
def PedersenRowsUptoSaid : Prop := pedersenRowsUptoRow.holds Tryd.pinned (OpenSpec.upto pedersenRowsSpec)

/-- 'consistorylaw08.PedersenEither', WHERE WHAT IT READS IS OF BULK AT MOST 1048576: true; the input reads as it did. -/
def pedersenEitherUptoRow : OpenClaim := { program := "ytlnlepadninnaaadoor", sum := "823f996e4b1849d48c06be14a71574e9160deedba4af60c766cb31c75b895b0e", func := "consistory/consistorylaw08.PedersenEither", spec := "pedersenEither", unfollowed := true, recurses := true, named := ["math/bits.divideError", "math/bits.overflowError", "consistory/mod.witnesses", "math/bits.deBruijn64tab"], apart := false, laid := [("math/bits.deBruijn64tab", laid_math_bits_deBruijn64tab), ("consistory/mod.witnesses", laid_consistory_mod_witnesses)], narrowed := true }
def PedersenEitherUptoSaid : Prop := pedersenEitherUptoRow.holds Tryd.pinned (OpenSpec.upto pedersenEitherSpec)

/-- 'consistorylaw08.PedersenShares', WHERE WHAT IT READS IS OF BULK AT MOST 1048576: true; the input reads as it did. -/
def pedersenSharesUptoRow : OpenClaim := { program := "ytlnlepadninnaaadoor", sum := "823f996e4b1849d48c06be14a71574e9160deedba4af60c766cb31c75b895b0e", func := "consistory/consistorylaw08.PedersenShares", spec := "pedersenShares", unfollowed := true, recurses := true, named := ["math/bits.divideError", "math/bits.overflowError", "consistory/mod.witnesses", "math/bits.deBruijn64tab"], apart := false, laid := [("math/bits.deBruijn64tab", laid_math_bits_deBruijn64tab), ("consistory/mod.witnesses", laid_consistory_mod_witnesses)], narrowed := true }
def PedersenSharesUptoSaid : Prop := pedersenSharesUptoRow.holds Tryd.pinned (OpenSpec.upto pedersenSharesSpec)

/-- 'consistorylaw08.PedersenBonds', WHERE WHAT IT READS IS OF BULK AT MOST 1048576: true; the input reads as it did. -/
def pedersenBondsUptoRow : OpenClaim := { program := "ytlnlepadninnaaadoor", sum := "823f996e4b1849d48c06be14a71574e9160deedba4af60c766cb31c75b895b0e", func := "consistory/consistorylaw08.PedersenBonds", spec := "pedersenBonds", unfollowed := true, recurses := true, named := ["math/bits.divideError", "math/bits.overflowError", "consistory/mod.witnesses", "math/bits.deBruijn64tab"], apart := false, laid := [("math/bits.deBruijn64tab", laid_math_bits_deBruijn64tab), ("consistory/mod.witnesses", laid_consistory_mod_witnesses)], narrowed := true }
def PedersenBondsUptoSaid : Prop := pedersenBondsUptoRow.holds Tryd.pinned (OpenSpec.upto pedersenBondsSpec)

end Rows
end Go.Proofs.YtlnlepadninnaaaDoor
