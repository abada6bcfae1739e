/-
  NARROWER THAN 'FOR EVERY INPUT', by the rows' own cells (each row's printed sentence says how): RankNames: laid · RankTells: laid · RankSolves: laid · RankMore: laid · RankShared: laid · RankTurned: laid · RankWays: laid · RankSolved: laid.
  DERIVED. THE GIVEN ROWS OF THIS SEAT. 8 by the template 'for every input the law returns true; each argument reads behind the call as it read before'; 0 by the template 'total and deterministic' (their statements: YtflkmjihgfjofaaDoorTotals.lean).
  GIVEN WITH THE SEED: the statements are not yours to turn. If you find one false, say at which input.
  Laid BY PROGRAM, IN A SANDBOX (cutbox-rows.mjs): the forced cells as the released guide's own fill.sh prints them over the translation 6646e19eace9d67a… (all of the seat's roots in one cut). By AI agents, Wed Nov 11 2026. No macro, syntax, notation, axiom, sorry.
-/
import Derived.Test.YtflkmjihgfjofaaDoorChecked
import GoSem.Claim
import GoSem.ClaimJoined
import GoSem.ClaimMapViews
import Derived.JoinedTies
import Derived.KernelRfl
namespace Go.Proofs.YtflkmjihgfjofaaDoor
/- THE CELL 'sum', in the pinned program and in every row, IS THE sha256 OF THE DUMP (.gsa) THAT YtflkmjihgfjofaaDoorProg.lean LOADS. Nothing in Lean hashes anything: it is a label: what it is worth is what the hold of that sum in a sandbox is worth. -/
noncomputable def Tryd.pinned : Pinned := { name := "ytflkmjihgfjofaadoor", sum := "6646e19eace9d67a946d624f3cc94ce969e2dd1b5780600cd320007da45d272b", checked := Tryd.checked }
namespace Rows
def none {H : Type} : Left H := { results := [], args := [] }

/- WHAT THE LISTED PACKAGE-LEVEL VARIABLES READ AS WHEN THE CALL BEGINS. Each datum BY PROGRAM (the guide's laid-datum.mjs) off the statement by which the dump's own 'gosem.cut.vars' lays the variable. In a bare row this is a premise. The card (YtflkmjihgfjofaaDoorCards.lean) ties it to the program's text. -/
def laid_math_bits_deBruijn64tab {H : Type} : DataW H := .agg [.lit (.int .u8 0), .lit (.int .u8 1), .lit (.int .u8 56), .lit (.int .u8 2), .lit (.int .u8 57), .lit (.int .u8 49), .lit (.int .u8 28), .lit (.int .u8 3), .lit (.int .u8 61), .lit (.int .u8 58), .lit (.int .u8 42), .lit (.int .u8 50), .lit (.int .u8 38), .lit (.int .u8 29), .lit (.int .u8 17), .lit (.int .u8 4), .lit (.int .u8 62), .lit (.int .u8 47), .lit (.int .u8 59), .lit (.int .u8 36), .lit (.int .u8 45), .lit (.int .u8 43), .lit (.int .u8 51), .lit (.int .u8 22), .lit (.int .u8 53), .lit (.int .u8 39), .lit (.int .u8 33), .lit (.int .u8 30), .lit (.int .u8 24), .lit (.int .u8 18), .lit (.int .u8 12), .lit (.int .u8 5), .lit (.int .u8 63), .lit (.int .u8 55), .lit (.int .u8 48), .lit (.int .u8 27), .lit (.int .u8 60), .lit (.int .u8 41), .lit (.int .u8 37), .lit (.int .u8 16), .lit (.int .u8 46), .lit (.int .u8 35), .lit (.int .u8 44), .lit (.int .u8 21), .lit (.int .u8 52), .lit (.int .u8 32), .lit (.int .u8 23), .lit (.int .u8 11), .lit (.int .u8 54), .lit (.int .u8 26), .lit (.int .u8 40), .lit (.int .u8 15), .lit (.int .u8 34), .lit (.int .u8 20), .lit (.int .u8 31), .lit (.int .u8 10), .lit (.int .u8 25), .lit (.int .u8 14), .lit (.int .u8 19), .lit (.int .u8 9), .lit (.int .u8 13), .lit (.int .u8 8), .lit (.int .u8 7), .lit (.int .u8 6)]
def laid_consistory_mod_witnesses {H : Type} : DataW H := .agg [.lit (.int .u64 2), .lit (.int .u64 3), .lit (.int .u64 5), .lit (.int .u64 7), .lit (.int .u64 11), .lit (.int .u64 13), .lit (.int .u64 17), .lit (.int .u64 19), .lit (.int .u64 23)]

/-- 'consistorylaw04.RankNames': WHATEVER THE INPUT: true; the input reads as it did. -/
def rankNamesSpec : ChangeSpec := { name := "rankNames", fn := fun _ => fun
  | [] => { results := [.lit (.bool true)], args := [] }
  | _ => none }
def rankNamesRow : OpenClaim := { program := "ytflkmjihgfjofaadoor", sum := "6646e19eace9d67a946d624f3cc94ce969e2dd1b5780600cd320007da45d272b", func := "consistory/consistorylaw04.RankNames", spec := "rankNames", named := ["consistory/mod.witnesses", "math/bits.deBruijn64tab", "math/bits.divideError", "math/bits.overflowError"], apart := false, laid := [("math/bits.deBruijn64tab", laid_math_bits_deBruijn64tab), ("consistory/mod.witnesses", laid_consistory_mod_witnesses)] }
def RankNamesSaid : Prop := rankNamesRow.holds Tryd.pinned (OpenSpec.ofChange rankNamesSpec)

/-- ITS FALSE NEIGHBOUR: 'it returns false'. Refute it at one input. -/
def rankNamesWrong : ChangeSpec := { name := "rankNames", fn := fun _ => fun
  | [] => { results := [.lit (.bool false)], args := [] }
  | _ => none }
def RankNamesWrongFalsely : Prop := rankNamesRow.holds Tryd.pinned (OpenSpec.ofChange rankNamesWrong)

/-- 'consistorylaw04.RankTells': WHATEVER THE INPUT: true; the input reads as it did. -/
def rankTellsSpec : ChangeSpec := { name := "rankTells", fn := fun _ => fun
  | [d1, d2, d3] => { results := [.lit (.bool true)], args := [d1, d2, d3] }
  | _ => none }
def rankTellsRow : OpenClaim := { program := "ytflkmjihgfjofaadoor", sum := "6646e19eace9d67a946d624f3cc94ce969e2dd1b5780600cd320007da45d272b", func := "consistory/consistorylaw04.RankTells", spec := "rankTells", recurses := true, named := ["consistory/mod.witnesses", "math/bits.deBruijn64tab", "math/bits.divideError", "math/bits.overflowError"], apart := false, laid := [("math/bits.deBruijn64tab", laid_math_bits_deBruijn64tab), ("consistory/mod.witnesses", laid_consistory_mod_witnesses)] }
def RankTellsSaid : Prop := rankTellsRow.holds Tryd.pinned (OpenSpec.ofChange rankTellsSpec)

/-- ITS FALSE NEIGHBOUR: 'it returns false'. Refute it at one input. -/
def rankTellsWrong : ChangeSpec := { name := "rankTells", fn := fun _ => fun
  | [d1, d2, d3] => { results := [.lit (.bool false)], args := [d1, d2, d3] }
  | _ => none }
def RankTellsWrongFalsely : Prop := rankTellsRow.holds Tryd.pinned (OpenSpec.ofChange rankTellsWrong)

/-- 'consistorylaw04.RankSolves': WHATEVER THE INPUT: true; the input reads as it did. -/
def rankSolvesSpec : ChangeSpec := { name := "rankSolves", fn := fun _ => fun
  | [d1, d2, d3] => { results := [.lit (.bool true)], args := [d1, d2, d3] }
  | _ => none }
def rankSolvesRow : OpenClaim := { program := "ytflkmjihgfjofaadoor", sum := "6646e19eace9d67a946d624f3cc94ce969e2dd1b5780600cd320007da45d272b", func := "consistory/consistorylaw04.RankSolves", spec := "rankSolves", recurses := true, named := ["consistory/mod.witnesses", "math/bits.deBruijn64tab", "math/bits.divideError", "math/bits.overflowError"], apart := false, laid := [("math/bits.deBruijn64tab", laid_math_bits_deBruijn64tab), ("consistory/mod.witnesses", laid_consistory_mod_witnesses)] }
def RankSolvesSaid : Prop := rankSolvesRow.holds Tryd.pinned (OpenSpec.ofChange rankSolvesSpec)

/-- ITS FALSE NEIGHBOUR: 'it returns false'. Refute it at one input. -/
def rankSolvesWrong : ChangeSpec := { name := "rankSolves", fn := fun _ => fun
  | [d1, d2, d3] => { results := [.lit (.bool false)], args := [d1, d2, d3] }
  | _ => none }
def RankSolvesWrongFalsely : Prop := rankSolvesRow.holds Tryd.pinned (OpenSpec.ofChange rankSolvesWrong)

/-- 'consistorylaw04.RankMore': WHATEVER THE INPUT: true; the input reads as it did. -/
def rankMoreSpec : ChangeSpec := { name := "rankMore", fn := fun _ => fun
  | [d1, d2, d3] => { results := [.lit (.bool true)], args := [d1, d2, d3] }
  | _ => none }
def rankMoreRow : OpenClaim := { program := "ytflkmjihgfjofaadoor", sum := "6646e19eace9d67a946d624f3cc94ce969e2dd1b5780600cd320007da45d272b", func := "consistory/consistorylaw04.RankMore", spec := "rankMore", named := ["consistory/mod.witnesses", "math/bits.deBruijn64tab", "math/bits.divideError", "math/bits.overflowError"], apart := false, laid := [("math/bits.deBruijn64tab", laid_math_bits_deBruijn64tab), ("consistory/mod.witnesses", laid_consistory_mod_witnesses)] }
def RankMoreSaid : Prop := rankMoreRow.holds Tryd.pinned (OpenSpec.ofChange rankMoreSpec)

/-- ITS FALSE NEIGHBOUR: 'it returns false'. Refute it at one input. -/
def rankMoreWrong : ChangeSpec := { name := "rankMore", fn := fun _ => fun
  | [d1, d2, d3] => { results := [.lit (.bool false)], args := [d1, d2, d3] }
  | _ => none }
def RankMoreWrongFalsely : Prop := rankMoreRow.holds Tryd.pinned (OpenSpec.ofChange rankMoreWrong)

/-- 'consistorylaw04.RankShared': WHATEVER THE INPUT: true; the input reads as it did. -/
def rankSharedSpec : ChangeSpec := { name := "rankShared", fn := fun _ => fun
  | [d1, d2, d3, d4] => { results := [.lit (.bool true)], args := [d1, d2, d3, d4] }
  | _ => none }
def rankSharedRow : OpenClaim := { program := "ytflkmjihgfjofaadoor", sum := "6646e19eace9d67a946d624f3cc94ce969e2dd1b5780600cd320007da45d272b", func := "consistory/consistorylaw04.RankShared", spec := "rankShared", named := ["consistory/mod.witnesses", "math/bits.deBruijn64tab", "math/bits.divideError", "math/bits.overflowError"], apart := false, laid := [("math/bits.deBruijn64tab", laid_math_bits_deBruijn64tab), ("consistory/mod.witnesses", laid_consistory_mod_witnesses)] }
def RankSharedSaid : Prop := rankSharedRow.holds Tryd.pinned (OpenSpec.ofChange rankSharedSpec)

/-- ITS FALSE NEIGHBOUR: 'it returns false'. Refute it at one input. -/
def rankSharedWrong : ChangeSpec := { name := "rankShared", fn := fun _ => fun
  | [d1, d2, d3, d4] => { results := [.lit (.bool false)], args := [d1, d2, d3, d4] }
  | _ => none }
def RankSharedWrongFalsely : Prop := rankSharedRow.holds Tryd.pinned (OpenSpec.ofChange rankSharedWrong)

/-- 'consistorylaw04.RankTurned': WHATEVER THE INPUT: true; the input reads as it did. -/
def rankTurnedSpec : ChangeSpec := { name := "rankTurned", fn := fun _ => fun
  | [d1, d2] => { results := [.lit (.bool true)], args := [d1, d2] }
  | _ => none }
def rankTurnedRow : OpenClaim := { program := "ytflkmjihgfjofaadoor", sum := "6646e19eace9d67a946d624f3cc94ce969e2dd1b5780600cd320007da45d272b", func := "consistory/consistorylaw04.RankTurned", spec := "rankTurned", named := ["consistory/mod.witnesses", "math/bits.deBruijn64tab", "math/bits.divideError", "math/bits.overflowError"], apart := false, laid := [("math/bits.deBruijn64tab", laid_math_bits_deBruijn64tab), ("consistory/mod.witnesses", laid_consistory_mod_witnesses)] }
def RankTurnedSaid : Prop := rankTurnedRow.holds Tryd.pinned (OpenSpec.ofChange rankTurnedSpec)

/-- ITS FALSE NEIGHBOUR: 'it returns false'. Refute it at one input. -/
def rankTurnedWrong : ChangeSpec := { name := "rankTurned", fn := fun _ => fun
  | [d1, d2] => { results := [.lit (.bool false)], args := [d1, d2] }
  | _ => none }
def RankTurnedWrongFalsely : Prop := rankTurnedRow.holds Tryd.pinned (OpenSpec.ofChange rankTurnedWrong)

/-- 'consistorylaw04.RankWays': WHATEVER THE INPUT: true; the input reads as it did. -/
def rankWaysSpec : ChangeSpec := { name := "rankWays", fn := fun _ => fun
  | [d1, d2, d3, d4, d5] => { results := [.lit (.bool true)], args := [d1, d2, d3, d4, d5] }
  | _ => none }
def rankWaysRow : OpenClaim := { program := "ytflkmjihgfjofaadoor", sum := "6646e19eace9d67a946d624f3cc94ce969e2dd1b5780600cd320007da45d272b", func := "consistory/consistorylaw04.RankWays", spec := "rankWays", named := ["consistory/mod.witnesses", "math/bits.deBruijn64tab", "math/bits.divideError", "math/bits.overflowError"], apart := false, laid := [("math/bits.deBruijn64tab", laid_math_bits_deBruijn64tab), ("consistory/mod.witnesses", laid_consistory_mod_witnesses)] }
def RankWaysSaid : Prop := rankWaysRow.holds Tryd.pinned (OpenSpec.ofChange rankWaysSpec)

/-- ITS FALSE NEIGHBOUR: 'it returns false'. Refute it at one input. -/
def rankWaysWrong : ChangeSpec := { name := "rankWays", fn := fun _ => fun
  | [d1, d2, d3, d4, d5] => { results := [.lit (.bool false)], args := [d1, d2, d3, d4, d5] }
  | _ => none }
def RankWaysWrongFalsely : Prop := rankWaysRow.holds Tryd.pinned (OpenSpec.ofChange rankWaysWrong)

/-- 'consistorylaw04.RankSolved': WHATEVER THE INPUT: true; the input reads as it did. -/
def rankSolvedSpec : ChangeSpec := { name := "rankSolved", fn := fun _ => fun
  | [d1, d2, d3, d4] => { results := [.lit (.bool true)], args := [d1, d2, d3, d4] }
  | _ => none }
def rankSolvedRow : OpenClaim := { program := "ytflkmjihgfjofaadoor", sum := "6646e19eace9d67a946d624f3cc94ce969e2dd1b5780600cd320007da45d272b", func := "consistory/consistorylaw04.RankSolved", spec := "rankSolved", named := ["consistory/mod.witnesses", "math/bits.deBruijn64tab", "math/bits.divideError", "math/bits.overflowError"], apart := false, laid := [("math/bits.deBruijn64tab", laid_math_bits_deBruijn64tab), ("consistory/mod.witnesses", laid_consistory_mod_witnesses)] }
def RankSolvedSaid : Prop := rankSolvedRow.holds Tryd.pinned (OpenSpec.ofChange rankSolvedSpec)

/-- ITS FALSE NEIGHBOUR: 'it returns false'. Refute it at one input. -/
def rankSolvedWrong : ChangeSpec := { name := "rankSolved", fn := fun _ => fun
  | [d1, d2, d3, d4] => { results := [.lit (.bool false)], args := [d1, d2, d3, d4] }
  | _ => none }
def RankSolvedWrongFalsely : Prop := rankSolvedRow.holds Tryd.pinned (OpenSpec.ofChange rankSolvedWrong)

/- THE SECOND FORM. 'bulk': how many values and letters a reading holds, each counted each time it is reached (what is shared counts as often as it is met; a slice's spare places count too). A statement '..UptoSaid' is the law's where the arguments, and the package variables that the reading takes, are together of bulk at most 1048576: NARROWER than '..Said'. Prove '..Said' where nothing that the law and all that it calls make is longer than what came in: it says more and counts as full. Else prove '..UptoSaid'. A law counts once. -/
mutual
def uptoBulk {H : Type} : DataW H → Nat
  | .lit (.string bytes) => bytes.length + 1
  | .lit _ => 1
  | .nil => 1
  | .ptr d => uptoBulk d + 1
  | .slice elems spare => uptoBulkAll elems + uptoBulkAll spare + 1
  | .agg parts => uptoBulkAll parts + 1
  | .iface _ d => uptoBulk d + 1
  | .map entries => uptoBulkEntries entries + 1
  | .held _ => 1
def uptoBulkAll {H : Type} : List (DataW H) → Nat
  | [] => 0
  | d :: r => uptoBulk d + uptoBulkAll r
def uptoBulkEntries {H : Type} : List (Lit × DataW H) → Nat
  | [] => 0
  | x :: r => uptoBulkEntry x + uptoBulkEntries r
def uptoBulkEntry {H : Type} : Lit × DataW H → Nat
  | (.string bytes, d) => bytes.length + uptoBulk d + 1
  | (_, d) => uptoBulk d + 1
 end
def uptoSmall : (H : Type) → List (DataW H) → Bool := fun _ ds => decide (uptoBulkAll ds ≤ 1048576)
def OpenSpec.upto (s : _root_.Go.ChangeSpec) : _root_.Go.OpenSpec := { _root_.Go.OpenSpec.ofChange s with cond := some uptoSmall }

/-- 'consistorylaw04.RankNames', WHERE WHAT IT READS IS OF BULK AT MOST 1048576: true; the input reads as it did. -/
def rankNamesUptoRow : OpenClaim := { program := "ytflkmjihgfjofaadoor", sum := "6646e19eace9d67a946d624f3cc94ce969e2dd1b5780600cd320007da45d272b", func := "consistory/consistorylaw04.RankNames", spec := "rankNames", named := ["consistory/mod.witnesses", "math/bits.deBruijn64tab", "math/bits.divideError", "math/bits.overflowError"], apart := false, laid := [("math/bits.deBruijn64tab", laid_math_bits_deBruijn64tab), ("consistory/mod.witnesses", laid_consistory_mod_witnesses)], narrowed := true }
def RankNamesUptoSaid : Prop := rankNamesUptoRow.holds Tryd.pinned (OpenSpec.upto rankNamesSpec)

/-- 'consistorylaw04.RankTells', WHERE WHAT IT READS IS OF BULK AT MOST 1048576: true; the input reads as it did. -/
def rankTellsUptoRow : OpenClaim := { program := "ytflkmjihgfjofaadoor", sum := "6646e19eace9d67a946d624f3cc94ce969e2dd1b5780600cd320007da45d272b", func := "consistory/consistorylaw04.RankTells", spec := "rankTells", recurses := true, named := ["consistory/mod.witnesses", "math/bits.deBruijn64tab", "math/bits.divideError", "math/bits.overflowError"], apart := false, laid := [("math/bits.deBruijn64tab", laid_math_bits_deBruijn64tab), ("consistory/mod.witnesses", laid_consistory_mod_witnesses)], narrowed := true }
def RankTellsUptoSaid : Prop := rankTellsUptoRow.holds Tryd.pinned (OpenSpec.upto rankTellsSpec)

/-- 'consistorylaw04.RankSolves', WHERE WHAT IT READS IS OF BULK AT MOST 1048576: true; the input reads as it did. -/
def rankSolvesUptoRow : OpenClaim := { program := "ytflkmjihgfjofaadoor", sum := "6646e19eace9d67a946d624f3cc94ce969e2dd1b5780600cd320007da45d272b", func := "consistory/consistorylaw04.RankSolves", spec := "rankSolves", recurses := true, named := ["consistory/mod.witnesses", "math/bits.deBruijn64tab", "math/bits.divideError", "math/bits.overflowError"], apart := false, laid := [("math/bits.deBruijn64tab", laid_math_bits_deBruijn64tab), ("consistory/mod.witnesses", laid_consistory_mod_witnesses)], narrowed := true }
def RankSolvesUptoSaid : Prop := rankSolvesUptoRow.holds Tryd.pinned (OpenSpec.upto rankSolvesSpec)

/-- 'consistorylaw04.RankMore', WHERE WHAT IT READS IS OF BULK AT MOST 1048576: true; the input reads as it did. -/
def rankMoreUptoRow : OpenClaim := { program := "ytflkmjihgfjofaadoor", sum := "6646e19eace9d67a946d624f3cc94ce969e2dd1b5780600cd320007da45d272b", func := "consistory/consistorylaw04.RankMore", spec := "rankMore", named := ["consistory/mod.witnesses", "math/bits.deBruijn64tab", "math/bits.divideError", "math/bits.overflowError"], apart := false, laid := [("math/bits.deBruijn64tab", laid_math_bits_deBruijn64tab), ("consistory/mod.witnesses", laid_consistory_mod_witnesses)], narrowed := true }
def RankMoreUptoSaid : Prop := rankMoreUptoRow.holds Tryd.pinned (OpenSpec.upto rankMoreSpec)

/-- 'consistorylaw04.RankShared', WHERE WHAT IT READS IS OF BULK AT MOST 1048576: true; the input reads as it did. -/
def rankSharedUptoRow : OpenClaim := { program := "ytflkmjihgfjofaadoor", sum := "6646e19eace9d67a946d624f3cc94ce969e2dd1b5780600cd320007da45d272b", func := "consistory/consistorylaw04.RankShared", spec := "rankShared", named := ["consistory/mod.witnesses", "math/bits.deBruijn64tab", "math/bits.divideError", "math/bits.overflowError"], apart := false, laid := [("math/bits.deBruijn64tab", laid_math_bits_deBruijn64tab), ("consistory/mod.witnesses", laid_consistory_mod_witnesses)], narrowed := true }
def RankSharedUptoSaid : Prop := rankSharedUptoRow.holds Tryd.pinned (OpenSpec.upto rankSharedSpec)

/-- 'consistorylaw04.RankTurned', WHERE WHAT IT READS IS OF BULK AT MOST 1048576: true; the input reads as it did. -/
def rankTurnedUptoRow : OpenClaim := { program := "ytflkmjihgfjofaadoor", sum := "6646e19eace9d67a946d624f3cc94ce969e2dd1b5780600cd320007da45d272b", func := "consistory/consistorylaw04.RankTurned", spec := "rankTurned", named := ["consistory/mod.witnesses", "math/bits.deBruijn64tab", "math/bits.divideError", "math/bits.overflowError"], apart := false, laid := [("math/bits.deBruijn64tab", laid_math_bits_deBruijn64tab), ("consistory/mod.witnesses", laid_consistory_mod_witnesses)], narrowed := true }
def RankTurnedUptoSaid : Prop := rankTurnedUptoRow.holds Tryd.pinned (OpenSpec.upto rankTurnedSpec)

/-- 'consistorylaw04.RankWays', WHERE WHAT IT READS IS OF BULK AT MOST 1048576: true; the input reads as it did. -/
def rankWaysUptoRow : OpenClaim := { program := "ytflkmjihgfjofaadoor", sum := "6646e19eace9d67a946d624f3cc94ce969e2dd1b5780600cd320007da45d272b", func := "consistory/consistorylaw04.RankWays", spec := "rankWays", named := ["consistory/mod.witnesses", "math/bits.deBruijn64tab", "math/bits.divideError", "math/bits.overflowError"], apart := false, laid := [("math/bits.deBruijn64tab", laid_math_bits_deBruijn64tab), ("consistory/mod.witnesses", laid_consistory_mod_witnesses)], narrowed := true }
def RankWaysUptoSaid : Prop := rankWaysUptoRow.holds Tryd.pinned (OpenSpec.upto rankWaysSpec)

/-- 'consistorylaw04.RankSolved', WHERE WHAT IT READS IS OF BULK AT MOST 1048576: true; the input reads as it did. -/
def rankSolvedUptoRow : OpenClaim := { program := "ytflkmjihgfjofaadoor", sum := "6646e19eace9d67a946d624f3cc94ce969e2dd1b5780600cd320007da45d272b", func := "consistory/consistorylaw04.RankSolved", spec := "rankSolved", named := ["consistory/mod.witnesses", "math/bits.deBruijn64tab", "math/bits.divideError", "math/bits.overflowError"], apart := false, laid := [("math/bits.deBruijn64tab", laid_math_bits_deBruijn64tab), ("consistory/mod.witnesses", laid_consistory_mod_witnesses)], narrowed := true }
def RankSolvedUptoSaid : Prop := rankSolvedUptoRow.holds Tryd.pinned (OpenSpec.upto rankSolvedSpec)

end Rows
end Go.Proofs.YtflkmjihgfjofaaDoor
