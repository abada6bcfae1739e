/-
  NARROWER THAN 'FOR EVERY INPUT', by the rows' own cells (each row's printed sentence says how): ModNames: laid · ModTells: laid · ModPrime: laid · ModRing: laid · ModPowers: laid · ModInverse: laid · ModFermat: laid · ModPrimes: laid.
  DERIVED. THE GIVEN ROWS OF THIS SEAT. 8 by the template 'for every input the law returns true; each argument reads behind the call as it read before'; 0 by the template 'total and deterministic' (their statements: YtojekblcdokjjaaDoorTotals.lean).
  GIVEN WITH THE SEED: the statements are not yours to turn. If you find one false, say at which input.
  Laid BY PROGRAM, IN A SANDBOX (cutbox-rows.mjs): the forced cells as the released guide's own fill.sh prints them over the translation 7e97e581a0bc7045… (all of the seat's roots in one cut). By AI agents, Wed Nov 11 2026. No macro, syntax, notation, axiom, sorry.
-/
import Derived.Test.YtojekblcdokjjaaDoorChecked
import GoSem.Claim
import GoSem.ClaimJoined
import GoSem.ClaimMapViews
import Derived.JoinedTies
import Derived.KernelRfl
namespace Go.Proofs.YtojekblcdokjjaaDoor
/- THE CELL 'sum', in the pinned program and in every row, IS THE sha256 OF THE DUMP (.gsa) THAT YtojekblcdokjjaaDoorProg.lean LOADS. Nothing in Lean hashes anything: it is a label: what it is worth is what the hold of that sum in a sandbox is worth. -/
noncomputable def Tryd.pinned : Pinned := { name := "ytojekblcdokjjaadoor", sum := "7e97e581a0bc70451d31c29566679f7f409ce4bdc82ec380b8cd9309a2e727aa", checked := Tryd.checked }
namespace Rows
def none {H : Type} : Left H := { results := [], args := [] }

/- WHAT THE LISTED PACKAGE-LEVEL VARIABLES READ AS WHEN THE CALL BEGINS. Each datum BY PROGRAM (the guide's laid-datum.mjs) off the statement by which the dump's own 'gosem.cut.vars' lays the variable. In a bare row this is a premise. The card (YtojekblcdokjjaaDoorCards.lean) ties it to the program's text. -/
def laid_math_bits_deBruijn64tab {H : Type} : DataW H := .agg [.lit (.int .u8 0), .lit (.int .u8 1), .lit (.int .u8 56), .lit (.int .u8 2), .lit (.int .u8 57), .lit (.int .u8 49), .lit (.int .u8 28), .lit (.int .u8 3), .lit (.int .u8 61), .lit (.int .u8 58), .lit (.int .u8 42), .lit (.int .u8 50), .lit (.int .u8 38), .lit (.int .u8 29), .lit (.int .u8 17), .lit (.int .u8 4), .lit (.int .u8 62), .lit (.int .u8 47), .lit (.int .u8 59), .lit (.int .u8 36), .lit (.int .u8 45), .lit (.int .u8 43), .lit (.int .u8 51), .lit (.int .u8 22), .lit (.int .u8 53), .lit (.int .u8 39), .lit (.int .u8 33), .lit (.int .u8 30), .lit (.int .u8 24), .lit (.int .u8 18), .lit (.int .u8 12), .lit (.int .u8 5), .lit (.int .u8 63), .lit (.int .u8 55), .lit (.int .u8 48), .lit (.int .u8 27), .lit (.int .u8 60), .lit (.int .u8 41), .lit (.int .u8 37), .lit (.int .u8 16), .lit (.int .u8 46), .lit (.int .u8 35), .lit (.int .u8 44), .lit (.int .u8 21), .lit (.int .u8 52), .lit (.int .u8 32), .lit (.int .u8 23), .lit (.int .u8 11), .lit (.int .u8 54), .lit (.int .u8 26), .lit (.int .u8 40), .lit (.int .u8 15), .lit (.int .u8 34), .lit (.int .u8 20), .lit (.int .u8 31), .lit (.int .u8 10), .lit (.int .u8 25), .lit (.int .u8 14), .lit (.int .u8 19), .lit (.int .u8 9), .lit (.int .u8 13), .lit (.int .u8 8), .lit (.int .u8 7), .lit (.int .u8 6)]
def laid_consistory_mod_witnesses {H : Type} : DataW H := .agg [.lit (.int .u64 2), .lit (.int .u64 3), .lit (.int .u64 5), .lit (.int .u64 7), .lit (.int .u64 11), .lit (.int .u64 13), .lit (.int .u64 17), .lit (.int .u64 19), .lit (.int .u64 23)]

/-- 'consistorylaw01.ModNames': WHATEVER THE INPUT: true; the input reads as it did. -/
def modNamesSpec : ChangeSpec := { name := "modNames", fn := fun _ => fun
  | [] => { results := [.lit (.bool true)], args := [] }
  | _ => none }
def modNamesRow : OpenClaim := { program := "ytojekblcdokjjaadoor", sum := "7e97e581a0bc70451d31c29566679f7f409ce4bdc82ec380b8cd9309a2e727aa", func := "consistory/consistorylaw01.ModNames", spec := "modNames", named := ["math/bits.divideError", "math/bits.overflowError", "consistory/mod.witnesses", "math/bits.deBruijn64tab"], apart := false, laid := [("math/bits.deBruijn64tab", laid_math_bits_deBruijn64tab), ("consistory/mod.witnesses", laid_consistory_mod_witnesses)] }
def ModNamesSaid : Prop := modNamesRow.holds Tryd.pinned (OpenSpec.ofChange modNamesSpec)

/-- ITS FALSE NEIGHBOUR: 'it returns false'. Refute it at one input. -/
def modNamesWrong : ChangeSpec := { name := "modNames", fn := fun _ => fun
  | [] => { results := [.lit (.bool false)], args := [] }
  | _ => none }
def ModNamesWrongFalsely : Prop := modNamesRow.holds Tryd.pinned (OpenSpec.ofChange modNamesWrong)

/-- 'consistorylaw01.ModTells': WHATEVER THE INPUT: true; the input reads as it did. -/
def modTellsSpec : ChangeSpec := { name := "modTells", fn := fun _ => fun
  | [d1, d2, d3, d4] => { results := [.lit (.bool true)], args := [d1, d2, d3, d4] }
  | _ => none }
def modTellsRow : OpenClaim := { program := "ytojekblcdokjjaadoor", sum := "7e97e581a0bc70451d31c29566679f7f409ce4bdc82ec380b8cd9309a2e727aa", func := "consistory/consistorylaw01.ModTells", spec := "modTells", recurses := true, named := ["math/bits.divideError", "math/bits.overflowError", "consistory/mod.witnesses", "math/bits.deBruijn64tab"], apart := false, laid := [("math/bits.deBruijn64tab", laid_math_bits_deBruijn64tab), ("consistory/mod.witnesses", laid_consistory_mod_witnesses)] }
def ModTellsSaid : Prop := modTellsRow.holds Tryd.pinned (OpenSpec.ofChange modTellsSpec)

/-- ITS FALSE NEIGHBOUR: 'it returns false'. Refute it at one input. -/
def modTellsWrong : ChangeSpec := { name := "modTells", fn := fun _ => fun
  | [d1, d2, d3, d4] => { results := [.lit (.bool false)], args := [d1, d2, d3, d4] }
  | _ => none }
def ModTellsWrongFalsely : Prop := modTellsRow.holds Tryd.pinned (OpenSpec.ofChange modTellsWrong)

/-- 'consistorylaw01.ModPrime': WHATEVER THE INPUT: true; the input reads as it did. -/
def modPrimeSpec : ChangeSpec := { name := "modPrime", fn := fun _ => fun
  | [d] => { results := [.lit (.bool true)], args := [d] }
  | _ => none }
def modPrimeRow : OpenClaim := { program := "ytojekblcdokjjaadoor", sum := "7e97e581a0bc70451d31c29566679f7f409ce4bdc82ec380b8cd9309a2e727aa", func := "consistory/consistorylaw01.ModPrime", spec := "modPrime", recurses := true, named := ["consistory/mod.witnesses", "math/bits.deBruijn64tab", "math/bits.divideError", "math/bits.overflowError"], apart := false, laid := [("math/bits.deBruijn64tab", laid_math_bits_deBruijn64tab), ("consistory/mod.witnesses", laid_consistory_mod_witnesses)] }
def ModPrimeSaid : Prop := modPrimeRow.holds Tryd.pinned (OpenSpec.ofChange modPrimeSpec)

/-- ITS FALSE NEIGHBOUR: 'it returns false'. Refute it at one input. -/
def modPrimeWrong : ChangeSpec := { name := "modPrime", fn := fun _ => fun
  | [d] => { results := [.lit (.bool false)], args := [d] }
  | _ => none }
def ModPrimeWrongFalsely : Prop := modPrimeRow.holds Tryd.pinned (OpenSpec.ofChange modPrimeWrong)

/-- 'consistorylaw01.ModRing': WHATEVER THE INPUT: true; the input reads as it did. -/
def modRingSpec : ChangeSpec := { name := "modRing", fn := fun _ => fun
  | [d1, d2, d3, d4] => { results := [.lit (.bool true)], args := [d1, d2, d3, d4] }
  | _ => none }
def modRingRow : OpenClaim := { program := "ytojekblcdokjjaadoor", sum := "7e97e581a0bc70451d31c29566679f7f409ce4bdc82ec380b8cd9309a2e727aa", func := "consistory/consistorylaw01.ModRing", spec := "modRing", named := ["math/bits.divideError", "math/bits.overflowError", "consistory/mod.witnesses", "math/bits.deBruijn64tab"], apart := false, laid := [("math/bits.deBruijn64tab", laid_math_bits_deBruijn64tab), ("consistory/mod.witnesses", laid_consistory_mod_witnesses)] }
def ModRingSaid : Prop := modRingRow.holds Tryd.pinned (OpenSpec.ofChange modRingSpec)

/-- ITS FALSE NEIGHBOUR: 'it returns false'. Refute it at one input. -/
def modRingWrong : ChangeSpec := { name := "modRing", fn := fun _ => fun
  | [d1, d2, d3, d4] => { results := [.lit (.bool false)], args := [d1, d2, d3, d4] }
  | _ => none }
def ModRingWrongFalsely : Prop := modRingRow.holds Tryd.pinned (OpenSpec.ofChange modRingWrong)

/-- 'consistorylaw01.ModPowers': WHATEVER THE INPUT: true; the input reads as it did. -/
def modPowersSpec : ChangeSpec := { name := "modPowers", fn := fun _ => fun
  | [d1, d2, d3, d4, d5] => { results := [.lit (.bool true)], args := [d1, d2, d3, d4, d5] }
  | _ => none }
def modPowersRow : OpenClaim := { program := "ytojekblcdokjjaadoor", sum := "7e97e581a0bc70451d31c29566679f7f409ce4bdc82ec380b8cd9309a2e727aa", func := "consistory/consistorylaw01.ModPowers", spec := "modPowers", named := ["math/bits.divideError", "math/bits.overflowError", "consistory/mod.witnesses", "math/bits.deBruijn64tab"], apart := false, laid := [("math/bits.deBruijn64tab", laid_math_bits_deBruijn64tab), ("consistory/mod.witnesses", laid_consistory_mod_witnesses)] }
def ModPowersSaid : Prop := modPowersRow.holds Tryd.pinned (OpenSpec.ofChange modPowersSpec)

/-- ITS FALSE NEIGHBOUR: 'it returns false'. Refute it at one input. -/
def modPowersWrong : ChangeSpec := { name := "modPowers", fn := fun _ => fun
  | [d1, d2, d3, d4, d5] => { results := [.lit (.bool false)], args := [d1, d2, d3, d4, d5] }
  | _ => none }
def ModPowersWrongFalsely : Prop := modPowersRow.holds Tryd.pinned (OpenSpec.ofChange modPowersWrong)

/-- 'consistorylaw01.ModInverse': WHATEVER THE INPUT: true; the input reads as it did. -/
def modInverseSpec : ChangeSpec := { name := "modInverse", fn := fun _ => fun
  | [d1, d2, d3] => { results := [.lit (.bool true)], args := [d1, d2, d3] }
  | _ => none }
def modInverseRow : OpenClaim := { program := "ytojekblcdokjjaadoor", sum := "7e97e581a0bc70451d31c29566679f7f409ce4bdc82ec380b8cd9309a2e727aa", func := "consistory/consistorylaw01.ModInverse", spec := "modInverse", named := ["math/bits.divideError", "math/bits.overflowError", "consistory/mod.witnesses", "math/bits.deBruijn64tab"], apart := false, laid := [("math/bits.deBruijn64tab", laid_math_bits_deBruijn64tab), ("consistory/mod.witnesses", laid_consistory_mod_witnesses)] }
def ModInverseSaid : Prop := modInverseRow.holds Tryd.pinned (OpenSpec.ofChange modInverseSpec)

/-- ITS FALSE NEIGHBOUR: 'it returns false'. Refute it at one input. -/
def modInverseWrong : ChangeSpec := { name := "modInverse", fn := fun _ => fun
  | [d1, d2, d3] => { results := [.lit (.bool false)], args := [d1, d2, d3] }
  | _ => none }
def ModInverseWrongFalsely : Prop := modInverseRow.holds Tryd.pinned (OpenSpec.ofChange modInverseWrong)

/-- 'consistorylaw01.ModFermat': WHATEVER THE INPUT: true; the input reads as it did. -/
def modFermatSpec : ChangeSpec := { name := "modFermat", fn := fun _ => fun
  | [d1, d2] => { results := [.lit (.bool true)], args := [d1, d2] }
  | _ => none }
def modFermatRow : OpenClaim := { program := "ytojekblcdokjjaadoor", sum := "7e97e581a0bc70451d31c29566679f7f409ce4bdc82ec380b8cd9309a2e727aa", func := "consistory/consistorylaw01.ModFermat", spec := "modFermat", named := ["math/bits.divideError", "math/bits.overflowError", "consistory/mod.witnesses", "math/bits.deBruijn64tab"], apart := false, laid := [("math/bits.deBruijn64tab", laid_math_bits_deBruijn64tab), ("consistory/mod.witnesses", laid_consistory_mod_witnesses)] }
def ModFermatSaid : Prop := modFermatRow.holds Tryd.pinned (OpenSpec.ofChange modFermatSpec)

/-- ITS FALSE NEIGHBOUR: 'it returns false'. Refute it at one input. -/
def modFermatWrong : ChangeSpec := { name := "modFermat", fn := fun _ => fun
  | [d1, d2] => { results := [.lit (.bool false)], args := [d1, d2] }
  | _ => none }
def ModFermatWrongFalsely : Prop := modFermatRow.holds Tryd.pinned (OpenSpec.ofChange modFermatWrong)

/-- 'consistorylaw01.ModPrimes': WHATEVER THE INPUT: true; the input reads as it did. -/
def modPrimesSpec : ChangeSpec := { name := "modPrimes", fn := fun _ => fun
  | [d1, d2, d3, d4] => { results := [.lit (.bool true)], args := [d1, d2, d3, d4] }
  | _ => none }
def modPrimesRow : OpenClaim := { program := "ytojekblcdokjjaadoor", sum := "7e97e581a0bc70451d31c29566679f7f409ce4bdc82ec380b8cd9309a2e727aa", func := "consistory/consistorylaw01.ModPrimes", spec := "modPrimes", named := ["math/bits.divideError", "math/bits.overflowError", "consistory/mod.witnesses", "math/bits.deBruijn64tab"], apart := false, laid := [("math/bits.deBruijn64tab", laid_math_bits_deBruijn64tab), ("consistory/mod.witnesses", laid_consistory_mod_witnesses)] }
def ModPrimesSaid : Prop := modPrimesRow.holds Tryd.pinned (OpenSpec.ofChange modPrimesSpec)

/-- ITS FALSE NEIGHBOUR: 'it returns false'. Refute it at one input. -/
def modPrimesWrong : ChangeSpec := { name := "modPrimes", fn := fun _ => fun
  | [d1, d2, d3, d4] => { results := [.lit (.bool false)], args := [d1, d2, d3, d4] }
  | _ => none }
def ModPrimesWrongFalsely : Prop := modPrimesRow.holds Tryd.pinned (OpenSpec.ofChange modPrimesWrong)

/- THE SECOND FORM. 'bulk': how many values and letters a reading holds, each counted each time it is reached (what is shared counts as often as it is met; a slice's spare places count too). A statement '..UptoSaid' is the law's where the arguments, and the package variables that the reading takes, are together of bulk at most 1048576: NARROWER than '..Said'. Prove '..Said' where nothing that the law and all that it calls make is longer than what came in: it says more and counts as full. Else prove '..UptoSaid'. A law counts once. -/
mutual
def uptoBulk {H : Type} : DataW H → Nat
  | .lit (.string bytes) => bytes.length + 1
  | .lit _ => 1
  | .nil => 1
  | .ptr d => uptoBulk d + 1
  | .slice elems spare => uptoBulkAll elems + uptoBulkAll spare + 1
  | .agg parts => uptoBulkAll parts + 1
  | .iface _ d => uptoBulk d + 1
  | .map entries => uptoBulkEntries entries + 1
  | .held _ => 1
def uptoBulkAll {H : Type} : List (DataW H) → Nat
  | [] => 0
  | d :: r => uptoBulk d + uptoBulkAll r
def uptoBulkEntries {H : Type} : List (Lit × DataW H) → Nat
  | [] => 0
  | x :: r => uptoBulkEntry x + uptoBulkEntries r
def uptoBulkEntry {H : Type} : Lit × DataW H → Nat
  | (.string bytes, d) => bytes.length + uptoBulk d + 1
  | (_, d) => uptoBulk d + 1
 end
def uptoSmall : (H : Type) → List (DataW H) → Bool := fun _ ds => decide (uptoBulkAll ds ≤ 1048576)
def OpenSpec.upto (s : _root_.Go.ChangeSpec) : _root_.Go.OpenSpec := { _root_.Go.OpenSpec.ofChange s with cond := some uptoSmall }

/-- 'consistorylaw01.ModNames', WHERE WHAT IT READS IS OF BULK AT MOST 1048576: true; the input reads as it did. -/
def modNamesUptoRow : OpenClaim := { program := "ytojekblcdokjjaadoor", sum := "7e97e581a0bc70451d31c29566679f7f409ce4bdc82ec380b8cd9309a2e727aa", func := "consistory/consistorylaw01.ModNames", spec := "modNames", named := ["math/bits.divideError", "math/bits.overflowError", "consistory/mod.witnesses", "math/bits.deBruijn64tab"], apart := false, laid := [("math/bits.deBruijn64tab", laid_math_bits_deBruijn64tab), ("consistory/mod.witnesses", laid_consistory_mod_witnesses)], narrowed := true }
def ModNamesUptoSaid : Prop := modNamesUptoRow.holds Tryd.pinned (OpenSpec.upto modNamesSpec)

/-- 'consistorylaw01.ModTells', WHERE WHAT IT READS IS OF BULK AT MOST 1048576: true; the input reads as it did. -/
def modTellsUptoRow : OpenClaim := { program := "ytojekblcdokjjaadoor", sum := "7e97e581a0bc70451d31c29566679f7f409ce4bdc82ec380b8cd9309a2e727aa", func := "consistory/consistorylaw01.ModTells", spec := "modTells", recurses := true, named := ["math/bits.divideError", "math/bits.overflowError", "consistory/mod.witnesses", "math/bits.deBruijn64tab"], apart := false, laid := [("math/bits.deBruijn64tab", laid_math_bits_deBruijn64tab), ("consistory/mod.witnesses", laid_consistory_mod_witnesses)], narrowed := true }
def ModTellsUptoSaid : Prop := modTellsUptoRow.holds Tryd.pinned (OpenSpec.upto modTellsSpec)

/-- 'consistorylaw01.ModPrime', WHERE WHAT IT READS IS OF BULK AT MOST 1048576: true; the input reads as it did. -/
def modPrimeUptoRow : OpenClaim := { program := "ytojekblcdokjjaadoor", sum := "7e97e581a0bc70451d31c29566679f7f409ce4bdc82ec380b8cd9309a2e727aa", func := "consistory/consistorylaw01.ModPrime", spec := "modPrime", recurses := true, named := ["consistory/mod.witnesses", "math/bits.deBruijn64tab", "math/bits.divideError", "math/bits.overflowError"], apart := false, laid := [("math/bits.deBruijn64tab", laid_math_bits_deBruijn64tab), ("consistory/mod.witnesses", laid_consistory_mod_witnesses)], narrowed := true }
def ModPrimeUptoSaid : Prop := modPrimeUptoRow.holds Tryd.pinned (OpenSpec.upto modPrimeSpec)

/-- 'consistorylaw01.ModRing', WHERE WHAT IT READS IS OF BULK AT MOST 1048576: true; the input reads as it did. -/
def modRingUptoRow : OpenClaim := { program := "ytojekblcdokjjaadoor", sum := "7e97e581a0bc70451d31c29566679f7f409ce4bdc82ec380b8cd9309a2e727aa", func := "consistory/consistorylaw01.ModRing", spec := "modRing", named := ["math/bits.divideError", "math/bits.overflowError", "consistory/mod.witnesses", "math/bits.deBruijn64tab"], apart := false, laid := [("math/bits.deBruijn64tab", laid_math_bits_deBruijn64tab), ("consistory/mod.witnesses", laid_consistory_mod_witnesses)], narrowed := true }
def ModRingUptoSaid : Prop := modRingUptoRow.holds Tryd.pinned (OpenSpec.upto modRingSpec)

/-- 'consistorylaw01.ModPowers', WHERE WHAT IT READS IS OF BULK AT MOST 1048576: true; the input reads as it did. -/
def modPowersUptoRow : OpenClaim := { program := "ytojekblcdokjjaadoor", sum := "7e97e581a0bc70451d31c29566679f7f409ce4bdc82ec380b8cd9309a2e727aa", func := "consistory/consistorylaw01.ModPowers", spec := "modPowers", named := ["math/bits.divideError", "math/bits.overflowError", "consistory/mod.witnesses", "math/bits.deBruijn64tab"], apart := false, laid := [("math/bits.deBruijn64tab", laid_math_bits_deBruijn64tab), ("consistory/mod.witnesses", laid_consistory_mod_witnesses)], narrowed := true }
def ModPowersUptoSaid : Prop := modPowersUptoRow.holds Tryd.pinned (OpenSpec.upto modPowersSpec)

/-- 'consistorylaw01.ModInverse', WHERE WHAT IT READS IS OF BULK AT MOST 1048576: true; the input reads as it did. -/
def modInverseUptoRow : OpenClaim := { program := "ytojekblcdokjjaadoor", sum := "7e97e581a0bc70451d31c29566679f7f409ce4bdc82ec380b8cd9309a2e727aa", func := "consistory/consistorylaw01.ModInverse", spec := "modInverse", named := ["math/bits.divideError", "math/bits.overflowError", "consistory/mod.witnesses", "math/bits.deBruijn64tab"], apart := false, laid := [("math/bits.deBruijn64tab", laid_math_bits_deBruijn64tab), ("consistory/mod.witnesses", laid_consistory_mod_witnesses)], narrowed := true }
def ModInverseUptoSaid : Prop := modInverseUptoRow.holds Tryd.pinned (OpenSpec.upto modInverseSpec)

/-- 'consistorylaw01.ModFermat', WHERE WHAT IT READS IS OF BULK AT MOST 1048576: true; the input reads as it did. -/
def modFermatUptoRow : OpenClaim := { program := "ytojekblcdokjjaadoor", sum := "7e97e581a0bc70451d31c29566679f7f409ce4bdc82ec380b8cd9309a2e727aa", func := "consistory/consistorylaw01.ModFermat", spec := "modFermat", named := ["math/bits.divideError", "math/bits.overflowError", "consistory/mod.witnesses", "math/bits.deBruijn64tab"], apart := false, laid := [("math/bits.deBruijn64tab", laid_math_bits_deBruijn64tab), ("consistory/mod.witnesses", laid_consistory_mod_witnesses)], narrowed := true }
def ModFermatUptoSaid : Prop := modFermatUptoRow.holds Tryd.pinned (OpenSpec.upto modFermatSpec)

/-- 'consistorylaw01.ModPrimes', WHERE WHAT IT READS IS OF BULK AT MOST 1048576: true; the input reads as it did. -/
def modPrimesUptoRow : OpenClaim := { program := "ytojekblcdokjjaadoor", sum := "7e97e581a0bc70451d31c29566679f7f409ce4bdc82ec380b8cd9309a2e727aa", func := "consistory/consistorylaw01.ModPrimes", spec := "modPrimes", named := ["math/bits.divideError", "math/bits.overflowError", "consistory/mod.witnesses", "math/bits.deBruijn64tab"], apart := false, laid := [("math/bits.deBruijn64tab", laid_math_bits_deBruijn64tab), ("consistory/mod.witnesses", laid_consistory_mod_witnesses)], narrowed := true }
def ModPrimesUptoSaid : Prop := modPrimesUptoRow.holds Tryd.pinned (OpenSpec.upto modPrimesSpec)

end Rows
end Go.Proofs.YtojekblcdokjjaaDoor
