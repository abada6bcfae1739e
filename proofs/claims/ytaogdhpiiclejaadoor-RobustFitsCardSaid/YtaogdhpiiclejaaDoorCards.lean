/-
  DERIVED. GIVEN WITH THE SEED: THE CARDS: each row of YtaogdhpiiclejaaDoorRows.lean that lists a variable, with what it lists TIED to the program's text (the seventh form; the later family's looks); each row that meets fmt, with fmt's text TOLD by the authors' own Lean function (tested against real Go, not proved from fmt's source: count such statements apart). THE CARD IS WHAT COUNTS. Prove the row's statement (the work); the ties are given (YtaogdhpiiclejaaDoorTie.lean); close each card by the builder's one call (the guide's Derived/Test/ToyasCard.lean, 'card_holds'). Laid BY PROGRAM, IN A SANDBOX (cutbox-door.mjs). By AI agents, Wed Nov 11 2026. No macro, syntax, notation, axiom, sorry.
-/
import Derived.Test.YtaogdhpiiclejaaDoorRows
import GoSem.ClaimSeven
namespace Go.Proofs.YtaogdhpiiclejaaDoor
namespace Rows

/-- THE TIED CARD OF 'consistorylaw05.RobustFits'. -/
def robustFitsCard : Claim7 := { stood := { row := robustFitsRow, standIns := [], harness := (true, "049247c33fa45893ba2939e4741f02f80c17bc2be7e1b33e9e075fcf7e35cb6b"), looks := false }, kinds := [], alts := [], laidByText := true, laidKinds := [.data, .data], laidTests := true, laidLooks := .later }
def RobustFitsCardSaid : Prop := Claim7.holds Tryd.pinned (.plain (OpenSpec.ofChange robustFitsSpec)) robustFitsCard

/-- THE TIED CARD OF 'consistorylaw05.RobustWithout'. -/
def robustWithoutCard : Claim7 := { stood := { row := robustWithoutRow, standIns := [], harness := (true, "049247c33fa45893ba2939e4741f02f80c17bc2be7e1b33e9e075fcf7e35cb6b"), looks := false }, kinds := [], alts := [], laidByText := true, laidKinds := [.data, .data], laidTests := true, laidLooks := .later }
def RobustWithoutCardSaid : Prop := Claim7.holds Tryd.pinned (.plain (OpenSpec.ofChange robustWithoutSpec)) robustWithoutCard

/-- THE SECOND FORM's CARD OF 'consistorylaw05.RobustFits'. -/
def robustFitsUptoCard : Claim7 := { stood := { row := robustFitsUptoRow, standIns := [], harness := (true, "049247c33fa45893ba2939e4741f02f80c17bc2be7e1b33e9e075fcf7e35cb6b"), looks := false }, kinds := [], alts := [], laidByText := true, laidKinds := [.data, .data], laidTests := true, laidLooks := .later }
def RobustFitsUptoCardSaid : Prop := Claim7.holds Tryd.pinned (.plain (OpenSpec.upto robustFitsSpec)) robustFitsUptoCard

/-- THE SECOND FORM's CARD OF 'consistorylaw05.RobustWithout'. -/
def robustWithoutUptoCard : Claim7 := { stood := { row := robustWithoutUptoRow, standIns := [], harness := (true, "049247c33fa45893ba2939e4741f02f80c17bc2be7e1b33e9e075fcf7e35cb6b"), looks := false }, kinds := [], alts := [], laidByText := true, laidKinds := [.data, .data], laidTests := true, laidLooks := .later }
def RobustWithoutUptoCardSaid : Prop := Claim7.holds Tryd.pinned (.plain (OpenSpec.upto robustWithoutSpec)) robustWithoutUptoCard
end Rows
end Go.Proofs.YtaogdhpiiclejaaDoor
