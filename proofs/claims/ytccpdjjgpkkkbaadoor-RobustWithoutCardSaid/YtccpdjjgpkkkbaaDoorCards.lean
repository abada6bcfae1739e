/-
  DERIVED. GIVEN WITH THE SEED: THE CARDS: each row of YtccpdjjgpkkkbaaDoorRows.lean that lists a variable, with what it lists TIED to the program's text (the seventh form; the later family's looks); each row that meets fmt, with fmt's text TOLD by the authors' own Lean function (tested against real Go, not proved from fmt's source: count such statements apart). THE CARD IS WHAT COUNTS. Prove the row's statement (the work); the ties are given (YtccpdjjgpkkkbaaDoorTie.lean); close each card by the builder's one call (the guide's Derived/Test/ToyasCard.lean, 'card_holds'). Laid BY PROGRAM, IN A SANDBOX (cutbox-door.mjs). By AI agents, Wed Nov 11 2026. No macro, syntax, notation, axiom, sorry.
-/
import Derived.Test.YtccpdjjgpkkkbaaDoorRows
import GoSem.ClaimSeven
namespace Go.Proofs.YtccpdjjgpkkkbaaDoor
namespace Rows

/-- THE TIED CARD OF 'consistorylaw05.RobustNames'. -/
def robustNamesCard : Claim7 := { stood := { row := robustNamesRow, standIns := [], harness := (true, "6115a89dfc6e0c812bfe8619a34fec12f20f2994bb72fafb19c418aa7f1b78ed"), looks := false }, kinds := [], alts := [], laidByText := true, laidKinds := [.data, .data], laidTests := true, laidLooks := .later }
def RobustNamesCardSaid : Prop := Claim7.holds Tryd.pinned (.plain (OpenSpec.ofChange robustNamesSpec)) robustNamesCard

/-- THE TIED CARD OF 'consistorylaw05.RobustLies'. -/
def robustLiesCard : Claim7 := { stood := { row := robustLiesRow, standIns := [], harness := (true, "6115a89dfc6e0c812bfe8619a34fec12f20f2994bb72fafb19c418aa7f1b78ed"), looks := false }, kinds := [], alts := [], laidByText := true, laidKinds := [.data, .data], laidTests := true, laidLooks := .later }
def RobustLiesCardSaid : Prop := Claim7.holds Tryd.pinned (.plain (OpenSpec.ofChange robustLiesSpec)) robustLiesCard

/-- THE TIED CARD OF 'consistorylaw05.RobustWithout'. -/
def robustWithoutCard : Claim7 := { stood := { row := robustWithoutRow, standIns := [], harness := (true, "6115a89dfc6e0c812bfe8619a34fec12f20f2994bb72fafb19c418aa7f1b78ed"), looks := false }, kinds := [], alts := [], laidByText := true, laidKinds := [.data, .data], laidTests := true, laidLooks := .later }
def RobustWithoutCardSaid : Prop := Claim7.holds Tryd.pinned (.plain (OpenSpec.ofChange robustWithoutSpec)) robustWithoutCard

/-- THE TIED CARD OF 'consistorylaw06.BivarBack'. -/
def bivarBackCard : Claim7 := { stood := { row := bivarBackRow, standIns := [], harness := (true, "6115a89dfc6e0c812bfe8619a34fec12f20f2994bb72fafb19c418aa7f1b78ed"), looks := false }, kinds := [], alts := [], laidByText := true, laidKinds := [.data, .data], laidTests := true, laidLooks := .later }
def BivarBackCardSaid : Prop := Claim7.holds Tryd.pinned (.plain (OpenSpec.ofChange bivarBackSpec)) bivarBackCard

/-- THE TIED CARD OF 'consistorylaw06.BivarColumns'. -/
def bivarColumnsCard : Claim7 := { stood := { row := bivarColumnsRow, standIns := [], harness := (true, "6115a89dfc6e0c812bfe8619a34fec12f20f2994bb72fafb19c418aa7f1b78ed"), looks := false }, kinds := [], alts := [], laidByText := true, laidKinds := [.data, .data], laidTests := true, laidLooks := .later }
def BivarColumnsCardSaid : Prop := Claim7.holds Tryd.pinned (.plain (OpenSpec.ofChange bivarColumnsSpec)) bivarColumnsCard

/-- THE TIED CARD OF 'consistorylaw06.BivarHidden'. -/
def bivarHiddenCard : Claim7 := { stood := { row := bivarHiddenRow, standIns := [], harness := (true, "6115a89dfc6e0c812bfe8619a34fec12f20f2994bb72fafb19c418aa7f1b78ed"), looks := false }, kinds := [], alts := [], laidByText := true, laidKinds := [.data, .data], laidTests := true, laidLooks := .later }
def BivarHiddenCardSaid : Prop := Claim7.holds Tryd.pinned (.plain (OpenSpec.ofChange bivarHiddenSpec)) bivarHiddenCard

/-- THE SECOND FORM's CARD OF 'consistorylaw05.RobustNames'. -/
def robustNamesUptoCard : Claim7 := { stood := { row := robustNamesUptoRow, standIns := [], harness := (true, "6115a89dfc6e0c812bfe8619a34fec12f20f2994bb72fafb19c418aa7f1b78ed"), looks := false }, kinds := [], alts := [], laidByText := true, laidKinds := [.data, .data], laidTests := true, laidLooks := .later }
def RobustNamesUptoCardSaid : Prop := Claim7.holds Tryd.pinned (.plain (OpenSpec.upto robustNamesSpec)) robustNamesUptoCard

/-- THE SECOND FORM's CARD OF 'consistorylaw05.RobustLies'. -/
def robustLiesUptoCard : Claim7 := { stood := { row := robustLiesUptoRow, standIns := [], harness := (true, "6115a89dfc6e0c812bfe8619a34fec12f20f2994bb72fafb19c418aa7f1b78ed"), looks := false }, kinds := [], alts := [], laidByText := true, laidKinds := [.data, .data], laidTests := true, laidLooks := .later }
def RobustLiesUptoCardSaid : Prop := Claim7.holds Tryd.pinned (.plain (OpenSpec.upto robustLiesSpec)) robustLiesUptoCard

/-- THE SECOND FORM's CARD OF 'consistorylaw05.RobustWithout'. -/
def robustWithoutUptoCard : Claim7 := { stood := { row := robustWithoutUptoRow, standIns := [], harness := (true, "6115a89dfc6e0c812bfe8619a34fec12f20f2994bb72fafb19c418aa7f1b78ed"), looks := false }, kinds := [], alts := [], laidByText := true, laidKinds := [.data, .data], laidTests := true, laidLooks := .later }
def RobustWithoutUptoCardSaid : Prop := Claim7.holds Tryd.pinned (.plain (OpenSpec.upto robustWithoutSpec)) robustWithoutUptoCard

/-- THE SECOND FORM's CARD OF 'consistorylaw06.BivarBack'. -/
def bivarBackUptoCard : Claim7 := { stood := { row := bivarBackUptoRow, standIns := [], harness := (true, "6115a89dfc6e0c812bfe8619a34fec12f20f2994bb72fafb19c418aa7f1b78ed"), looks := false }, kinds := [], alts := [], laidByText := true, laidKinds := [.data, .data], laidTests := true, laidLooks := .later }
def BivarBackUptoCardSaid : Prop := Claim7.holds Tryd.pinned (.plain (OpenSpec.upto bivarBackSpec)) bivarBackUptoCard

/-- THE SECOND FORM's CARD OF 'consistorylaw06.BivarColumns'. -/
def bivarColumnsUptoCard : Claim7 := { stood := { row := bivarColumnsUptoRow, standIns := [], harness := (true, "6115a89dfc6e0c812bfe8619a34fec12f20f2994bb72fafb19c418aa7f1b78ed"), looks := false }, kinds := [], alts := [], laidByText := true, laidKinds := [.data, .data], laidTests := true, laidLooks := .later }
def BivarColumnsUptoCardSaid : Prop := Claim7.holds Tryd.pinned (.plain (OpenSpec.upto bivarColumnsSpec)) bivarColumnsUptoCard

/-- THE SECOND FORM's CARD OF 'consistorylaw06.BivarHidden'. -/
def bivarHiddenUptoCard : Claim7 := { stood := { row := bivarHiddenUptoRow, standIns := [], harness := (true, "6115a89dfc6e0c812bfe8619a34fec12f20f2994bb72fafb19c418aa7f1b78ed"), looks := false }, kinds := [], alts := [], laidByText := true, laidKinds := [.data, .data], laidTests := true, laidLooks := .later }
def BivarHiddenUptoCardSaid : Prop := Claim7.holds Tryd.pinned (.plain (OpenSpec.upto bivarHiddenSpec)) bivarHiddenUptoCard
end Rows
end Go.Proofs.YtccpdjjgpkkkbaaDoor
