/-
  DERIVED. GIVEN WITH THE SEED: THE CARDS: each row of YtoacmingocmaaaaDoorRows.lean that lists a variable, with what it lists TIED to the program's text (the seventh form; the later family's looks); each row that meets fmt, with fmt's text TOLD by the authors' own Lean function (tested against real Go, not proved from fmt's source: count such statements apart). THE CARD IS WHAT COUNTS. Prove the row's statement (the work); the ties are given (YtoacmingocmaaaaDoorTie.lean); close each card by the builder's one call (the guide's Derived/Test/ToyasCard.lean, 'card_holds'). Laid BY PROGRAM, IN A SANDBOX (cutbox-door.mjs). By AI agents, Wed Nov 11 2026. No macro, syntax, notation, axiom, sorry.
-/
import Derived.Test.YtoacmingocmaaaaDoorRows
import GoSem.ClaimSeven
namespace Go.Proofs.YtoacmingocmaaaaDoor
namespace Rows

/-- THE TIED CARD OF 'consistorylaw11.SlotsNames'. -/
def slotsNamesCard : Claim7 := { stood := { row := slotsNamesRow, standIns := [], harness := (true, "805f21b244727631f5d8499a26ffac71507cfe63d1aedfadd850d766c362e88a"), looks := true }, kinds := [], alts := [], laidByText := true, laidKinds := [.data, .pinned], laidTests := true, laidLooks := .later }
def SlotsNamesCardSaid : Prop := Claim7.holds Tryd.pinned (.plain (OpenSpec.ofChange slotsNamesSpec)) slotsNamesCard

/-- THE TIED CARD OF 'consistorylaw11.SlotsWhole'. -/
def slotsWholeCard : Claim7 := { stood := { row := slotsWholeRow, standIns := [], harness := (true, "805f21b244727631f5d8499a26ffac71507cfe63d1aedfadd850d766c362e88a"), looks := true }, kinds := [], alts := [], laidByText := true, laidKinds := [.data, .pinned], laidTests := true, laidLooks := .later }
def SlotsWholeCardSaid : Prop := Claim7.holds Tryd.pinned (.plain (OpenSpec.ofChange slotsWholeSpec)) slotsWholeCard

/-- THE TIED CARD OF 'consistorylaw11.SlotsOlder'. -/
def slotsOlderCard : Claim7 := { stood := { row := slotsOlderRow, standIns := [], harness := (true, "805f21b244727631f5d8499a26ffac71507cfe63d1aedfadd850d766c362e88a"), looks := true }, kinds := [], alts := [], laidByText := true, laidKinds := [.data, .pinned], laidTests := true, laidLooks := .later }
def SlotsOlderCardSaid : Prop := Claim7.holds Tryd.pinned (.plain (OpenSpec.ofChange slotsOlderSpec)) slotsOlderCard

/-- THE TIED CARD OF 'consistorylaw11.SlotsMany'. -/
def slotsManyCard : Claim7 := { stood := { row := slotsManyRow, standIns := [], harness := (true, "805f21b244727631f5d8499a26ffac71507cfe63d1aedfadd850d766c362e88a"), looks := true }, kinds := [], alts := [], laidByText := true, laidKinds := [.data, .pinned], laidTests := true, laidLooks := .later }
def SlotsManyCardSaid : Prop := Claim7.holds Tryd.pinned (.plain (OpenSpec.ofChange slotsManySpec)) slotsManyCard

/-- THE TIED CARD OF 'consistorylaw10.DiskPlays'. -/
def diskPlaysCard : Claim7 := { stood := { row := diskPlaysRow, standIns := [], harness := (true, "805f21b244727631f5d8499a26ffac71507cfe63d1aedfadd850d766c362e88a"), looks := true }, kinds := [], alts := [], laidByText := true, laidKinds := [.data, .pinned], laidTests := true, laidLooks := .later }
def DiskPlaysCardSaid : Prop := Claim7.holds Tryd.pinned (.plain (OpenSpec.ofChange diskPlaysSpec)) diskPlaysCard

/-- THE SECOND FORM's CARD OF 'consistorylaw11.SlotsNames'. -/
def slotsNamesUptoCard : Claim7 := { stood := { row := slotsNamesUptoRow, standIns := [], harness := (true, "805f21b244727631f5d8499a26ffac71507cfe63d1aedfadd850d766c362e88a"), looks := true }, kinds := [], alts := [], laidByText := true, laidKinds := [.data, .pinned], laidTests := true, laidLooks := .later }
def SlotsNamesUptoCardSaid : Prop := Claim7.holds Tryd.pinned (.plain (OpenSpec.upto slotsNamesSpec)) slotsNamesUptoCard

/-- THE SECOND FORM's CARD OF 'consistorylaw11.SlotsWhole'. -/
def slotsWholeUptoCard : Claim7 := { stood := { row := slotsWholeUptoRow, standIns := [], harness := (true, "805f21b244727631f5d8499a26ffac71507cfe63d1aedfadd850d766c362e88a"), looks := true }, kinds := [], alts := [], laidByText := true, laidKinds := [.data, .pinned], laidTests := true, laidLooks := .later }
def SlotsWholeUptoCardSaid : Prop := Claim7.holds Tryd.pinned (.plain (OpenSpec.upto slotsWholeSpec)) slotsWholeUptoCard

/-- THE SECOND FORM's CARD OF 'consistorylaw11.SlotsOlder'. -/
def slotsOlderUptoCard : Claim7 := { stood := { row := slotsOlderUptoRow, standIns := [], harness := (true, "805f21b244727631f5d8499a26ffac71507cfe63d1aedfadd850d766c362e88a"), looks := true }, kinds := [], alts := [], laidByText := true, laidKinds := [.data, .pinned], laidTests := true, laidLooks := .later }
def SlotsOlderUptoCardSaid : Prop := Claim7.holds Tryd.pinned (.plain (OpenSpec.upto slotsOlderSpec)) slotsOlderUptoCard

/-- THE SECOND FORM's CARD OF 'consistorylaw11.SlotsMany'. -/
def slotsManyUptoCard : Claim7 := { stood := { row := slotsManyUptoRow, standIns := [], harness := (true, "805f21b244727631f5d8499a26ffac71507cfe63d1aedfadd850d766c362e88a"), looks := true }, kinds := [], alts := [], laidByText := true, laidKinds := [.data, .pinned], laidTests := true, laidLooks := .later }
def SlotsManyUptoCardSaid : Prop := Claim7.holds Tryd.pinned (.plain (OpenSpec.upto slotsManySpec)) slotsManyUptoCard

/-- THE SECOND FORM's CARD OF 'consistorylaw10.DiskPlays'. -/
def diskPlaysUptoCard : Claim7 := { stood := { row := diskPlaysUptoRow, standIns := [], harness := (true, "805f21b244727631f5d8499a26ffac71507cfe63d1aedfadd850d766c362e88a"), looks := true }, kinds := [], alts := [], laidByText := true, laidKinds := [.data, .pinned], laidTests := true, laidLooks := .later }
def DiskPlaysUptoCardSaid : Prop := Claim7.holds Tryd.pinned (.plain (OpenSpec.upto diskPlaysSpec)) diskPlaysUptoCard
end Rows
end Go.Proofs.YtoacmingocmaaaaDoor
