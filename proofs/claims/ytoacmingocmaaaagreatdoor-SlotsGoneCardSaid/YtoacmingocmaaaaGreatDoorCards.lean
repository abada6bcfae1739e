/-
  DERIVED. GIVEN WITH THE SEED: THE CARDS: each row of YtoacmingocmaaaaGreatDoorRows.lean that lists a variable, with what it lists TIED to the program's text (the seventh form; the later family's looks); each row that meets fmt, with fmt's text TOLD by the authors' own Lean function (tested against real Go, not proved from fmt's source: count such statements apart). THE CARD IS WHAT COUNTS. Prove the row's statement (the work); the ties are given (YtoacmingocmaaaaGreatDoorTie.lean); close each card by the builder's one call (the guide's Derived/Test/ToyasCard.lean, 'card_holds'). Laid BY PROGRAM, IN A SANDBOX (cutbox-door.mjs). By AI agents, Wed Nov 11 2026. No macro, syntax, notation, axiom, sorry.
-/
import Derived.Test.YtoacmingocmaaaaGreatDoorRows
import GoSem.ClaimSeven
namespace Go.Proofs.YtoacmingocmaaaaGreatDoor
namespace Rows

/-- THE TIED CARD OF 'consistorylaw11.SlotsPlays'. -/
def slotsPlaysCard : Claim7 := { stood := { row := slotsPlaysRow, standIns := [], harness := (true, "e2dc9e6a0e3fdb34b8bfbed2712ad06c62a5cb8c7a88b7baf43f19badb2e1424"), looks := true }, kinds := [], alts := [], laidByText := true, laidKinds := [.data, .pinned], laidTests := true, laidLooks := .later }
def SlotsPlaysCardSaid : Prop := Claim7.holds Tryz.pinned (.plain (OpenSpec.ofChange slotsPlaysSpec)) slotsPlaysCard

/-- THE TIED CARD OF 'consistorylaw11.SlotsGone'. -/
def slotsGoneCard : Claim7 := { stood := { row := slotsGoneRow, standIns := [], harness := (true, "e2dc9e6a0e3fdb34b8bfbed2712ad06c62a5cb8c7a88b7baf43f19badb2e1424"), looks := true }, kinds := [], alts := [], laidByText := true, laidKinds := [.data, .pinned], laidTests := true, laidLooks := .later }
def SlotsGoneCardSaid : Prop := Claim7.holds Tryz.pinned (.plain (OpenSpec.ofChange slotsGoneSpec)) slotsGoneCard

/-- THE SECOND FORM's CARD OF 'consistorylaw11.SlotsPlays'. -/
def slotsPlaysUptoCard : Claim7 := { stood := { row := slotsPlaysUptoRow, standIns := [], harness := (true, "e2dc9e6a0e3fdb34b8bfbed2712ad06c62a5cb8c7a88b7baf43f19badb2e1424"), looks := true }, kinds := [], alts := [], laidByText := true, laidKinds := [.data, .pinned], laidTests := true, laidLooks := .later }
def SlotsPlaysUptoCardSaid : Prop := Claim7.holds Tryz.pinned (.plain (OpenSpec.upto slotsPlaysSpec)) slotsPlaysUptoCard

/-- THE SECOND FORM's CARD OF 'consistorylaw11.SlotsGone'. -/
def slotsGoneUptoCard : Claim7 := { stood := { row := slotsGoneUptoRow, standIns := [], harness := (true, "e2dc9e6a0e3fdb34b8bfbed2712ad06c62a5cb8c7a88b7baf43f19badb2e1424"), looks := true }, kinds := [], alts := [], laidByText := true, laidKinds := [.data, .pinned], laidTests := true, laidLooks := .later }
def SlotsGoneUptoCardSaid : Prop := Claim7.holds Tryz.pinned (.plain (OpenSpec.upto slotsGoneSpec)) slotsGoneUptoCard
end Rows
end Go.Proofs.YtoacmingocmaaaaGreatDoor
