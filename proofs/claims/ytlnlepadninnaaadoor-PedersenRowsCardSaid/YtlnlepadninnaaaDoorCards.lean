/-
  DERIVED. GIVEN WITH THE SEED: THE CARDS: each row of YtlnlepadninnaaaDoorRows.lean that lists a variable, with what it lists TIED to the program's text (the seventh form; the later family's looks); each row that meets fmt, with fmt's text TOLD by the authors' own Lean function (tested against real Go, not proved from fmt's source: count such statements apart). THE CARD IS WHAT COUNTS. Prove the row's statement (the work); the ties are given (YtlnlepadninnaaaDoorTie.lean); close each card by the builder's one call (the guide's Derived/Test/ToyasCard.lean, 'card_holds'). Laid BY PROGRAM, IN A SANDBOX (cutbox-door.mjs). By AI agents, Wed Nov 11 2026. No macro, syntax, notation, axiom, sorry.
-/
import Derived.Test.YtlnlepadninnaaaDoorRows
import GoSem.ClaimSeven
namespace Go.Proofs.YtlnlepadninnaaaDoor
namespace Rows

/-- THE TIED CARD OF 'consistorylaw08.PedersenRows'. -/
def pedersenRowsCard : Claim7 := { stood := { row := pedersenRowsRow, standIns := [], harness := (true, "9631dd3d898239fc51c4e72ed676a8df0003cf458da5d8c352e0d6e0c6ed606f"), looks := false }, kinds := [], alts := [], laidByText := true, laidKinds := [.data, .data], laidTests := true, laidLooks := .later }
def PedersenRowsCardSaid : Prop := Claim7.holds Tryd.pinned (.plain (OpenSpec.ofChange pedersenRowsSpec)) pedersenRowsCard

/-- THE TIED CARD OF 'consistorylaw08.PedersenEither'. -/
def pedersenEitherCard : Claim7 := { stood := { row := pedersenEitherRow, standIns := [], harness := (true, "9631dd3d898239fc51c4e72ed676a8df0003cf458da5d8c352e0d6e0c6ed606f"), looks := false }, kinds := [], alts := [], laidByText := true, laidKinds := [.data, .data], laidTests := true, laidLooks := .later }
def PedersenEitherCardSaid : Prop := Claim7.holds Tryd.pinned (.plain (OpenSpec.ofChange pedersenEitherSpec)) pedersenEitherCard

/-- THE TIED CARD OF 'consistorylaw08.PedersenShares'. -/
def pedersenSharesCard : Claim7 := { stood := { row := pedersenSharesRow, standIns := [], harness := (true, "9631dd3d898239fc51c4e72ed676a8df0003cf458da5d8c352e0d6e0c6ed606f"), looks := false }, kinds := [], alts := [], laidByText := true, laidKinds := [.data, .data], laidTests := true, laidLooks := .later }
def PedersenSharesCardSaid : Prop := Claim7.holds Tryd.pinned (.plain (OpenSpec.ofChange pedersenSharesSpec)) pedersenSharesCard

/-- THE TIED CARD OF 'consistorylaw08.PedersenBonds'. -/
def pedersenBondsCard : Claim7 := { stood := { row := pedersenBondsRow, standIns := [], harness := (true, "9631dd3d898239fc51c4e72ed676a8df0003cf458da5d8c352e0d6e0c6ed606f"), looks := false }, kinds := [], alts := [], laidByText := true, laidKinds := [.data, .data], laidTests := true, laidLooks := .later }
def PedersenBondsCardSaid : Prop := Claim7.holds Tryd.pinned (.plain (OpenSpec.ofChange pedersenBondsSpec)) pedersenBondsCard

/-- THE SECOND FORM's CARD OF 'consistorylaw08.PedersenRows'. -/
def pedersenRowsUptoCard : Claim7 := { stood := { row := pedersenRowsUptoRow, standIns := [], harness := (true, "9631dd3d898239fc51c4e72ed676a8df0003cf458da5d8c352e0d6e0c6ed606f"), looks := false }, kinds := [], alts := [], laidByText := true, laidKinds := [.data, .data], laidTests := true, laidLooks := .later }
def PedersenRowsUptoCardSaid : Prop := Claim7.holds Tryd.pinned (.plain (OpenSpec.upto pedersenRowsSpec)) pedersenRowsUptoCard

/-- THE SECOND FORM's CARD OF 'consistorylaw08.PedersenEither'. -/
def pedersenEitherUptoCard : Claim7 := { stood := { row := pedersenEitherUptoRow, standIns := [], harness := (true, "9631dd3d898239fc51c4e72ed676a8df0003cf458da5d8c352e0d6e0c6ed606f"), looks := false }, kinds := [], alts := [], laidByText := true, laidKinds := [.data, .data], laidTests := true, laidLooks := .later }
def PedersenEitherUptoCardSaid : Prop := Claim7.holds Tryd.pinned (.plain (OpenSpec.upto pedersenEitherSpec)) pedersenEitherUptoCard

/-- THE SECOND FORM's CARD OF 'consistorylaw08.PedersenShares'. -/
def pedersenSharesUptoCard : Claim7 := { stood := { row := pedersenSharesUptoRow, standIns := [], harness := (true, "9631dd3d898239fc51c4e72ed676a8df0003cf458da5d8c352e0d6e0c6ed606f"), looks := false }, kinds := [], alts := [], laidByText := true, laidKinds := [.data, .data], laidTests := true, laidLooks := .later }
def PedersenSharesUptoCardSaid : Prop := Claim7.holds Tryd.pinned (.plain (OpenSpec.upto pedersenSharesSpec)) pedersenSharesUptoCard

/-- THE SECOND FORM's CARD OF 'consistorylaw08.PedersenBonds'. -/
def pedersenBondsUptoCard : Claim7 := { stood := { row := pedersenBondsUptoRow, standIns := [], harness := (true, "9631dd3d898239fc51c4e72ed676a8df0003cf458da5d8c352e0d6e0c6ed606f"), looks := false }, kinds := [], alts := [], laidByText := true, laidKinds := [.data, .data], laidTests := true, laidLooks := .later }
def PedersenBondsUptoCardSaid : Prop := Claim7.holds Tryd.pinned (.plain (OpenSpec.upto pedersenBondsSpec)) pedersenBondsUptoCard
end Rows
end Go.Proofs.YtlnlepadninnaaaDoor
