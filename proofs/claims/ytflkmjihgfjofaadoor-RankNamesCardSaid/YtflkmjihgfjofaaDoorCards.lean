/-
  DERIVED. GIVEN WITH THE SEED: THE CARDS: each row of YtflkmjihgfjofaaDoorRows.lean that lists a variable, with what it lists TIED to the program's text (the seventh form; the later family's looks); each row that meets fmt, with fmt's text TOLD by the authors' own Lean function (tested against real Go, not proved from fmt's source: count such statements apart). THE CARD IS WHAT COUNTS. Prove the row's statement (the work); the ties are given (YtflkmjihgfjofaaDoorTie.lean); close each card by the builder's one call (the guide's Derived/Test/ToyasCard.lean, 'card_holds'). Laid BY PROGRAM, IN A SANDBOX (cutbox-door.mjs). By AI agents, Wed Nov 11 2026. No macro, syntax, notation, axiom, sorry.
-/
import Derived.Test.YtflkmjihgfjofaaDoorRows
import GoSem.ClaimSeven
namespace Go.Proofs.YtflkmjihgfjofaaDoor
namespace Rows

/-- THE TIED CARD OF 'consistorylaw04.RankNames'. -/
def rankNamesCard : Claim7 := { stood := { row := rankNamesRow, standIns := [], harness := (true, "5db67d832ec7b4d116f251d423eff9488f4d3c2acf5d2677fa822de5a2ed9da5"), looks := false }, kinds := [], alts := [], laidByText := true, laidKinds := [.data, .data], laidTests := true, laidLooks := .later }
def RankNamesCardSaid : Prop := Claim7.holds Tryd.pinned (.plain (OpenSpec.ofChange rankNamesSpec)) rankNamesCard

/-- THE TIED CARD OF 'consistorylaw04.RankTells'. -/
def rankTellsCard : Claim7 := { stood := { row := rankTellsRow, standIns := [], harness := (true, "5db67d832ec7b4d116f251d423eff9488f4d3c2acf5d2677fa822de5a2ed9da5"), looks := false }, kinds := [], alts := [], laidByText := true, laidKinds := [.data, .data], laidTests := true, laidLooks := .later }
def RankTellsCardSaid : Prop := Claim7.holds Tryd.pinned (.plain (OpenSpec.ofChange rankTellsSpec)) rankTellsCard

/-- THE TIED CARD OF 'consistorylaw04.RankSolves'. -/
def rankSolvesCard : Claim7 := { stood := { row := rankSolvesRow, standIns := [], harness := (true, "5db67d832ec7b4d116f251d423eff9488f4d3c2acf5d2677fa822de5a2ed9da5"), looks := false }, kinds := [], alts := [], laidByText := true, laidKinds := [.data, .data], laidTests := true, laidLooks := .later }
def RankSolvesCardSaid : Prop := Claim7.holds Tryd.pinned (.plain (OpenSpec.ofChange rankSolvesSpec)) rankSolvesCard

/-- THE TIED CARD OF 'consistorylaw04.RankMore'. -/
def rankMoreCard : Claim7 := { stood := { row := rankMoreRow, standIns := [], harness := (true, "5db67d832ec7b4d116f251d423eff9488f4d3c2acf5d2677fa822de5a2ed9da5"), looks := false }, kinds := [], alts := [], laidByText := true, laidKinds := [.data, .data], laidTests := true, laidLooks := .later }
def RankMoreCardSaid : Prop := Claim7.holds Tryd.pinned (.plain (OpenSpec.ofChange rankMoreSpec)) rankMoreCard

/-- THE TIED CARD OF 'consistorylaw04.RankShared'. -/
def rankSharedCard : Claim7 := { stood := { row := rankSharedRow, standIns := [], harness := (true, "5db67d832ec7b4d116f251d423eff9488f4d3c2acf5d2677fa822de5a2ed9da5"), looks := false }, kinds := [], alts := [], laidByText := true, laidKinds := [.data, .data], laidTests := true, laidLooks := .later }
def RankSharedCardSaid : Prop := Claim7.holds Tryd.pinned (.plain (OpenSpec.ofChange rankSharedSpec)) rankSharedCard

/-- THE TIED CARD OF 'consistorylaw04.RankTurned'. -/
def rankTurnedCard : Claim7 := { stood := { row := rankTurnedRow, standIns := [], harness := (true, "5db67d832ec7b4d116f251d423eff9488f4d3c2acf5d2677fa822de5a2ed9da5"), looks := false }, kinds := [], alts := [], laidByText := true, laidKinds := [.data, .data], laidTests := true, laidLooks := .later }
def RankTurnedCardSaid : Prop := Claim7.holds Tryd.pinned (.plain (OpenSpec.ofChange rankTurnedSpec)) rankTurnedCard

/-- THE TIED CARD OF 'consistorylaw04.RankWays'. -/
def rankWaysCard : Claim7 := { stood := { row := rankWaysRow, standIns := [], harness := (true, "5db67d832ec7b4d116f251d423eff9488f4d3c2acf5d2677fa822de5a2ed9da5"), looks := false }, kinds := [], alts := [], laidByText := true, laidKinds := [.data, .data], laidTests := true, laidLooks := .later }
def RankWaysCardSaid : Prop := Claim7.holds Tryd.pinned (.plain (OpenSpec.ofChange rankWaysSpec)) rankWaysCard

/-- THE TIED CARD OF 'consistorylaw04.RankSolved'. -/
def rankSolvedCard : Claim7 := { stood := { row := rankSolvedRow, standIns := [], harness := (true, "5db67d832ec7b4d116f251d423eff9488f4d3c2acf5d2677fa822de5a2ed9da5"), looks := false }, kinds := [], alts := [], laidByText := true, laidKinds := [.data, .data], laidTests := true, laidLooks := .later }
def RankSolvedCardSaid : Prop := Claim7.holds Tryd.pinned (.plain (OpenSpec.ofChange rankSolvedSpec)) rankSolvedCard

/-- THE SECOND FORM's CARD OF 'consistorylaw04.RankNames'. -/
def rankNamesUptoCard : Claim7 := { stood := { row := rankNamesUptoRow, standIns := [], harness := (true, "5db67d832ec7b4d116f251d423eff9488f4d3c2acf5d2677fa822de5a2ed9da5"), looks := false }, kinds := [], alts := [], laidByText := true, laidKinds := [.data, .data], laidTests := true, laidLooks := .later }
def RankNamesUptoCardSaid : Prop := Claim7.holds Tryd.pinned (.plain (OpenSpec.upto rankNamesSpec)) rankNamesUptoCard

/-- THE SECOND FORM's CARD OF 'consistorylaw04.RankTells'. -/
def rankTellsUptoCard : Claim7 := { stood := { row := rankTellsUptoRow, standIns := [], harness := (true, "5db67d832ec7b4d116f251d423eff9488f4d3c2acf5d2677fa822de5a2ed9da5"), looks := false }, kinds := [], alts := [], laidByText := true, laidKinds := [.data, .data], laidTests := true, laidLooks := .later }
def RankTellsUptoCardSaid : Prop := Claim7.holds Tryd.pinned (.plain (OpenSpec.upto rankTellsSpec)) rankTellsUptoCard

/-- THE SECOND FORM's CARD OF 'consistorylaw04.RankSolves'. -/
def rankSolvesUptoCard : Claim7 := { stood := { row := rankSolvesUptoRow, standIns := [], harness := (true, "5db67d832ec7b4d116f251d423eff9488f4d3c2acf5d2677fa822de5a2ed9da5"), looks := false }, kinds := [], alts := [], laidByText := true, laidKinds := [.data, .data], laidTests := true, laidLooks := .later }
def RankSolvesUptoCardSaid : Prop := Claim7.holds Tryd.pinned (.plain (OpenSpec.upto rankSolvesSpec)) rankSolvesUptoCard

/-- THE SECOND FORM's CARD OF 'consistorylaw04.RankMore'. -/
def rankMoreUptoCard : Claim7 := { stood := { row := rankMoreUptoRow, standIns := [], harness := (true, "5db67d832ec7b4d116f251d423eff9488f4d3c2acf5d2677fa822de5a2ed9da5"), looks := false }, kinds := [], alts := [], laidByText := true, laidKinds := [.data, .data], laidTests := true, laidLooks := .later }
def RankMoreUptoCardSaid : Prop := Claim7.holds Tryd.pinned (.plain (OpenSpec.upto rankMoreSpec)) rankMoreUptoCard

/-- THE SECOND FORM's CARD OF 'consistorylaw04.RankShared'. -/
def rankSharedUptoCard : Claim7 := { stood := { row := rankSharedUptoRow, standIns := [], harness := (true, "5db67d832ec7b4d116f251d423eff9488f4d3c2acf5d2677fa822de5a2ed9da5"), looks := false }, kinds := [], alts := [], laidByText := true, laidKinds := [.data, .data], laidTests := true, laidLooks := .later }
def RankSharedUptoCardSaid : Prop := Claim7.holds Tryd.pinned (.plain (OpenSpec.upto rankSharedSpec)) rankSharedUptoCard

/-- THE SECOND FORM's CARD OF 'consistorylaw04.RankTurned'. -/
def rankTurnedUptoCard : Claim7 := { stood := { row := rankTurnedUptoRow, standIns := [], harness := (true, "5db67d832ec7b4d116f251d423eff9488f4d3c2acf5d2677fa822de5a2ed9da5"), looks := false }, kinds := [], alts := [], laidByText := true, laidKinds := [.data, .data], laidTests := true, laidLooks := .later }
def RankTurnedUptoCardSaid : Prop := Claim7.holds Tryd.pinned (.plain (OpenSpec.upto rankTurnedSpec)) rankTurnedUptoCard

/-- THE SECOND FORM's CARD OF 'consistorylaw04.RankWays'. -/
def rankWaysUptoCard : Claim7 := { stood := { row := rankWaysUptoRow, standIns := [], harness := (true, "5db67d832ec7b4d116f251d423eff9488f4d3c2acf5d2677fa822de5a2ed9da5"), looks := false }, kinds := [], alts := [], laidByText := true, laidKinds := [.data, .data], laidTests := true, laidLooks := .later }
def RankWaysUptoCardSaid : Prop := Claim7.holds Tryd.pinned (.plain (OpenSpec.upto rankWaysSpec)) rankWaysUptoCard

/-- THE SECOND FORM's CARD OF 'consistorylaw04.RankSolved'. -/
def rankSolvedUptoCard : Claim7 := { stood := { row := rankSolvedUptoRow, standIns := [], harness := (true, "5db67d832ec7b4d116f251d423eff9488f4d3c2acf5d2677fa822de5a2ed9da5"), looks := false }, kinds := [], alts := [], laidByText := true, laidKinds := [.data, .data], laidTests := true, laidLooks := .later }
def RankSolvedUptoCardSaid : Prop := Claim7.holds Tryd.pinned (.plain (OpenSpec.upto rankSolvedSpec)) rankSolvedUptoCard
end Rows
end Go.Proofs.YtflkmjihgfjofaaDoor
