/-
  DERIVED. GIVEN WITH THE SEED: THE CARDS: each row of YtlodenfdcckemaaDoorRows.lean that lists a variable, with what it lists TIED to the program's text (the seventh form; the later family's looks); each row that meets fmt, with fmt's text TOLD by the authors' own Lean function (tested against real Go, not proved from fmt's source: count such statements apart). THE CARD IS WHAT COUNTS. Prove the row's statement (the work); the ties are given (YtlodenfdcckemaaDoorTie.lean); close each card by the builder's one call (the guide's Derived/Test/ToyasCard.lean, 'card_holds'). Laid BY PROGRAM, IN A SANDBOX (cutbox-door.mjs). By AI agents, Wed Nov 11 2026. No macro, syntax, notation, axiom, sorry.
-/
import Derived.Test.YtlodenfdcckemaaDoorRows
import GoSem.ClaimSeven
namespace Go.Proofs.YtlodenfdcckemaaDoor
namespace Rows

/-- THE TIED CARD OF 'phalanxlaw.Parses'. -/
def parsesCard : Claim7 := { stood := { row := parsesRow, standIns := [], harness := (true, "c76e19e3dcc2fff1e457f6be5009b3b41828f9e2b142b0930c27652202eb19de"), looks := false }, kinds := [], alts := [], laidByText := true, laidKinds := [.data, .pinned], laidTests := true, laidLooks := .later }
def ParsesCardSaid : Prop := Claim7.holds Tryd.pinned (.plain (OpenSpec.ofChange parsesSpec)) parsesCard

/-- THE TIED CARD OF 'phalanxlaw.Propagates'. -/
def propagatesCard : Claim7 := { stood := { row := propagatesRow, standIns := [], harness := (true, "c76e19e3dcc2fff1e457f6be5009b3b41828f9e2b142b0930c27652202eb19de"), looks := false }, kinds := [], alts := [], laidByText := true, laidKinds := [.data], laidTests := true, laidLooks := .later }
def PropagatesCardSaid : Prop := Claim7.holds Tryd.pinned (.plain (OpenSpec.ofChange propagatesSpec)) propagatesCard

/-- THE TIED CARD OF 'phalanxlaw.Solves'. -/
def solvesCard : Claim7 := { stood := { row := solvesRow, standIns := [], harness := (true, "c76e19e3dcc2fff1e457f6be5009b3b41828f9e2b142b0930c27652202eb19de"), looks := false }, kinds := [], alts := [], laidByText := true, laidKinds := [.data], laidTests := true, laidLooks := .later }
def SolvesCardSaid : Prop := Claim7.holds Tryd.pinned (.plain (OpenSpec.ofChange solvesSpec)) solvesCard

/-- THE TIED CARD OF 'phalanxkeep.Retold'. -/
def retoldCard : Claim7 := { stood := { row := retoldRow, standIns := [], harness := (true, "c76e19e3dcc2fff1e457f6be5009b3b41828f9e2b142b0930c27652202eb19de"), looks := false }, kinds := [], alts := [], laidByText := true, laidKinds := [.data, .data, .pinned], laidTests := true, laidLooks := .later }
def RetoldCardSaid : Prop := Claim7.holds Tryd.pinned (.plain (OpenSpec.ofChange retoldSpec)) retoldCard

/-- THE TIED CARD OF 'phalanxkeep.Closed'. -/
def closedCard : Claim7 := { stood := { row := closedRow, standIns := [], harness := (true, "c76e19e3dcc2fff1e457f6be5009b3b41828f9e2b142b0930c27652202eb19de"), looks := false }, kinds := [], alts := [], laidByText := true, laidKinds := [.data], laidTests := true, laidLooks := .later }
def ClosedCardSaid : Prop := Claim7.holds Tryd.pinned (.plain (OpenSpec.ofChange closedSpec)) closedCard

/-- THE TIED CARD OF 'phalanxkeep.Proved'. -/
def provedCard : Claim7 := { stood := { row := provedRow, standIns := [], harness := (true, "c76e19e3dcc2fff1e457f6be5009b3b41828f9e2b142b0930c27652202eb19de"), looks := false }, kinds := [], alts := [], laidByText := true, laidKinds := [.data], laidTests := true, laidLooks := .later }
def ProvedCardSaid : Prop := Claim7.holds Tryd.pinned (.plain (OpenSpec.ofChange provedSpec)) provedCard

/-- THE TIED CARD OF 'phalanxkeep.Counted'. -/
def countedCard : Claim7 := { stood := { row := countedRow, standIns := [], harness := (true, "c76e19e3dcc2fff1e457f6be5009b3b41828f9e2b142b0930c27652202eb19de"), looks := false }, kinds := [], alts := [], laidByText := true, laidKinds := [.data], laidTests := true, laidLooks := .later }
def CountedCardSaid : Prop := Claim7.holds Tryd.pinned (.plain (OpenSpec.ofChange countedSpec)) countedCard

/-- THE SECOND FORM's CARD OF 'phalanxlaw.Parses'. -/
def parsesUptoCard : Claim7 := { stood := { row := parsesUptoRow, standIns := [], harness := (true, "c76e19e3dcc2fff1e457f6be5009b3b41828f9e2b142b0930c27652202eb19de"), looks := false }, kinds := [], alts := [], laidByText := true, laidKinds := [.data, .pinned], laidTests := true, laidLooks := .later }
def ParsesUptoCardSaid : Prop := Claim7.holds Tryd.pinned (.plain (OpenSpec.upto parsesSpec)) parsesUptoCard

/-- THE SECOND FORM's CARD OF 'phalanxlaw.Propagates'. -/
def propagatesUptoCard : Claim7 := { stood := { row := propagatesUptoRow, standIns := [], harness := (true, "c76e19e3dcc2fff1e457f6be5009b3b41828f9e2b142b0930c27652202eb19de"), looks := false }, kinds := [], alts := [], laidByText := true, laidKinds := [.data], laidTests := true, laidLooks := .later }
def PropagatesUptoCardSaid : Prop := Claim7.holds Tryd.pinned (.plain (OpenSpec.upto propagatesSpec)) propagatesUptoCard

/-- THE SECOND FORM's CARD OF 'phalanxlaw.Solves'. -/
def solvesUptoCard : Claim7 := { stood := { row := solvesUptoRow, standIns := [], harness := (true, "c76e19e3dcc2fff1e457f6be5009b3b41828f9e2b142b0930c27652202eb19de"), looks := false }, kinds := [], alts := [], laidByText := true, laidKinds := [.data], laidTests := true, laidLooks := .later }
def SolvesUptoCardSaid : Prop := Claim7.holds Tryd.pinned (.plain (OpenSpec.upto solvesSpec)) solvesUptoCard

/-- THE SECOND FORM's CARD OF 'phalanxkeep.Retold'. -/
def retoldUptoCard : Claim7 := { stood := { row := retoldUptoRow, standIns := [], harness := (true, "c76e19e3dcc2fff1e457f6be5009b3b41828f9e2b142b0930c27652202eb19de"), looks := false }, kinds := [], alts := [], laidByText := true, laidKinds := [.data, .data, .pinned], laidTests := true, laidLooks := .later }
def RetoldUptoCardSaid : Prop := Claim7.holds Tryd.pinned (.plain (OpenSpec.upto retoldSpec)) retoldUptoCard

/-- THE SECOND FORM's CARD OF 'phalanxkeep.Closed'. -/
def closedUptoCard : Claim7 := { stood := { row := closedUptoRow, standIns := [], harness := (true, "c76e19e3dcc2fff1e457f6be5009b3b41828f9e2b142b0930c27652202eb19de"), looks := false }, kinds := [], alts := [], laidByText := true, laidKinds := [.data], laidTests := true, laidLooks := .later }
def ClosedUptoCardSaid : Prop := Claim7.holds Tryd.pinned (.plain (OpenSpec.upto closedSpec)) closedUptoCard

/-- THE SECOND FORM's CARD OF 'phalanxkeep.Proved'. -/
def provedUptoCard : Claim7 := { stood := { row := provedUptoRow, standIns := [], harness := (true, "c76e19e3dcc2fff1e457f6be5009b3b41828f9e2b142b0930c27652202eb19de"), looks := false }, kinds := [], alts := [], laidByText := true, laidKinds := [.data], laidTests := true, laidLooks := .later }
def ProvedUptoCardSaid : Prop := Claim7.holds Tryd.pinned (.plain (OpenSpec.upto provedSpec)) provedUptoCard

/-- THE SECOND FORM's CARD OF 'phalanxkeep.Counted'. -/
def countedUptoCard : Claim7 := { stood := { row := countedUptoRow, standIns := [], harness := (true, "c76e19e3dcc2fff1e457f6be5009b3b41828f9e2b142b0930c27652202eb19de"), looks := false }, kinds := [], alts := [], laidByText := true, laidKinds := [.data], laidTests := true, laidLooks := .later }
def CountedUptoCardSaid : Prop := Claim7.holds Tryd.pinned (.plain (OpenSpec.upto countedSpec)) countedUptoCard
end Rows
end Go.Proofs.YtlodenfdcckemaaDoor
