/-
  DERIVED. GIVEN WITH THE SEED: THE CARDS: each row of YtlodenfdcckemaaGreatDoorRows.lean that lists a variable, with what it lists TIED to the program's text (the seventh form; the later family's looks); each row that meets fmt, with fmt's text TOLD by the authors' own Lean function (tested against real Go, not proved from fmt's source: count such statements apart). THE CARD IS WHAT COUNTS. Prove the row's statement (the work); the ties are given (YtlodenfdcckemaaGreatDoorTie.lean); close each card by the builder's one call (the guide's Derived/Test/ToyasCard.lean, 'card_holds'). Laid BY PROGRAM, IN A SANDBOX (cutbox-door.mjs). By AI agents, Wed Nov 11 2026. No macro, syntax, notation, axiom, sorry.
-/
import Derived.Test.YtlodenfdcckemaaGreatDoorRows
import GoSem.ClaimSeven
namespace Go.Proofs.YtlodenfdcckemaaGreatDoor
namespace Rows

/-- THE TIED CARD OF 'phalanxlaw.Faults'. -/
def faultsCard : Claim7 := { stood := { row := faultsRow, standIns := [], harness := (true, "d89143f0cd02cf53905a4f5cf7ef0f53584cc48fd741d8c2006a145755a8201d"), looks := false }, kinds := [], alts := [], goes := true, laidByText := true, laidKinds := [.data], laidTests := true, laidLooks := .later }
def FaultsCardSaid : Prop := Claim7.holds Tryz.pinned (.plain (OpenSpec.ofChange faultsSpec)) faultsCard

/-- THE TIED CARD OF 'phalanxlaw.Fleets'. -/
def fleetsCard : Claim7 := { stood := { row := fleetsRow, standIns := [], harness := (true, "d89143f0cd02cf53905a4f5cf7ef0f53584cc48fd741d8c2006a145755a8201d"), looks := false }, kinds := [], alts := [], goes := true, laidByText := true, laidKinds := [.data], laidTests := true, laidLooks := .later }
def FleetsCardSaid : Prop := Claim7.holds Tryz.pinned (.plain (OpenSpec.ofChange fleetsSpec)) fleetsCard

/-- THE SECOND FORM's CARD OF 'phalanxlaw.Faults'. -/
def faultsUptoCard : Claim7 := { stood := { row := faultsUptoRow, standIns := [], harness := (true, "d89143f0cd02cf53905a4f5cf7ef0f53584cc48fd741d8c2006a145755a8201d"), looks := false }, kinds := [], alts := [], goes := true, laidByText := true, laidKinds := [.data], laidTests := true, laidLooks := .later }
def FaultsUptoCardSaid : Prop := Claim7.holds Tryz.pinned (.plain (OpenSpec.upto faultsSpec)) faultsUptoCard

/-- THE SECOND FORM's CARD OF 'phalanxlaw.Fleets'. -/
def fleetsUptoCard : Claim7 := { stood := { row := fleetsUptoRow, standIns := [], harness := (true, "d89143f0cd02cf53905a4f5cf7ef0f53584cc48fd741d8c2006a145755a8201d"), looks := false }, kinds := [], alts := [], goes := true, laidByText := true, laidKinds := [.data], laidTests := true, laidLooks := .later }
def FleetsUptoCardSaid : Prop := Claim7.holds Tryz.pinned (.plain (OpenSpec.upto fleetsSpec)) fleetsUptoCard
end Rows
end Go.Proofs.YtlodenfdcckemaaGreatDoor
