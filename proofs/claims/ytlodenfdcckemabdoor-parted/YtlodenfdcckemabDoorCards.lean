/-
  DERIVED. GIVEN WITH THE SEED: THE CARDS: each row of YtlodenfdcckemabDoorRows.lean that lists a variable, with what it lists TIED to the program's text (the seventh form; the later family's looks); each row that meets fmt, with fmt's text TOLD by the authors' own Lean function (tested against real Go, not proved from fmt's source: count such statements apart). THE CARD IS WHAT COUNTS. Prove the row's statement (the work); the ties are given (YtlodenfdcckemabDoorTie.lean); close each card by the builder's one call (the guide's Derived/Test/ToyasCard.lean, 'card_holds'). Laid BY PROGRAM, IN A SANDBOX (cutbox-door.mjs). By AI agents, Wed Nov 11 2026. No macro, syntax, notation, axiom, sorry.
-/
import Derived.Test.YtlodenfdcckemabDoorRows
import GoSem.ClaimSeven
namespace Go.Proofs.YtlodenfdcckemabDoor
namespace Rows

/-- THE TIED CARD OF 'phalanxkeep.Renamed'. -/
def renamedCard : Claim7 := { stood := { row := renamedRow, standIns := [], harness := (true, "5baee4cce76d36c898f40935cbd3560029dcdf10c12b3823d832e27f386c2a0f"), looks := false }, kinds := [], alts := [], laidByText := true, laidKinds := [.data], laidTests := true, laidLooks := .later }
def RenamedCardSaid : Prop := Claim7.holds Tryd.pinned (.plain (OpenSpec.ofChange renamedSpec)) renamedCard

/-- THE TIED CARD OF 'phalanxkeep.Parted'. -/
def partedCard : Claim7 := { stood := { row := partedRow, standIns := [], harness := (true, "5baee4cce76d36c898f40935cbd3560029dcdf10c12b3823d832e27f386c2a0f"), looks := false }, kinds := [], alts := [], laidByText := true, laidKinds := [.data], laidTests := true, laidLooks := .later }
def PartedCardSaid : Prop := Claim7.holds Tryd.pinned (.plain (OpenSpec.ofChange partedSpec)) partedCard

/-- THE SECOND FORM's CARD OF 'phalanxkeep.Renamed'. -/
def renamedUptoCard : Claim7 := { stood := { row := renamedUptoRow, standIns := [], harness := (true, "5baee4cce76d36c898f40935cbd3560029dcdf10c12b3823d832e27f386c2a0f"), looks := false }, kinds := [], alts := [], laidByText := true, laidKinds := [.data], laidTests := true, laidLooks := .later }
def RenamedUptoCardSaid : Prop := Claim7.holds Tryd.pinned (.plain (OpenSpec.upto renamedSpec)) renamedUptoCard

/-- THE SECOND FORM's CARD OF 'phalanxkeep.Parted'. -/
def partedUptoCard : Claim7 := { stood := { row := partedUptoRow, standIns := [], harness := (true, "5baee4cce76d36c898f40935cbd3560029dcdf10c12b3823d832e27f386c2a0f"), looks := false }, kinds := [], alts := [], laidByText := true, laidKinds := [.data], laidTests := true, laidLooks := .later }
def PartedUptoCardSaid : Prop := Claim7.holds Tryd.pinned (.plain (OpenSpec.upto partedSpec)) partedUptoCard
end Rows
end Go.Proofs.YtlodenfdcckemabDoor
