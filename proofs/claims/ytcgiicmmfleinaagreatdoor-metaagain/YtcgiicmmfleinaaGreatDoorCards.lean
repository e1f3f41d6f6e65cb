/-
  DERIVED. GIVEN WITH THE SEED: THE CARDS: each row of YtcgiicmmfleinaaGreatDoorRows.lean that lists a variable, with what it lists TIED to the program's text (the seventh form; the later family's looks); each row that meets fmt, with fmt's text TOLD by the authors' own Lean function (tested against real Go, not proved from fmt's source: count such statements apart). THE CARD IS WHAT COUNTS. Prove the row's statement (the work); the ties are given (YtcgiicmmfleinaaGreatDoorTie.lean); close each card by the builder's one call (the guide's Derived/Test/ToyasCard.lean, 'card_holds'). Laid BY PROGRAM, IN A SANDBOX (cutbox-door.mjs). By AI agents, Wed Nov 11 2026. No macro, syntax, notation, axiom, sorry.
-/
import Derived.Test.YtcgiicmmfleinaaGreatDoorRows
import GoSem.ClaimSeven
namespace Go.Proofs.YtcgiicmmfleinaaGreatDoor
namespace Rows

/-- THE TIED CARD OF 'plenumlaw15.MetaDoes'. -/
def metaDoesCard : Claim7 := { stood := { row := metaDoesRow, standIns := [], harness := (true, "6028c3fbc21ef06f69e63296497a4f3dc00949627585897f607b6362a29e0ea6"), looks := false }, kinds := [], alts := [], laidByText := true, laidKinds := [.data], laidTests := true, laidLooks := .later }
def MetaDoesCardSaid : Prop := Claim7.holds Tryz.pinned (.plain (OpenSpec.ofChange metaDoesSpec)) metaDoesCard

/-- THE TIED CARD OF 'plenumlaw15.MetaCommands'. -/
def metaCommandsCard : Claim7 := { stood := { row := metaCommandsRow, standIns := [], harness := (true, "6028c3fbc21ef06f69e63296497a4f3dc00949627585897f607b6362a29e0ea6"), looks := false }, kinds := [], alts := [], laidByText := true, laidKinds := [.data], laidTests := true, laidLooks := .later }
def MetaCommandsCardSaid : Prop := Claim7.holds Tryz.pinned (.plain (OpenSpec.ofChange metaCommandsSpec)) metaCommandsCard

/-- THE TIED CARD OF 'plenumlaw15.MetaAgain'. -/
def metaAgainCard : Claim7 := { stood := { row := metaAgainRow, standIns := [], harness := (true, "6028c3fbc21ef06f69e63296497a4f3dc00949627585897f607b6362a29e0ea6"), looks := false }, kinds := [], alts := [], laidByText := true, laidKinds := [.data], laidTests := true, laidLooks := .later }
def MetaAgainCardSaid : Prop := Claim7.holds Tryz.pinned (.plain (OpenSpec.ofChange metaAgainSpec)) metaAgainCard

/-- THE SECOND FORM's CARD OF 'plenumlaw15.MetaDoes'. -/
def metaDoesUptoCard : Claim7 := { stood := { row := metaDoesUptoRow, standIns := [], harness := (true, "6028c3fbc21ef06f69e63296497a4f3dc00949627585897f607b6362a29e0ea6"), looks := false }, kinds := [], alts := [], laidByText := true, laidKinds := [.data], laidTests := true, laidLooks := .later }
def MetaDoesUptoCardSaid : Prop := Claim7.holds Tryz.pinned (.plain (OpenSpec.upto metaDoesSpec)) metaDoesUptoCard

/-- THE SECOND FORM's CARD OF 'plenumlaw15.MetaCommands'. -/
def metaCommandsUptoCard : Claim7 := { stood := { row := metaCommandsUptoRow, standIns := [], harness := (true, "6028c3fbc21ef06f69e63296497a4f3dc00949627585897f607b6362a29e0ea6"), looks := false }, kinds := [], alts := [], laidByText := true, laidKinds := [.data], laidTests := true, laidLooks := .later }
def MetaCommandsUptoCardSaid : Prop := Claim7.holds Tryz.pinned (.plain (OpenSpec.upto metaCommandsSpec)) metaCommandsUptoCard

/-- THE SECOND FORM's CARD OF 'plenumlaw15.MetaAgain'. -/
def metaAgainUptoCard : Claim7 := { stood := { row := metaAgainUptoRow, standIns := [], harness := (true, "6028c3fbc21ef06f69e63296497a4f3dc00949627585897f607b6362a29e0ea6"), looks := false }, kinds := [], alts := [], laidByText := true, laidKinds := [.data], laidTests := true, laidLooks := .later }
def MetaAgainUptoCardSaid : Prop := Claim7.holds Tryz.pinned (.plain (OpenSpec.upto metaAgainSpec)) metaAgainUptoCard
end Rows
end Go.Proofs.YtcgiicmmfleinaaGreatDoor
