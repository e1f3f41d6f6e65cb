/-
  DERIVED. GIVEN WITH THE SEED: THE CARDS: each row of YtepaflofbcokaaaGreatDoorRows.lean that lists a variable, with what it lists TIED to the program's text (the seventh form; the later family's looks); each row that meets fmt, with fmt's text TOLD by the authors' own Lean function (tested against real Go, not proved from fmt's source: count such statements apart). THE CARD IS WHAT COUNTS. Prove the row's statement (the work); the ties are given (YtepaflofbcokaaaGreatDoorTie.lean); close each card by the builder's one call (the guide's Derived/Test/ToyasCard.lean, 'card_holds'). Laid BY PROGRAM, IN A SANDBOX (cutbox-door.mjs). By AI agents, Wed Nov 11 2026. No macro, syntax, notation, axiom, sorry.
-/
import Derived.Test.YtepaflofbcokaaaGreatDoorRows
import GoSem.ClaimSeven
namespace Go.Proofs.YtepaflofbcokaaaGreatDoor
namespace Rows

/-- THE TIED CARD OF 'plenumlaw15.MetaDoes'. -/
def metaDoesCard : Claim7 := { stood := { row := metaDoesRow, standIns := [], harness := (true, "1aa2881b31952f5050213f8702212d194a65986b0ec82c5fcc1509522514c67b"), looks := false }, kinds := [], alts := [], laidByText := true, laidKinds := [.data], laidTests := true, laidLooks := .later }
def MetaDoesCardSaid : Prop := Claim7.holds Tryz.pinned (.plain (OpenSpec.ofChange metaDoesSpec)) metaDoesCard

/-- THE TIED CARD OF 'plenumlaw15.MetaCommands'. -/
def metaCommandsCard : Claim7 := { stood := { row := metaCommandsRow, standIns := [], harness := (true, "1aa2881b31952f5050213f8702212d194a65986b0ec82c5fcc1509522514c67b"), looks := false }, kinds := [], alts := [], laidByText := true, laidKinds := [.data], laidTests := true, laidLooks := .later }
def MetaCommandsCardSaid : Prop := Claim7.holds Tryz.pinned (.plain (OpenSpec.ofChange metaCommandsSpec)) metaCommandsCard

/-- THE SECOND FORM's CARD OF 'plenumlaw15.MetaDoes'. -/
def metaDoesUptoCard : Claim7 := { stood := { row := metaDoesUptoRow, standIns := [], harness := (true, "1aa2881b31952f5050213f8702212d194a65986b0ec82c5fcc1509522514c67b"), looks := false }, kinds := [], alts := [], laidByText := true, laidKinds := [.data], laidTests := true, laidLooks := .later }
def MetaDoesUptoCardSaid : Prop := Claim7.holds Tryz.pinned (.plain (OpenSpec.upto metaDoesSpec)) metaDoesUptoCard

/-- THE SECOND FORM's CARD OF 'plenumlaw15.MetaCommands'. -/
def metaCommandsUptoCard : Claim7 := { stood := { row := metaCommandsUptoRow, standIns := [], harness := (true, "1aa2881b31952f5050213f8702212d194a65986b0ec82c5fcc1509522514c67b"), looks := false }, kinds := [], alts := [], laidByText := true, laidKinds := [.data], laidTests := true, laidLooks := .later }
def MetaCommandsUptoCardSaid : Prop := Claim7.holds Tryz.pinned (.plain (OpenSpec.upto metaCommandsSpec)) metaCommandsUptoCard
end Rows
end Go.Proofs.YtepaflofbcokaaaGreatDoor
