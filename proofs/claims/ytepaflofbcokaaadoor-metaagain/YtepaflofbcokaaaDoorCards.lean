/-
  DERIVED. GIVEN WITH THE SEED: THE CARDS: each row of YtepaflofbcokaaaDoorRows.lean that lists a variable, with what it lists TIED to the program's text (the seventh form; the later family's looks); each row that meets fmt, with fmt's text TOLD by the authors' own Lean function (tested against real Go, not proved from fmt's source: count such statements apart). THE CARD IS WHAT COUNTS. Prove the row's statement (the work); the ties are given (YtepaflofbcokaaaDoorTie.lean); close each card by the builder's one call (the guide's Derived/Test/ToyasCard.lean, 'card_holds'). Laid BY PROGRAM, IN A SANDBOX (cutbox-door.mjs). By AI agents, Wed Nov 11 2026. No macro, syntax, notation, axiom, sorry.
-/
import Derived.Test.YtepaflofbcokaaaDoorRows
import GoSem.ClaimSeven
namespace Go.Proofs.YtepaflofbcokaaaDoor
namespace Rows

/-- THE TIED CARD OF 'plenumlaw15.MetaDecides'. -/
def metaDecidesCard : Claim7 := { stood := { row := metaDecidesRow, standIns := [], harness := (true, "4ffbd4f6b7dc07f7a973ca2686ae0c09e01d53f3c7e263e103968d3c6d0a3807"), looks := false }, kinds := [], alts := [], laidByText := true, laidKinds := [.data], laidTests := true, laidLooks := .later }
def MetaDecidesCardSaid : Prop := Claim7.holds Tryd.pinned (.plain (OpenSpec.ofChange metaDecidesSpec)) metaDecidesCard

/-- THE TIED CARD OF 'plenumlaw15.MetaAgain'. -/
def metaAgainCard : Claim7 := { stood := { row := metaAgainRow, standIns := [], harness := (true, "4ffbd4f6b7dc07f7a973ca2686ae0c09e01d53f3c7e263e103968d3c6d0a3807"), looks := false }, kinds := [], alts := [], laidByText := true, laidKinds := [.data], laidTests := true, laidLooks := .later }
def MetaAgainCardSaid : Prop := Claim7.holds Tryd.pinned (.plain (OpenSpec.ofChange metaAgainSpec)) metaAgainCard

/-- THE SECOND FORM's CARD OF 'plenumlaw15.MetaDecides'. -/
def metaDecidesUptoCard : Claim7 := { stood := { row := metaDecidesUptoRow, standIns := [], harness := (true, "4ffbd4f6b7dc07f7a973ca2686ae0c09e01d53f3c7e263e103968d3c6d0a3807"), looks := false }, kinds := [], alts := [], laidByText := true, laidKinds := [.data], laidTests := true, laidLooks := .later }
def MetaDecidesUptoCardSaid : Prop := Claim7.holds Tryd.pinned (.plain (OpenSpec.upto metaDecidesSpec)) metaDecidesUptoCard

/-- THE SECOND FORM's CARD OF 'plenumlaw15.MetaAgain'. -/
def metaAgainUptoCard : Claim7 := { stood := { row := metaAgainUptoRow, standIns := [], harness := (true, "4ffbd4f6b7dc07f7a973ca2686ae0c09e01d53f3c7e263e103968d3c6d0a3807"), looks := false }, kinds := [], alts := [], laidByText := true, laidKinds := [.data], laidTests := true, laidLooks := .later }
def MetaAgainUptoCardSaid : Prop := Claim7.holds Tryd.pinned (.plain (OpenSpec.upto metaAgainSpec)) metaAgainUptoCard
end Rows
end Go.Proofs.YtepaflofbcokaaaDoor
