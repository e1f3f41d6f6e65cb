/-
  DERIVED. GIVEN WITH THE SEED: THE CARDS: each row of YtcgiicmmfleinaaDoorRows.lean that lists a variable, with what it lists TIED to the program's text (the seventh form; the later family's looks); each row that meets fmt, with fmt's text TOLD by the authors' own Lean function (tested against real Go, not proved from fmt's source: count such statements apart). THE CARD IS WHAT COUNTS. Prove the row's statement (the work); the ties are given (YtcgiicmmfleinaaDoorTie.lean); close each card by the builder's one call (the guide's Derived/Test/ToyasCard.lean, 'card_holds'). Laid BY PROGRAM, IN A SANDBOX (cutbox-door.mjs). By AI agents, Wed Nov 11 2026. No macro, syntax, notation, axiom, sorry.
-/
import Derived.Test.YtcgiicmmfleinaaDoorRows
import GoSem.ClaimSeven
namespace Go.Proofs.YtcgiicmmfleinaaDoor
namespace Rows

/-- THE TIED CARD OF 'plenumlaw15.MetaDecides'. -/
def metaDecidesCard : Claim7 := { stood := { row := metaDecidesRow, standIns := [], harness := (true, "7eec4c4691e5ca0514c980e68ea41ca8b84293d640a53813c70c274746f1112a"), looks := false }, kinds := [], alts := [], laidByText := true, laidKinds := [.data], laidTests := true, laidLooks := .later }
def MetaDecidesCardSaid : Prop := Claim7.holds Tryd.pinned (.plain (OpenSpec.ofChange metaDecidesSpec)) metaDecidesCard

/-- THE SECOND FORM's CARD OF 'plenumlaw15.MetaDecides'. -/
def metaDecidesUptoCard : Claim7 := { stood := { row := metaDecidesUptoRow, standIns := [], harness := (true, "7eec4c4691e5ca0514c980e68ea41ca8b84293d640a53813c70c274746f1112a"), looks := false }, kinds := [], alts := [], laidByText := true, laidKinds := [.data], laidTests := true, laidLooks := .later }
def MetaDecidesUptoCardSaid : Prop := Claim7.holds Tryd.pinned (.plain (OpenSpec.upto metaDecidesSpec)) metaDecidesUptoCard
end Rows
end Go.Proofs.YtcgiicmmfleinaaDoor
