/-
  DERIVED. GIVEN WITH THE SEED: THE CARDS: each row of YtbnojmaknlfphaaDoorRows.lean that lists a variable, with what it lists TIED to the program's text (the seventh form; the later family's looks); each row that meets fmt, with fmt's text TOLD by the authors' own Lean function (tested against real Go, not proved from fmt's source: count such statements apart). THE CARD IS WHAT COUNTS. Prove the row's statement (the work); the ties are given (YtbnojmaknlfphaaDoorTie.lean); close each card by the builder's one call (the guide's Derived/Test/ToyasCard.lean, 'card_holds'). Laid BY PROGRAM, IN A SANDBOX (cutbox-door.mjs). By AI agents, Wed Nov 11 2026. No macro, syntax, notation, axiom, sorry.
-/
import Derived.Test.YtbnojmaknlfphaaDoorRows
import GoSem.ClaimSeven
namespace Go.Proofs.YtbnojmaknlfphaaDoor
namespace Rows

/-- THE TIED CARD OF 'plenumlaw14.LockModes'. -/
def lockModesCard : Claim7 := { stood := { row := lockModesRow, standIns := [], harness := (true, "7f48129d82bf239af6cf9dc5be1d639c91a9cc4662a83d54d530934fab1a1032"), looks := false }, kinds := [], alts := [], laidByText := true, laidKinds := [.data], laidTests := true, laidLooks := .later }
def LockModesCardSaid : Prop := Claim7.holds Tryd.pinned (.plain (OpenSpec.ofChange lockModesSpec)) lockModesCard

/-- THE TIED CARD OF 'plenumlaw14.LockDoes'. -/
def lockDoesCard : Claim7 := { stood := { row := lockDoesRow, standIns := [], harness := (true, "7f48129d82bf239af6cf9dc5be1d639c91a9cc4662a83d54d530934fab1a1032"), looks := false }, kinds := [], alts := [], laidByText := true, laidKinds := [.data], laidTests := true, laidLooks := .later }
def LockDoesCardSaid : Prop := Claim7.holds Tryd.pinned (.plain (OpenSpec.ofChange lockDoesSpec)) lockDoesCard

/-- THE TIED CARD OF 'plenumlaw14.LockTogether'. -/
def lockTogetherCard : Claim7 := { stood := { row := lockTogetherRow, standIns := [], harness := (true, "7f48129d82bf239af6cf9dc5be1d639c91a9cc4662a83d54d530934fab1a1032"), looks := false }, kinds := [], alts := [], laidByText := true, laidKinds := [.data], laidTests := true, laidLooks := .later }
def LockTogetherCardSaid : Prop := Claim7.holds Tryd.pinned (.plain (OpenSpec.ofChange lockTogetherSpec)) lockTogetherCard

/-- THE TIED CARD OF 'plenumlaw14.LockRings'. -/
def lockRingsCard : Claim7 := { stood := { row := lockRingsRow, standIns := [], harness := (true, "7f48129d82bf239af6cf9dc5be1d639c91a9cc4662a83d54d530934fab1a1032"), looks := false }, kinds := [], alts := [], laidByText := true, laidKinds := [.data], laidTests := true, laidLooks := .later }
def LockRingsCardSaid : Prop := Claim7.holds Tryd.pinned (.plain (OpenSpec.ofChange lockRingsSpec)) lockRingsCard

/-- THE TIED CARD OF 'plenumlaw14.LockComes'. -/
def lockComesCard : Claim7 := { stood := { row := lockComesRow, standIns := [], harness := (true, "7f48129d82bf239af6cf9dc5be1d639c91a9cc4662a83d54d530934fab1a1032"), looks := false }, kinds := [], alts := [], laidByText := true, laidKinds := [.data], laidTests := true, laidLooks := .later }
def LockComesCardSaid : Prop := Claim7.holds Tryd.pinned (.plain (OpenSpec.ofChange lockComesSpec)) lockComesCard

/-- THE TIED CARD OF 'plenumlaw14.LockHolds'. -/
def lockHoldsCard : Claim7 := { stood := { row := lockHoldsRow, standIns := [], harness := (true, "7f48129d82bf239af6cf9dc5be1d639c91a9cc4662a83d54d530934fab1a1032"), looks := false }, kinds := [], alts := [], laidByText := true, laidKinds := [.data], laidTests := true, laidLooks := .later }
def LockHoldsCardSaid : Prop := Claim7.holds Tryd.pinned (.plain (OpenSpec.ofChange lockHoldsSpec)) lockHoldsCard

/-- THE SECOND FORM's CARD OF 'plenumlaw14.LockModes'. -/
def lockModesUptoCard : Claim7 := { stood := { row := lockModesUptoRow, standIns := [], harness := (true, "7f48129d82bf239af6cf9dc5be1d639c91a9cc4662a83d54d530934fab1a1032"), looks := false }, kinds := [], alts := [], laidByText := true, laidKinds := [.data], laidTests := true, laidLooks := .later }
def LockModesUptoCardSaid : Prop := Claim7.holds Tryd.pinned (.plain (OpenSpec.upto lockModesSpec)) lockModesUptoCard

/-- THE SECOND FORM's CARD OF 'plenumlaw14.LockDoes'. -/
def lockDoesUptoCard : Claim7 := { stood := { row := lockDoesUptoRow, standIns := [], harness := (true, "7f48129d82bf239af6cf9dc5be1d639c91a9cc4662a83d54d530934fab1a1032"), looks := false }, kinds := [], alts := [], laidByText := true, laidKinds := [.data], laidTests := true, laidLooks := .later }
def LockDoesUptoCardSaid : Prop := Claim7.holds Tryd.pinned (.plain (OpenSpec.upto lockDoesSpec)) lockDoesUptoCard

/-- THE SECOND FORM's CARD OF 'plenumlaw14.LockTogether'. -/
def lockTogetherUptoCard : Claim7 := { stood := { row := lockTogetherUptoRow, standIns := [], harness := (true, "7f48129d82bf239af6cf9dc5be1d639c91a9cc4662a83d54d530934fab1a1032"), looks := false }, kinds := [], alts := [], laidByText := true, laidKinds := [.data], laidTests := true, laidLooks := .later }
def LockTogetherUptoCardSaid : Prop := Claim7.holds Tryd.pinned (.plain (OpenSpec.upto lockTogetherSpec)) lockTogetherUptoCard

/-- THE SECOND FORM's CARD OF 'plenumlaw14.LockRings'. -/
def lockRingsUptoCard : Claim7 := { stood := { row := lockRingsUptoRow, standIns := [], harness := (true, "7f48129d82bf239af6cf9dc5be1d639c91a9cc4662a83d54d530934fab1a1032"), looks := false }, kinds := [], alts := [], laidByText := true, laidKinds := [.data], laidTests := true, laidLooks := .later }
def LockRingsUptoCardSaid : Prop := Claim7.holds Tryd.pinned (.plain (OpenSpec.upto lockRingsSpec)) lockRingsUptoCard

/-- THE SECOND FORM's CARD OF 'plenumlaw14.LockComes'. -/
def lockComesUptoCard : Claim7 := { stood := { row := lockComesUptoRow, standIns := [], harness := (true, "7f48129d82bf239af6cf9dc5be1d639c91a9cc4662a83d54d530934fab1a1032"), looks := false }, kinds := [], alts := [], laidByText := true, laidKinds := [.data], laidTests := true, laidLooks := .later }
def LockComesUptoCardSaid : Prop := Claim7.holds Tryd.pinned (.plain (OpenSpec.upto lockComesSpec)) lockComesUptoCard

/-- THE SECOND FORM's CARD OF 'plenumlaw14.LockHolds'. -/
def lockHoldsUptoCard : Claim7 := { stood := { row := lockHoldsUptoRow, standIns := [], harness := (true, "7f48129d82bf239af6cf9dc5be1d639c91a9cc4662a83d54d530934fab1a1032"), looks := false }, kinds := [], alts := [], laidByText := true, laidKinds := [.data], laidTests := true, laidLooks := .later }
def LockHoldsUptoCardSaid : Prop := Claim7.holds Tryd.pinned (.plain (OpenSpec.upto lockHoldsSpec)) lockHoldsUptoCard
end Rows
end Go.Proofs.YtbnojmaknlfphaaDoor
