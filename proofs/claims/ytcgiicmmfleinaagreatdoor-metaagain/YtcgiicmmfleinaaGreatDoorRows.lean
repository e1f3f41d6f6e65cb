/-
  NARROWER THAN 'FOR EVERY INPUT', by the rows' own cells (each row's printed sentence says how): MetaDoes: laid · MetaCommands: laid · MetaAgain: laid.
  DERIVED. THE GIVEN ROWS OF THIS SEAT. 3 by the template 'for every input the law returns true; each argument reads behind the call as it read before'; 0 by the template 'total and deterministic' (their statements: YtcgiicmmfleinaaGreatDoorTotals.lean).
  GIVEN WITH THE SEED: the statements are not yours to turn. If you find one false, say at which input.
  Laid BY PROGRAM, IN A SANDBOX (cutbox-rows.mjs): the forced cells as the released guide's own fill.sh prints them over the translation f54f7a4060ef2287… (all of the seat's roots in one cut). By AI agents, Wed Nov 11 2026. No macro, syntax, notation, axiom, sorry.
-/
import Derived.Test.YtcgiicmmfleinaaGreatDoorChecked
import GoSem.Claim
import GoSem.ClaimJoined
import GoSem.ClaimMapViews
import Derived.JoinedTies
import Derived.KernelRfl
namespace Go.Proofs.YtcgiicmmfleinaaGreatDoor
/- THE CELL 'sum', in the pinned program and in every row, IS THE sha256 OF THE DUMP (.gsa) THAT YtcgiicmmfleinaaGreatDoorProg.lean LOADS. Nothing in Lean hashes anything: it is a label: what it is worth is what the hold of that sum in a sandbox is worth. -/
noncomputable def Tryz.pinned : Pinned := { name := "ytcgiicmmfleinaagreatdoor", sum := "f54f7a4060ef2287989e021466498f01b1bd93744fc53ad4af3b0a4d7e7381bc", checked := Tryz.checked }
namespace Rows
def none {H : Type} : Left H := { results := [], args := [] }

/- WHAT THE LISTED PACKAGE-LEVEL VARIABLES READ AS WHEN THE CALL BEGINS. Each datum BY PROGRAM (the guide's laid-datum.mjs) off the statement by which the dump's own 'gosem.cut.vars' lays the variable. In a bare row this is a premise. The card (YtcgiicmmfleinaaGreatDoorCards.lean) ties it to the program's text. -/
def laid_plenum_lock_fit {H : Type} : DataW H := .agg [.agg [.lit (.bool false), .lit (.bool false), .lit (.bool false), .lit (.bool false), .lit (.bool false)], .agg [.lit (.bool false), .lit (.bool true), .lit (.bool true), .lit (.bool true), .lit (.bool false)], .agg [.lit (.bool false), .lit (.bool true), .lit (.bool true), .lit (.bool false), .lit (.bool false)], .agg [.lit (.bool false), .lit (.bool true), .lit (.bool false), .lit (.bool true), .lit (.bool false)], .agg [.lit (.bool false), .lit (.bool false), .lit (.bool false), .lit (.bool false), .lit (.bool false)]]

/-- 'plenumlaw15.MetaDoes': WHATEVER THE INPUT: true; the input reads as it did. -/
def metaDoesSpec : ChangeSpec := { name := "metaDoes", fn := fun _ => fun
  | [d] => { results := [.lit (.bool true)], args := [d] }
  | _ => none }
def metaDoesRow : OpenClaim := { program := "ytcgiicmmfleinaagreatdoor", sum := "f54f7a4060ef2287989e021466498f01b1bd93744fc53ad4af3b0a4d7e7381bc", func := "plenum/plenumlaw15.MetaDoes", spec := "metaDoes", inPlace := ["internal/bytealg.Compare"], unfollowed := true, recurses := true, named := ["plenum/lock.fit"], plainKeys := false, apart := false, laid := [("plenum/lock.fit", laid_plenum_lock_fit)] }
def MetaDoesSaid : Prop := metaDoesRow.holds Tryz.pinned (OpenSpec.ofChange metaDoesSpec)

/-- ITS FALSE NEIGHBOUR: 'it returns false'. Refute it at one input. -/
def metaDoesWrong : ChangeSpec := { name := "metaDoes", fn := fun _ => fun
  | [d] => { results := [.lit (.bool false)], args := [d] }
  | _ => none }
def MetaDoesWrongFalsely : Prop := metaDoesRow.holds Tryz.pinned (OpenSpec.ofChange metaDoesWrong)

/-- 'plenumlaw15.MetaCommands': WHATEVER THE INPUT: true; the input reads as it did. -/
def metaCommandsSpec : ChangeSpec := { name := "metaCommands", fn := fun _ => fun
  | [d1, d2] => { results := [.lit (.bool true)], args := [d1, d2] }
  | _ => none }
def metaCommandsRow : OpenClaim := { program := "ytcgiicmmfleinaagreatdoor", sum := "f54f7a4060ef2287989e021466498f01b1bd93744fc53ad4af3b0a4d7e7381bc", func := "plenum/plenumlaw15.MetaCommands", spec := "metaCommands", inPlace := ["internal/bytealg.Compare"], unfollowed := true, recurses := true, named := ["plenum/lock.fit"], plainKeys := false, apart := false, laid := [("plenum/lock.fit", laid_plenum_lock_fit)] }
def MetaCommandsSaid : Prop := metaCommandsRow.holds Tryz.pinned (OpenSpec.ofChange metaCommandsSpec)

/-- ITS FALSE NEIGHBOUR: 'it returns false'. Refute it at one input. -/
def metaCommandsWrong : ChangeSpec := { name := "metaCommands", fn := fun _ => fun
  | [d1, d2] => { results := [.lit (.bool false)], args := [d1, d2] }
  | _ => none }
def MetaCommandsWrongFalsely : Prop := metaCommandsRow.holds Tryz.pinned (OpenSpec.ofChange metaCommandsWrong)

/-- 'plenumlaw15.MetaAgain': WHATEVER THE INPUT: true; the input reads as it did. -/
def metaAgainSpec : ChangeSpec := { name := "metaAgain", fn := fun _ => fun
  | [d1, d2, d3, d4] => { results := [.lit (.bool true)], args := [d1, d2, d3, d4] }
  | _ => none }
def metaAgainRow : OpenClaim := { program := "ytcgiicmmfleinaagreatdoor", sum := "f54f7a4060ef2287989e021466498f01b1bd93744fc53ad4af3b0a4d7e7381bc", func := "plenum/plenumlaw15.MetaAgain", spec := "metaAgain", inPlace := ["internal/bytealg.Compare"], unfollowed := true, recurses := true, named := ["plenum/lock.fit"], plainKeys := false, apart := false, laid := [("plenum/lock.fit", laid_plenum_lock_fit)] }
def MetaAgainSaid : Prop := metaAgainRow.holds Tryz.pinned (OpenSpec.ofChange metaAgainSpec)

/-- ITS FALSE NEIGHBOUR: 'it returns false'. Refute it at one input. -/
def metaAgainWrong : ChangeSpec := { name := "metaAgain", fn := fun _ => fun
  | [d1, d2, d3, d4] => { results := [.lit (.bool false)], args := [d1, d2, d3, d4] }
  | _ => none }
def MetaAgainWrongFalsely : Prop := metaAgainRow.holds Tryz.pinned (OpenSpec.ofChange metaAgainWrong)

/- THE SECOND FORM. 'bulk': how many values and letters a reading holds, each counted each time it is reached (what is shared counts as often as it is met; a slice's spare places count too). A statement '..UptoSaid' is the law's where the arguments, and the package variables that the reading takes, are together of bulk at most 1048576: NARROWER than '..Said'. Prove '..Said' where nothing that the law and all that it calls make is longer than what came in: it says more and counts as full. Else prove '..UptoSaid'. A law counts once. -/
mutual
def uptoBulk {H : Type} : DataW H → Nat
  | .lit (.string bytes) => bytes.length + 1
  | .lit _ => 1
  | .nil => 1
  | .ptr d => uptoBulk d + 1
  | .slice elems spare => uptoBulkAll elems + uptoBulkAll spare + 1
  | .agg parts => uptoBulkAll parts + 1
  | .iface _ d => uptoBulk d + 1
  | .map entries => uptoBulkEntries entries + 1
  | .held _ => 1
def uptoBulkAll {H : Type} : List (DataW H) → Nat
  | [] => 0
  | d :: r => uptoBulk d + uptoBulkAll r
def uptoBulkEntries {H : Type} : List (Lit × DataW H) → Nat
  | [] => 0
  | x :: r => uptoBulkEntry x + uptoBulkEntries r
def uptoBulkEntry {H : Type} : Lit × DataW H → Nat
  | (.string bytes, d) => bytes.length + uptoBulk d + 1
  | (_, d) => uptoBulk d + 1
 end
def uptoSmall : (H : Type) → List (DataW H) → Bool := fun _ ds => decide (uptoBulkAll ds ≤ 1048576)
def OpenSpec.upto (s : _root_.Go.ChangeSpec) : _root_.Go.OpenSpec := { _root_.Go.OpenSpec.ofChange s with cond := some uptoSmall }

/-- 'plenumlaw15.MetaDoes', WHERE WHAT IT READS IS OF BULK AT MOST 1048576: true; the input reads as it did. -/
def metaDoesUptoRow : OpenClaim := { program := "ytcgiicmmfleinaagreatdoor", sum := "f54f7a4060ef2287989e021466498f01b1bd93744fc53ad4af3b0a4d7e7381bc", func := "plenum/plenumlaw15.MetaDoes", spec := "metaDoes", inPlace := ["internal/bytealg.Compare"], unfollowed := true, recurses := true, named := ["plenum/lock.fit"], plainKeys := false, apart := false, laid := [("plenum/lock.fit", laid_plenum_lock_fit)], narrowed := true }
def MetaDoesUptoSaid : Prop := metaDoesUptoRow.holds Tryz.pinned (OpenSpec.upto metaDoesSpec)

/-- 'plenumlaw15.MetaCommands', WHERE WHAT IT READS IS OF BULK AT MOST 1048576: true; the input reads as it did. -/
def metaCommandsUptoRow : OpenClaim := { program := "ytcgiicmmfleinaagreatdoor", sum := "f54f7a4060ef2287989e021466498f01b1bd93744fc53ad4af3b0a4d7e7381bc", func := "plenum/plenumlaw15.MetaCommands", spec := "metaCommands", inPlace := ["internal/bytealg.Compare"], unfollowed := true, recurses := true, named := ["plenum/lock.fit"], plainKeys := false, apart := false, laid := [("plenum/lock.fit", laid_plenum_lock_fit)], narrowed := true }
def MetaCommandsUptoSaid : Prop := metaCommandsUptoRow.holds Tryz.pinned (OpenSpec.upto metaCommandsSpec)

/-- 'plenumlaw15.MetaAgain', WHERE WHAT IT READS IS OF BULK AT MOST 1048576: true; the input reads as it did. -/
def metaAgainUptoRow : OpenClaim := { program := "ytcgiicmmfleinaagreatdoor", sum := "f54f7a4060ef2287989e021466498f01b1bd93744fc53ad4af3b0a4d7e7381bc", func := "plenum/plenumlaw15.MetaAgain", spec := "metaAgain", inPlace := ["internal/bytealg.Compare"], unfollowed := true, recurses := true, named := ["plenum/lock.fit"], plainKeys := false, apart := false, laid := [("plenum/lock.fit", laid_plenum_lock_fit)], narrowed := true }
def MetaAgainUptoSaid : Prop := metaAgainUptoRow.holds Tryz.pinned (OpenSpec.upto metaAgainSpec)

end Rows
end Go.Proofs.YtcgiicmmfleinaaGreatDoor
