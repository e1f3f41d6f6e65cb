/-
  NARROWER THAN 'FOR EVERY INPUT', by the rows' own cells (each row's printed sentence says how): MetaDecides: laid · MetaAgain: laid.
  DERIVED. THE GIVEN ROWS OF THIS SEAT. 2 by the template 'for every input the law returns true; each argument reads behind the call as it read before'; 0 by the template 'total and deterministic' (their statements: YtepaflofbcokaaaDoorTotals.lean).
  GIVEN WITH THE SEED: the statements are not yours to turn. If you find one false, say at which input.
  Laid BY PROGRAM, IN A SANDBOX (cutbox-rows.mjs): the forced cells as the released guide's own fill.sh prints them over the translation b52a51298dd2c5f0… (all of the seat's roots in one cut). By AI agents, Wed Nov 11 2026. No macro, syntax, notation, axiom, sorry.
-/
import Derived.Test.YtepaflofbcokaaaDoorChecked
import GoSem.Claim
import GoSem.ClaimJoined
import GoSem.ClaimMapViews
import Derived.JoinedTies
import Derived.KernelRfl
namespace Go.Proofs.YtepaflofbcokaaaDoor
/- THE CELL 'sum', in the pinned program and in every row, IS THE sha256 OF THE DUMP (.gsa) THAT YtepaflofbcokaaaDoorProg.lean LOADS. Nothing in Lean hashes anything: it is a label: what it is worth is what the hold of that sum in a sandbox is worth. -/
noncomputable def Tryd.pinned : Pinned := { name := "ytepaflofbcokaaadoor", sum := "b52a51298dd2c5f0fb2c1e2e319205c47c9fa74540dabebdcec4dcc6d7b7330b", checked := Tryd.checked }
namespace Rows
def none {H : Type} : Left H := { results := [], args := [] }

/- WHAT THE LISTED PACKAGE-LEVEL VARIABLES READ AS WHEN THE CALL BEGINS. Each datum BY PROGRAM (the guide's laid-datum.mjs) off the statement by which the dump's own 'gosem.cut.vars' lays the variable. In a bare row this is a premise. The card (YtepaflofbcokaaaDoorCards.lean) ties it to the program's text. -/
def laid_plenum_lock_fit {H : Type} : DataW H := .agg [.agg [.lit (.bool false), .lit (.bool false), .lit (.bool false), .lit (.bool false), .lit (.bool false)], .agg [.lit (.bool false), .lit (.bool true), .lit (.bool true), .lit (.bool true), .lit (.bool false)], .agg [.lit (.bool false), .lit (.bool true), .lit (.bool true), .lit (.bool false), .lit (.bool false)], .agg [.lit (.bool false), .lit (.bool true), .lit (.bool false), .lit (.bool true), .lit (.bool false)], .agg [.lit (.bool false), .lit (.bool false), .lit (.bool false), .lit (.bool false), .lit (.bool false)]]

/-- 'plenumlaw15.MetaDecides': WHATEVER THE INPUT: true; the input reads as it did. -/
def metaDecidesSpec : ChangeSpec := { name := "metaDecides", fn := fun _ => fun
  | [d] => { results := [.lit (.bool true)], args := [d] }
  | _ => none }
def metaDecidesRow : OpenClaim := { program := "ytepaflofbcokaaadoor", sum := "b52a51298dd2c5f0fb2c1e2e319205c47c9fa74540dabebdcec4dcc6d7b7330b", func := "plenum/plenumlaw15.MetaDecides", spec := "metaDecides", inPlace := ["internal/bytealg.Compare"], unfollowed := true, recurses := true, named := ["plenum/lock.fit"], plainKeys := false, apart := false, laid := [("plenum/lock.fit", laid_plenum_lock_fit)] }
def MetaDecidesSaid : Prop := metaDecidesRow.holds Tryd.pinned (OpenSpec.ofChange metaDecidesSpec)

/-- ITS FALSE NEIGHBOUR: 'it returns false'. Refute it at one input. -/
def metaDecidesWrong : ChangeSpec := { name := "metaDecides", fn := fun _ => fun
  | [d] => { results := [.lit (.bool false)], args := [d] }
  | _ => none }
def MetaDecidesWrongFalsely : Prop := metaDecidesRow.holds Tryd.pinned (OpenSpec.ofChange metaDecidesWrong)

/-- 'plenumlaw15.MetaAgain': WHATEVER THE INPUT: true; the input reads as it did. -/
def metaAgainSpec : ChangeSpec := { name := "metaAgain", fn := fun _ => fun
  | [d1, d2, d3, d4] => { results := [.lit (.bool true)], args := [d1, d2, d3, d4] }
  | _ => none }
def metaAgainRow : OpenClaim := { program := "ytepaflofbcokaaadoor", sum := "b52a51298dd2c5f0fb2c1e2e319205c47c9fa74540dabebdcec4dcc6d7b7330b", func := "plenum/plenumlaw15.MetaAgain", spec := "metaAgain", inPlace := ["internal/bytealg.Compare"], unfollowed := true, recurses := true, named := ["plenum/lock.fit"], plainKeys := false, apart := false, laid := [("plenum/lock.fit", laid_plenum_lock_fit)] }
def MetaAgainSaid : Prop := metaAgainRow.holds Tryd.pinned (OpenSpec.ofChange metaAgainSpec)

/-- ITS FALSE NEIGHBOUR: 'it returns false'. Refute it at one input. -/
def metaAgainWrong : ChangeSpec := { name := "metaAgain", fn := fun _ => fun
  | [d1, d2, d3, d4] => { results := [.lit (.bool false)], args := [d1, d2, d3, d4] }
  | _ => none }
def MetaAgainWrongFalsely : Prop := metaAgainRow.holds Tryd.pinned (OpenSpec.ofChange metaAgainWrong)

/- THE SECOND FORM. 'bulk': how many values and letters a reading holds, each counted each time it is reached (what is shared counts as often as it is met; a slice's spare places count too). A statement '..UptoSaid' is the law's where the arguments, and the package variables that the reading takes, are together of bulk at most 1048576: NARROWER than '..Said'. Prove '..Said' where nothing that the law and all that it calls make is longer than what came in: it says more and counts as full. Else prove '..UptoSaid'. A law counts once. -/
mutual
def uptoBulk {H : Type} : DataW H → Nat
  | .lit (.string bytes) => bytes.length + 1
  | .lit _ => 1
  | .nil => 1
  | .ptr d => uptoBulk d + 1
  | .slice elems spare => uptoBulkAll elems + uptoBulkAll spare + 1
  | .agg parts => uptoBulkAll parts + 1
  | .iface _ d => uptoBulk d + 1
  | .map entries => uptoBulkEntries entries + 1
  | .held _ => 1
def uptoBulkAll {H : Type} : List (DataW H) → Nat
  | [] => 0
  | d :: r => uptoBulk d + uptoBulkAll r
def uptoBulkEntries {H : Type} : List (Lit × DataW H) → Nat
  | [] => 0
  | x :: r => uptoBulkEntry x + uptoBulkEntries r
def uptoBulkEntry {H : Type} : Lit × DataW H → Nat
  | (.string bytes, d) => bytes.length + uptoBulk d + 1
  | (_, d) => uptoBulk d + 1
 end
def uptoSmall : (H : Type) → List (DataW H) → Bool := fun _ ds => decide (uptoBulkAll ds ≤ 1048576)
def OpenSpec.upto (s : _root_.Go.ChangeSpec) : _root_.Go.OpenSpec := { _root_.Go.OpenSpec.ofChange s with cond := some uptoSmall }

/-- 'plenumlaw15.MetaDecides', WHERE WHAT IT READS IS OF BULK AT MOST 1048576: true; the input reads as it did. -/
def metaDecidesUptoRow : OpenClaim := { program := "ytepaflofbcokaaadoor", sum := "b52a51298dd2c5f0fb2c1e2e319205c47c9fa74540dabebdcec4dcc6d7b7330b", func := "plenum/plenumlaw15.MetaDecides", spec := "metaDecides", inPlace := ["internal/bytealg.Compare"], unfollowed := true, recurses := true, named := ["plenum/lock.fit"], plainKeys := false, apart := false, laid := [("plenum/lock.fit", laid_plenum_lock_fit)], narrowed := true }
def MetaDecidesUptoSaid : Prop := metaDecidesUptoRow.holds Tryd.pinned (OpenSpec.upto metaDecidesSpec)

/-- 'plenumlaw15.MetaAgain', WHERE WHAT IT READS IS OF BULK AT MOST 1048576: true; the input reads as it did. -/
def metaAgainUptoRow : OpenClaim := { program := "ytepaflofbcokaaadoor", sum := "b52a51298dd2c5f0fb2c1e2e319205c47c9fa74540dabebdcec4dcc6d7b7330b", func := "plenum/plenumlaw15.MetaAgain", spec := "metaAgain", inPlace := ["internal/bytealg.Compare"], unfollowed := true, recurses := true, named := ["plenum/lock.fit"], plainKeys := false, apart := false, laid := [("plenum/lock.fit", laid_plenum_lock_fit)], narrowed := true }
def MetaAgainUptoSaid : Prop := metaAgainUptoRow.holds Tryd.pinned (OpenSpec.upto metaAgainSpec)

end Rows
end Go.Proofs.YtepaflofbcokaaaDoor
