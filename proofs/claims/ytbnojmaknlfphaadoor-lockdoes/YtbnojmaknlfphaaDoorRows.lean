/-
  NARROWER THAN 'FOR EVERY INPUT', by the rows' own cells (each row's printed sentence says how): LockModes: laid · LockDoes: laid · LockTogether: laid · LockRings: laid · LockComes: laid · LockHolds: laid.
  DERIVED. THE GIVEN ROWS OF THIS SEAT. 6 by the template 'for every input the law returns true; each argument reads behind the call as it read before'; 0 by the template 'total and deterministic' (their statements: YtbnojmaknlfphaaDoorTotals.lean).
  GIVEN WITH THE SEED: the statements are not yours to turn. If you find one false, say at which input.
  Laid BY PROGRAM, IN A SANDBOX (cutbox-rows.mjs): the forced cells as the released guide's own fill.sh prints them over the translation bb74f989015b12c1… (all of the seat's roots in one cut). By AI agents, Wed Nov 11 2026. No macro, syntax, notation, axiom, sorry.
-/
import Derived.Test.YtbnojmaknlfphaaDoorChecked
import GoSem.Claim
import GoSem.ClaimJoined
import GoSem.ClaimMapViews
import Derived.JoinedTies
import Derived.KernelRfl
namespace Go.Proofs.YtbnojmaknlfphaaDoor
/- THE CELL 'sum', in the pinned program and in every row, IS THE sha256 OF THE DUMP (.gsa) THAT YtbnojmaknlfphaaDoorProg.lean LOADS. Nothing in Lean hashes anything: it is a label: what it is worth is what the hold of that sum in a sandbox is worth. -/
noncomputable def Tryd.pinned : Pinned := { name := "ytbnojmaknlfphaadoor", sum := "bb74f989015b12c1a2bd9ebc01bb00dd78b23e00e5b9930ff2ee2c470a8b695d", checked := Tryd.checked }
namespace Rows
def none {H : Type} : Left H := { results := [], args := [] }

/- WHAT THE LISTED PACKAGE-LEVEL VARIABLES READ AS WHEN THE CALL BEGINS. Each datum BY PROGRAM (the guide's laid-datum.mjs) off the statement by which the dump's own 'gosem.cut.vars' lays the variable. In a bare row this is a premise. The card (YtbnojmaknlfphaaDoorCards.lean) ties it to the program's text. -/
def laid_plenum_lock_fit {H : Type} : DataW H := .agg [.agg [.lit (.bool false), .lit (.bool false), .lit (.bool false), .lit (.bool false), .lit (.bool false)], .agg [.lit (.bool false), .lit (.bool true), .lit (.bool true), .lit (.bool true), .lit (.bool false)], .agg [.lit (.bool false), .lit (.bool true), .lit (.bool true), .lit (.bool false), .lit (.bool false)], .agg [.lit (.bool false), .lit (.bool true), .lit (.bool false), .lit (.bool true), .lit (.bool false)], .agg [.lit (.bool false), .lit (.bool false), .lit (.bool false), .lit (.bool false), .lit (.bool false)]]

/-- 'plenumlaw14.LockModes': WHATEVER THE INPUT: true; the input reads as it did. -/
def lockModesSpec : ChangeSpec := { name := "lockModes", fn := fun _ => fun
  | [d1, d2, d3, d4] => { results := [.lit (.bool true)], args := [d1, d2, d3, d4] }
  | _ => none }
def lockModesRow : OpenClaim := { program := "ytbnojmaknlfphaadoor", sum := "bb74f989015b12c1a2bd9ebc01bb00dd78b23e00e5b9930ff2ee2c470a8b695d", func := "plenum/plenumlaw14.LockModes", spec := "lockModes", inPlace := ["internal/bytealg.Compare"], unfollowed := true, recurses := true, named := ["plenum/lock.fit"], plainKeys := false, apart := false, laid := [("plenum/lock.fit", laid_plenum_lock_fit)] }
def LockModesSaid : Prop := lockModesRow.holds Tryd.pinned (OpenSpec.ofChange lockModesSpec)

/-- ITS FALSE NEIGHBOUR: 'it returns false'. Refute it at one input. -/
def lockModesWrong : ChangeSpec := { name := "lockModes", fn := fun _ => fun
  | [d1, d2, d3, d4] => { results := [.lit (.bool false)], args := [d1, d2, d3, d4] }
  | _ => none }
def LockModesWrongFalsely : Prop := lockModesRow.holds Tryd.pinned (OpenSpec.ofChange lockModesWrong)

/-- 'plenumlaw14.LockDoes': WHATEVER THE INPUT: true; the input reads as it did. -/
def lockDoesSpec : ChangeSpec := { name := "lockDoes", fn := fun _ => fun
  | [d] => { results := [.lit (.bool true)], args := [d] }
  | _ => none }
def lockDoesRow : OpenClaim := { program := "ytbnojmaknlfphaadoor", sum := "bb74f989015b12c1a2bd9ebc01bb00dd78b23e00e5b9930ff2ee2c470a8b695d", func := "plenum/plenumlaw14.LockDoes", spec := "lockDoes", inPlace := ["internal/bytealg.Compare"], unfollowed := true, recurses := true, named := ["plenum/lock.fit"], plainKeys := false, apart := false, laid := [("plenum/lock.fit", laid_plenum_lock_fit)] }
def LockDoesSaid : Prop := lockDoesRow.holds Tryd.pinned (OpenSpec.ofChange lockDoesSpec)

/-- ITS FALSE NEIGHBOUR: 'it returns false'. Refute it at one input. -/
def lockDoesWrong : ChangeSpec := { name := "lockDoes", fn := fun _ => fun
  | [d] => { results := [.lit (.bool false)], args := [d] }
  | _ => none }
def LockDoesWrongFalsely : Prop := lockDoesRow.holds Tryd.pinned (OpenSpec.ofChange lockDoesWrong)

/-- 'plenumlaw14.LockTogether': WHATEVER THE INPUT: true; the input reads as it did. -/
def lockTogetherSpec : ChangeSpec := { name := "lockTogether", fn := fun _ => fun
  | [d] => { results := [.lit (.bool true)], args := [d] }
  | _ => none }
def lockTogetherRow : OpenClaim := { program := "ytbnojmaknlfphaadoor", sum := "bb74f989015b12c1a2bd9ebc01bb00dd78b23e00e5b9930ff2ee2c470a8b695d", func := "plenum/plenumlaw14.LockTogether", spec := "lockTogether", inPlace := ["internal/bytealg.Compare"], unfollowed := true, recurses := true, named := ["plenum/lock.fit"], plainKeys := false, apart := false, laid := [("plenum/lock.fit", laid_plenum_lock_fit)] }
def LockTogetherSaid : Prop := lockTogetherRow.holds Tryd.pinned (OpenSpec.ofChange lockTogetherSpec)

/-- ITS FALSE NEIGHBOUR: 'it returns false'. Refute it at one input. -/
def lockTogetherWrong : ChangeSpec := { name := "lockTogether", fn := fun _ => fun
  | [d] => { results := [.lit (.bool false)], args := [d] }
  | _ => none }
def LockTogetherWrongFalsely : Prop := lockTogetherRow.holds Tryd.pinned (OpenSpec.ofChange lockTogetherWrong)

/-- 'plenumlaw14.LockRings': WHATEVER THE INPUT: true; the input reads as it did. -/
def lockRingsSpec : ChangeSpec := { name := "lockRings", fn := fun _ => fun
  | [d] => { results := [.lit (.bool true)], args := [d] }
  | _ => none }
def lockRingsRow : OpenClaim := { program := "ytbnojmaknlfphaadoor", sum := "bb74f989015b12c1a2bd9ebc01bb00dd78b23e00e5b9930ff2ee2c470a8b695d", func := "plenum/plenumlaw14.LockRings", spec := "lockRings", inPlace := ["internal/bytealg.Compare"], unfollowed := true, recurses := true, named := ["plenum/lock.fit"], plainKeys := false, apart := false, laid := [("plenum/lock.fit", laid_plenum_lock_fit)] }
def LockRingsSaid : Prop := lockRingsRow.holds Tryd.pinned (OpenSpec.ofChange lockRingsSpec)

/-- ITS FALSE NEIGHBOUR: 'it returns false'. Refute it at one input. -/
def lockRingsWrong : ChangeSpec := { name := "lockRings", fn := fun _ => fun
  | [d] => { results := [.lit (.bool false)], args := [d] }
  | _ => none }
def LockRingsWrongFalsely : Prop := lockRingsRow.holds Tryd.pinned (OpenSpec.ofChange lockRingsWrong)

/-- 'plenumlaw14.LockComes': WHATEVER THE INPUT: true; the input reads as it did. -/
def lockComesSpec : ChangeSpec := { name := "lockComes", fn := fun _ => fun
  | [d1, d2] => { results := [.lit (.bool true)], args := [d1, d2] }
  | _ => none }
def lockComesRow : OpenClaim := { program := "ytbnojmaknlfphaadoor", sum := "bb74f989015b12c1a2bd9ebc01bb00dd78b23e00e5b9930ff2ee2c470a8b695d", func := "plenum/plenumlaw14.LockComes", spec := "lockComes", inPlace := ["internal/bytealg.Compare"], unfollowed := true, recurses := true, named := ["plenum/lock.fit"], plainKeys := false, apart := false, laid := [("plenum/lock.fit", laid_plenum_lock_fit)] }
def LockComesSaid : Prop := lockComesRow.holds Tryd.pinned (OpenSpec.ofChange lockComesSpec)

/-- ITS FALSE NEIGHBOUR: 'it returns false'. Refute it at one input. -/
def lockComesWrong : ChangeSpec := { name := "lockComes", fn := fun _ => fun
  | [d1, d2] => { results := [.lit (.bool false)], args := [d1, d2] }
  | _ => none }
def LockComesWrongFalsely : Prop := lockComesRow.holds Tryd.pinned (OpenSpec.ofChange lockComesWrong)

/-- 'plenumlaw14.LockHolds': WHATEVER THE INPUT: true; the input reads as it did. -/
def lockHoldsSpec : ChangeSpec := { name := "lockHolds", fn := fun _ => fun
  | [d1, d2] => { results := [.lit (.bool true)], args := [d1, d2] }
  | _ => none }
def lockHoldsRow : OpenClaim := { program := "ytbnojmaknlfphaadoor", sum := "bb74f989015b12c1a2bd9ebc01bb00dd78b23e00e5b9930ff2ee2c470a8b695d", func := "plenum/plenumlaw14.LockHolds", spec := "lockHolds", inPlace := ["internal/bytealg.Compare"], unfollowed := true, recurses := true, named := ["plenum/lock.fit"], plainKeys := false, apart := false, laid := [("plenum/lock.fit", laid_plenum_lock_fit)] }
def LockHoldsSaid : Prop := lockHoldsRow.holds Tryd.pinned (OpenSpec.ofChange lockHoldsSpec)

/-- ITS FALSE NEIGHBOUR: 'it returns false'. Refute it at one input. -/
def lockHoldsWrong : ChangeSpec := { name := "lockHolds", fn := fun _ => fun
  | [d1, d2] => { results := [.lit (.bool false)], args := [d1, d2] }
  | _ => none }
def LockHoldsWrongFalsely : Prop := lockHoldsRow.holds Tryd.pinned (OpenSpec.ofChange lockHoldsWrong)

/- THE SECOND FORM. 'bulk': how many values and letters a reading holds, each counted each time it is reached (what is shared counts as often as it is met; a slice's spare places count too). A statement '..UptoSaid' is the law's where the arguments, and the package variables that the reading takes, are together of bulk at most 1048576: NARROWER than '..Said'. Prove '..Said' where nothing that the law and all that it calls make is longer than what came in: it says more and counts as full. Else prove '..UptoSaid'. A law counts once. -/
mutual
def uptoBulk {H : Type} : DataW H → Nat
  | .lit (.string bytes) => bytes.length + 1
  | .lit _ => 1
  | .nil => 1
  | .ptr d => uptoBulk d + 1
  | .slice elems spare => uptoBulkAll elems + uptoBulkAll spare + 1
  | .agg parts => uptoBulkAll parts + 1
  | .iface _ d => uptoBulk d + 1
  | .map entries => uptoBulkEntries entries + 1
  | .held _ => 1
def uptoBulkAll {H : Type} : List (DataW H) → Nat
  | [] => 0
  | d :: r => uptoBulk d + uptoBulkAll r
def uptoBulkEntries {H : Type} : List (Lit × DataW H) → Nat
  | [] => 0
  | x :: r => uptoBulkEntry x + uptoBulkEntries r
def uptoBulkEntry {H : Type} : Lit × DataW H → Nat
  | (.string bytes, d) => bytes.length + uptoBulk d + 1
  | (_, d) => uptoBulk d + 1
 end
def uptoSmall : (H : Type) → List (DataW H) → Bool := fun _ ds => decide (uptoBulkAll ds ≤ 1048576)
def OpenSpec.upto (s : _root_.Go.ChangeSpec) : _root_.Go.OpenSpec := { _root_.Go.OpenSpec.ofChange s with cond := some uptoSmall }

/-- 'plenumlaw14.LockModes', WHERE WHAT IT READS IS OF BULK AT MOST 1048576: true; the input reads as it did. -/
def lockModesUptoRow : OpenClaim := { program := "ytbnojmaknlfphaadoor", sum := "bb74f989015b12c1a2bd9ebc01bb00dd78b23e00e5b9930ff2ee2c470a8b695d", func := "plenum/plenumlaw14.LockModes", spec := "lockModes", inPlace := ["internal/bytealg.Compare"], unfollowed := true, recurses := true, named := ["plenum/lock.fit"], plainKeys := false, apart := false, laid := [("plenum/lock.fit", laid_plenum_lock_fit)], narrowed := true }
def LockModesUptoSaid : Prop := lockModesUptoRow.holds Tryd.pinned (OpenSpec.upto lockModesSpec)

/-- 'plenumlaw14.LockDoes', WHERE WHAT IT READS IS OF BULK AT MOST 1048576: true; the input reads as it did. -/
def lockDoesUptoRow : OpenClaim := { program := "ytbnojmaknlfphaadoor", sum := "bb74f989015b12c1a2bd9ebc01bb00dd78b23e00e5b9930ff2ee2c470a8b695d", func := "plenum/plenumlaw14.LockDoes", spec := "lockDoes", inPlace := ["internal/bytealg.Compare"], unfollowed := true, recurses := true, named := ["plenum/lock.fit"], plainKeys := false, apart := false, laid := [("plenum/lock.fit", laid_plenum_lock_fit)], narrowed := true }
def LockDoesUptoSaid : Prop := lockDoesUptoRow.holds Tryd.pinned (OpenSpec.upto lockDoesSpec)

/-- 'plenumlaw14.LockTogether', WHERE WHAT IT READS IS OF BULK AT MOST 1048576: true; the input reads as it did. -/
def lockTogetherUptoRow : OpenClaim := { program := "ytbnojmaknlfphaadoor", sum := "bb74f989015b12c1a2bd9ebc01bb00dd78b23e00e5b9930ff2ee2c470a8b695d", func := "plenum/plenumlaw14.LockTogether", spec := "lockTogether", inPlace := ["internal/bytealg.Compare"], unfollowed := true, recurses := true, named := ["plenum/lock.fit"], plainKeys := false, apart := false, laid := [("plenum/lock.fit", laid_plenum_lock_fit)], narrowed := true }
def LockTogetherUptoSaid : Prop := lockTogetherUptoRow.holds Tryd.pinned (OpenSpec.upto lockTogetherSpec)

/-- 'plenumlaw14.LockRings', WHERE WHAT IT READS IS OF BULK AT MOST 1048576: true; the input reads as it did. -/
def lockRingsUptoRow : OpenClaim := { program := "ytbnojmaknlfphaadoor", sum := "bb74f989015b12c1a2bd9ebc01bb00dd78b23e00e5b9930ff2ee2c470a8b695d", func := "plenum/plenumlaw14.LockRings", spec := "lockRings", inPlace := ["internal/bytealg.Compare"], unfollowed := true, recurses := true, named := ["plenum/lock.fit"], plainKeys := false, apart := false, laid := [("plenum/lock.fit", laid_plenum_lock_fit)], narrowed := true }
def LockRingsUptoSaid : Prop := lockRingsUptoRow.holds Tryd.pinned (OpenSpec.upto lockRingsSpec)

/-- 'plenumlaw14.LockComes', WHERE WHAT IT READS IS OF BULK AT MOST 1048576: true; the input reads as it did. -/
def lockComesUptoRow : OpenClaim := { program := "ytbnojmaknlfphaadoor", sum := "bb74f989015b12c1a2bd9ebc01bb00dd78b23e00e5b9930ff2ee2c470a8b695d", func := "plenum/plenumlaw14.LockComes", spec := "lockComes", inPlace := ["internal/bytealg.Compare"], unfollowed := true, recurses := true, named := ["plenum/lock.fit"], plainKeys := false, apart := false, laid := [("plenum/lock.fit", laid_plenum_lock_fit)], narrowed := true }
def LockComesUptoSaid : Prop := lockComesUptoRow.holds Tryd.pinned (OpenSpec.upto lockComesSpec)

/-- 'plenumlaw14.LockHolds', WHERE WHAT IT READS IS OF BULK AT MOST 1048576: true; the input reads as it did. -/
def lockHoldsUptoRow : OpenClaim := { program := "ytbnojmaknlfphaadoor", sum := "bb74f989015b12c1a2bd9ebc01bb00dd78b23e00e5b9930ff2ee2c470a8b695d", func := "plenum/plenumlaw14.LockHolds", spec := "lockHolds", inPlace := ["internal/bytealg.Compare"], unfollowed := true, recurses := true, named := ["plenum/lock.fit"], plainKeys := false, apart := false, laid := [("plenum/lock.fit", laid_plenum_lock_fit)], narrowed := true }
def LockHoldsUptoSaid : Prop := lockHoldsUptoRow.holds Tryd.pinned (OpenSpec.upto lockHoldsSpec)

end Rows
end Go.Proofs.YtbnojmaknlfphaaDoor
