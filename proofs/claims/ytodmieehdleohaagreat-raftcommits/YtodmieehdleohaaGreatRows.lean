/-
  No cell of these rows narrows 'for every input' (looked for: loops, veiled, ifaces, maps, wideKeys, modest, calm, conditions, laid).
  DERIVED. THE GIVEN ROWS OF THIS SEAT. 4 by the template 'for every input the law returns true; each argument reads behind the call as it read before'; 0 by the template 'total and deterministic' (their statements: YtodmieehdleohaaGreatTotals.lean).
  GIVEN WITH THE SEED: the statements are not yours to turn. If you find one false, say at which input.
  Laid BY PROGRAM, IN A SANDBOX (cutbox-rows.mjs): the forced cells as the released guide's own fill.sh prints them over the translation eaef096628edcf2f… (all of the seat's roots in one cut). By AI agents, Wed Nov 11 2026. No macro, syntax, notation, axiom, sorry.
-/
import Derived.Test.YtodmieehdleohaaGreatChecked
import GoSem.Claim
import GoSem.ClaimJoined
import GoSem.ClaimMapViews
import Derived.JoinedTies
import Derived.KernelRfl
namespace Go.Proofs.YtodmieehdleohaaGreat
/- THE CELL 'sum', in the pinned program and in every row, IS THE sha256 OF THE DUMP (.gsa) THAT YtodmieehdleohaaGreatProg.lean LOADS. Nothing in Lean hashes anything: it is a label: what it is worth is what the hold of that sum in a sandbox is worth. -/
noncomputable def Tryz.pinned : Pinned := { name := "ytodmieehdleohaagreat", sum := "eaef096628edcf2fc27771f04d8f5588261c6f695b4f25653d62330f7ac4f9b8", checked := Tryz.checked }
namespace Rows
def none {H : Type} : Left H := { results := [], args := [] }

/-- 'plenumlaw09.RaftDoes': WHATEVER THE INPUT: true; the input reads as it did. -/
def raftDoesSpec : ChangeSpec := { name := "raftDoes", fn := fun _ => fun
  | [d1, d2, d3, d4, d5] => { results := [.lit (.bool true)], args := [d1, d2, d3, d4, d5] }
  | _ => none }
def raftDoesRow : OpenClaim := { program := "ytodmieehdleohaagreat", sum := "eaef096628edcf2fc27771f04d8f5588261c6f695b4f25653d62330f7ac4f9b8", func := "plenum/plenumlaw09.RaftDoes", spec := "raftDoes", unfollowed := true, recurses := true, apart := false }
def RaftDoesSaid : Prop := raftDoesRow.holds Tryz.pinned (OpenSpec.ofChange raftDoesSpec)

/-- ITS FALSE NEIGHBOUR: 'it returns false'. Refute it at one input. -/
def raftDoesWrong : ChangeSpec := { name := "raftDoes", fn := fun _ => fun
  | [d1, d2, d3, d4, d5] => { results := [.lit (.bool false)], args := [d1, d2, d3, d4, d5] }
  | _ => none }
def RaftDoesWrongFalsely : Prop := raftDoesRow.holds Tryz.pinned (OpenSpec.ofChange raftDoesWrong)

/-- 'plenumlaw09.RaftForward': WHATEVER THE INPUT: true; the input reads as it did. -/
def raftForwardSpec : ChangeSpec := { name := "raftForward", fn := fun _ => fun
  | [d1, d2, d3, d4, d5] => { results := [.lit (.bool true)], args := [d1, d2, d3, d4, d5] }
  | _ => none }
def raftForwardRow : OpenClaim := { program := "ytodmieehdleohaagreat", sum := "eaef096628edcf2fc27771f04d8f5588261c6f695b4f25653d62330f7ac4f9b8", func := "plenum/plenumlaw09.RaftForward", spec := "raftForward", unfollowed := true, recurses := true, apart := false }
def RaftForwardSaid : Prop := raftForwardRow.holds Tryz.pinned (OpenSpec.ofChange raftForwardSpec)

/-- ITS FALSE NEIGHBOUR: 'it returns false'. Refute it at one input. -/
def raftForwardWrong : ChangeSpec := { name := "raftForward", fn := fun _ => fun
  | [d1, d2, d3, d4, d5] => { results := [.lit (.bool false)], args := [d1, d2, d3, d4, d5] }
  | _ => none }
def RaftForwardWrongFalsely : Prop := raftForwardRow.holds Tryz.pinned (OpenSpec.ofChange raftForwardWrong)

/-- 'plenumlaw09.RaftNone': WHATEVER THE INPUT: true; the input reads as it did. -/
def raftNoneSpec : ChangeSpec := { name := "raftNone", fn := fun _ => fun
  | [d] => { results := [.lit (.bool true)], args := [d] }
  | _ => none }
def raftNoneRow : OpenClaim := { program := "ytodmieehdleohaagreat", sum := "eaef096628edcf2fc27771f04d8f5588261c6f695b4f25653d62330f7ac4f9b8", func := "plenum/plenumlaw09.RaftNone", spec := "raftNone", unfollowed := true, recurses := true, apart := false }
def RaftNoneSaid : Prop := raftNoneRow.holds Tryz.pinned (OpenSpec.ofChange raftNoneSpec)

/-- ITS FALSE NEIGHBOUR: 'it returns false'. Refute it at one input. -/
def raftNoneWrong : ChangeSpec := { name := "raftNone", fn := fun _ => fun
  | [d] => { results := [.lit (.bool false)], args := [d] }
  | _ => none }
def RaftNoneWrongFalsely : Prop := raftNoneRow.holds Tryz.pinned (OpenSpec.ofChange raftNoneWrong)

/-- 'plenumlaw09.RaftCommits': WHATEVER THE INPUT: true; the input reads as it did. -/
def raftCommitsSpec : ChangeSpec := { name := "raftCommits", fn := fun _ => fun
  | [d1, d2, d3, d4, d5] => { results := [.lit (.bool true)], args := [d1, d2, d3, d4, d5] }
  | _ => none }
def raftCommitsRow : OpenClaim := { program := "ytodmieehdleohaagreat", sum := "eaef096628edcf2fc27771f04d8f5588261c6f695b4f25653d62330f7ac4f9b8", func := "plenum/plenumlaw09.RaftCommits", spec := "raftCommits", unfollowed := true, recurses := true, apart := false }
def RaftCommitsSaid : Prop := raftCommitsRow.holds Tryz.pinned (OpenSpec.ofChange raftCommitsSpec)

/-- ITS FALSE NEIGHBOUR: 'it returns false'. Refute it at one input. -/
def raftCommitsWrong : ChangeSpec := { name := "raftCommits", fn := fun _ => fun
  | [d1, d2, d3, d4, d5] => { results := [.lit (.bool false)], args := [d1, d2, d3, d4, d5] }
  | _ => none }
def RaftCommitsWrongFalsely : Prop := raftCommitsRow.holds Tryz.pinned (OpenSpec.ofChange raftCommitsWrong)

/- THE SECOND FORM. 'bulk': how many values and letters a reading holds, each counted each time it is reached (what is shared counts as often as it is met; a slice's spare places count too). A statement '..UptoSaid' is the law's where the arguments, and the package variables that the reading takes, are together of bulk at most 1048576: NARROWER than '..Said'. Prove '..Said' where nothing that the law and all that it calls make is longer than what came in: it says more and counts as full. Else prove '..UptoSaid'. A law counts once. -/
mutual
def uptoBulk {H : Type} : DataW H → Nat
  | .lit (.string bytes) => bytes.length + 1
  | .lit _ => 1
  | .nil => 1
  | .ptr d => uptoBulk d + 1
  | .slice elems spare => uptoBulkAll elems + uptoBulkAll spare + 1
  | .agg parts => uptoBulkAll parts + 1
  | .iface _ d => uptoBulk d + 1
  | .map entries => uptoBulkEntries entries + 1
  | .held _ => 1
def uptoBulkAll {H : Type} : List (DataW H) → Nat
  | [] => 0
  | d :: r => uptoBulk d + uptoBulkAll r
def uptoBulkEntries {H : Type} : List (Lit × DataW H) → Nat
  | [] => 0
  | x :: r => uptoBulkEntry x + uptoBulkEntries r
def uptoBulkEntry {H : Type} : Lit × DataW H → Nat
  | (.string bytes, d) => bytes.length + uptoBulk d + 1
  | (_, d) => uptoBulk d + 1
 end
def uptoSmall : (H : Type) → List (DataW H) → Bool := fun _ ds => decide (uptoBulkAll ds ≤ 1048576)
def OpenSpec.upto (s : _root_.Go.ChangeSpec) : _root_.Go.OpenSpec := { _root_.Go.OpenSpec.ofChange s with cond := some uptoSmall }

/-- 'plenumlaw09.RaftDoes', WHERE WHAT IT READS IS OF BULK AT MOST 1048576: true; the input reads as it did. -/
def raftDoesUptoRow : OpenClaim := { program := "ytodmieehdleohaagreat", sum := "eaef096628edcf2fc27771f04d8f5588261c6f695b4f25653d62330f7ac4f9b8", func := "plenum/plenumlaw09.RaftDoes", spec := "raftDoes", unfollowed := true, recurses := true, apart := false, narrowed := true }
def RaftDoesUptoSaid : Prop := raftDoesUptoRow.holds Tryz.pinned (OpenSpec.upto raftDoesSpec)

/-- 'plenumlaw09.RaftForward', WHERE WHAT IT READS IS OF BULK AT MOST 1048576: true; the input reads as it did. -/
def raftForwardUptoRow : OpenClaim := { program := "ytodmieehdleohaagreat", sum := "eaef096628edcf2fc27771f04d8f5588261c6f695b4f25653d62330f7ac4f9b8", func := "plenum/plenumlaw09.RaftForward", spec := "raftForward", unfollowed := true, recurses := true, apart := false, narrowed := true }
def RaftForwardUptoSaid : Prop := raftForwardUptoRow.holds Tryz.pinned (OpenSpec.upto raftForwardSpec)

/-- 'plenumlaw09.RaftNone', WHERE WHAT IT READS IS OF BULK AT MOST 1048576: true; the input reads as it did. -/
def raftNoneUptoRow : OpenClaim := { program := "ytodmieehdleohaagreat", sum := "eaef096628edcf2fc27771f04d8f5588261c6f695b4f25653d62330f7ac4f9b8", func := "plenum/plenumlaw09.RaftNone", spec := "raftNone", unfollowed := true, recurses := true, apart := false, narrowed := true }
def RaftNoneUptoSaid : Prop := raftNoneUptoRow.holds Tryz.pinned (OpenSpec.upto raftNoneSpec)

/-- 'plenumlaw09.RaftCommits', WHERE WHAT IT READS IS OF BULK AT MOST 1048576: true; the input reads as it did. -/
def raftCommitsUptoRow : OpenClaim := { program := "ytodmieehdleohaagreat", sum := "eaef096628edcf2fc27771f04d8f5588261c6f695b4f25653d62330f7ac4f9b8", func := "plenum/plenumlaw09.RaftCommits", spec := "raftCommits", unfollowed := true, recurses := true, apart := false, narrowed := true }
def RaftCommitsUptoSaid : Prop := raftCommitsUptoRow.holds Tryz.pinned (OpenSpec.upto raftCommitsSpec)

end Rows
end Go.Proofs.YtodmieehdleohaaGreat
