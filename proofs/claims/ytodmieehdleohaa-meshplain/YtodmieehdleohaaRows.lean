/-
  No cell of these rows narrows 'for every input' (looked for: loops, veiled, ifaces, maps, wideKeys, modest, calm, conditions, laid).
  DERIVED. THE GIVEN ROWS OF THIS SEAT. 2 by the template 'for every input the law returns true; each argument reads behind the call as it read before'; 0 by the template 'total and deterministic' (their statements: YtodmieehdleohaaTotals.lean).
  GIVEN WITH THE SEED: the statements are not yours to turn. If you find one false, say at which input.
  Laid BY PROGRAM, IN A SANDBOX (cutbox-rows.mjs): the forced cells as the released guide's own fill.sh prints them over the translation 64a6a1b8a72ef19b… (all of the seat's roots in one cut). By AI agents, Wed Nov 11 2026. No macro, syntax, notation, axiom, sorry.
-/
import Derived.Test.YtodmieehdleohaaChecked
import GoSem.Claim
import GoSem.ClaimJoined
import GoSem.ClaimMapViews
import Derived.JoinedTies
import Derived.KernelRfl
namespace Go.Proofs.Ytodmieehdleohaa
/- THE CELL 'sum', in the pinned program and in every row, IS THE sha256 OF THE DUMP (.gsa) THAT YtodmieehdleohaaProg.lean LOADS. Nothing in Lean hashes anything: it is a label: what it is worth is what the hold of that sum in a sandbox is worth. -/
noncomputable def Try.pinned : Pinned := { name := "ytodmieehdleohaa", sum := "64a6a1b8a72ef19bccead4ae6dd7a4565e9914d445c7071469211dc423124f15", checked := Try.checked }
namespace Rows
def none {H : Type} : Left H := { results := [], args := [] }

/-- 'plenumlaw10.MeshDoes': WHATEVER THE INPUT: true; the input reads as it did. -/
def meshDoesSpec : ChangeSpec := { name := "meshDoes", fn := fun _ => fun
  | [d1, d2] => { results := [.lit (.bool true)], args := [d1, d2] }
  | _ => none }
def meshDoesRow : OpenClaim := { program := "ytodmieehdleohaa", sum := "64a6a1b8a72ef19bccead4ae6dd7a4565e9914d445c7071469211dc423124f15", func := "plenum/plenumlaw10.MeshDoes", spec := "meshDoes", plainKeys := false, apart := false }
def MeshDoesSaid : Prop := meshDoesRow.holds Try.pinned (OpenSpec.ofChange meshDoesSpec)

/-- ITS FALSE NEIGHBOUR: 'it returns false'. Refute it at one input. -/
def meshDoesWrong : ChangeSpec := { name := "meshDoes", fn := fun _ => fun
  | [d1, d2] => { results := [.lit (.bool false)], args := [d1, d2] }
  | _ => none }
def MeshDoesWrongFalsely : Prop := meshDoesRow.holds Try.pinned (OpenSpec.ofChange meshDoesWrong)

/-- 'plenumlaw10.MeshPlain': WHATEVER THE INPUT: true; the input reads as it did. -/
def meshPlainSpec : ChangeSpec := { name := "meshPlain", fn := fun _ => fun
  | [d1, d2] => { results := [.lit (.bool true)], args := [d1, d2] }
  | _ => none }
def meshPlainRow : OpenClaim := { program := "ytodmieehdleohaa", sum := "64a6a1b8a72ef19bccead4ae6dd7a4565e9914d445c7071469211dc423124f15", func := "plenum/plenumlaw10.MeshPlain", spec := "meshPlain", plainKeys := false, apart := false }
def MeshPlainSaid : Prop := meshPlainRow.holds Try.pinned (OpenSpec.ofChange meshPlainSpec)

/-- ITS FALSE NEIGHBOUR: 'it returns false'. Refute it at one input. -/
def meshPlainWrong : ChangeSpec := { name := "meshPlain", fn := fun _ => fun
  | [d1, d2] => { results := [.lit (.bool false)], args := [d1, d2] }
  | _ => none }
def MeshPlainWrongFalsely : Prop := meshPlainRow.holds Try.pinned (OpenSpec.ofChange meshPlainWrong)

/- THE SECOND FORM. 'bulk': how many values and letters a reading holds, each counted each time it is reached (what is shared counts as often as it is met; a slice's spare places count too). A statement '..UptoSaid' is the law's where the arguments, and the package variables that the reading takes, are together of bulk at most 1048576: NARROWER than '..Said'. Prove '..Said' where nothing that the law and all that it calls make is longer than what came in: it says more and counts as full. Else prove '..UptoSaid'. A law counts once. -/
mutual
def uptoBulk {H : Type} : DataW H → Nat
  | .lit (.string bytes) => bytes.length + 1
  | .lit _ => 1
  | .nil => 1
  | .ptr d => uptoBulk d + 1
  | .slice elems spare => uptoBulkAll elems + uptoBulkAll spare + 1
  | .agg parts => uptoBulkAll parts + 1
  | .iface _ d => uptoBulk d + 1
  | .map entries => uptoBulkEntries entries + 1
  | .held _ => 1
def uptoBulkAll {H : Type} : List (DataW H) → Nat
  | [] => 0
  | d :: r => uptoBulk d + uptoBulkAll r
def uptoBulkEntries {H : Type} : List (Lit × DataW H) → Nat
  | [] => 0
  | x :: r => uptoBulkEntry x + uptoBulkEntries r
def uptoBulkEntry {H : Type} : Lit × DataW H → Nat
  | (.string bytes, d) => bytes.length + uptoBulk d + 1
  | (_, d) => uptoBulk d + 1
 end
def uptoSmall : (H : Type) → List (DataW H) → Bool := fun _ ds => decide (uptoBulkAll ds ≤ 1048576)
def OpenSpec.upto (s : _root_.Go.ChangeSpec) : _root_.Go.OpenSpec := { _root_.Go.OpenSpec.ofChange s with cond := some uptoSmall }

/-- 'plenumlaw10.MeshDoes', WHERE WHAT IT READS IS OF BULK AT MOST 1048576: true; the input reads as it did. -/
def meshDoesUptoRow : OpenClaim := { program := "ytodmieehdleohaa", sum := "64a6a1b8a72ef19bccead4ae6dd7a4565e9914d445c7071469211dc423124f15", func := "plenum/plenumlaw10.MeshDoes", spec := "meshDoes", plainKeys := false, apart := false, narrowed := true }
def MeshDoesUptoSaid : Prop := meshDoesUptoRow.holds Try.pinned (OpenSpec.upto meshDoesSpec)

/-- 'plenumlaw10.MeshPlain', WHERE WHAT IT READS IS OF BULK AT MOST 1048576: true; the input reads as it did. -/
def meshPlainUptoRow : OpenClaim := { program := "ytodmieehdleohaa", sum := "64a6a1b8a72ef19bccead4ae6dd7a4565e9914d445c7071469211dc423124f15", func := "plenum/plenumlaw10.MeshPlain", spec := "meshPlain", plainKeys := false, apart := false, narrowed := true }
def MeshPlainUptoSaid : Prop := meshPlainUptoRow.holds Try.pinned (OpenSpec.upto meshPlainSpec)

end Rows
end Go.Proofs.Ytodmieehdleohaa
