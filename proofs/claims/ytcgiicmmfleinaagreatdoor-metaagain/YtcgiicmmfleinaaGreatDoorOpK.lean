/- Locks that a law is handed. -/
import Derived.Test.YtcgiicmmfleinaaGreatDoorLkM
import Derived.Test.YtcgiicmmfleinaaGreatDoorOpn
import Derived.Test.YtcgiicmmfleinaaGreatDoorMpV
namespace Go.Proofs.YtcgiicmmfleinaaGreatDoor
open Go.RowKit NumMath Go.ChangeShapes Go.WideShapes Go.Deep
set_option linter.unusedVariables false
set_option maxRecDepth 100000

/-- .. by value: its keys are no longer than a call can be handed -/
def ML.handed (m : ML) (w : World) : Prop := m.ok w ∧ U64 m.l.tx ∧ m.ln ≤ 140737488355328 ∧ m.hn ≤ 140737488355328

theorem bytesO_u8K : Tryz.prog.bytesOf 5 = 1 := by kernel_rfl

theorem open_bytesK {H : Type} {enc : TypeId × Value → H} {w : World} {base : Nat} {spare : Nat → Bool} {held : Bool} {fuel : Nat} {a : Option Addr} {len cap : Nat} {x : DataW H × List MemPlace}
    (h : DataW.trod enc Tryz.prog w base spare held fuel 39 [.slice a len cap] = some x) (hw : Wt 39 x.1) : ∃ t, IsBytes w a len cap t ∧ len ≤ 140737488355328 := by
  obtain ⟨t, ht⟩ := open_bytes h
  have h1 := (wt_slice Tryz.underlying39 h hw).1
  rw [bytesO_u8K] at h1
  have hr : reachBytes ≤ 140737488355328 := by decide
  exact ⟨t, ht, by omega⟩

end Go.Proofs.YtcgiicmmfleinaaGreatDoor
