/- Texts in memory: a list of them. -/
import Derived.Test.YtcgiicmmfleinaaGreatDoorGnA
namespace Go.Proofs.YtcgiicmmfleinaaGreatDoor
open Go.RowKit NumMath Go.ChangeShapes Go.WideShapes Go.Deep
set_option linter.unusedVariables false
set_option maxRecDepth 100000

/-- a text in memory -/
structure MB where
  t : List Int
  a : Option Addr
  n : Nat
  c : Nat

def layT : Lay MB where
  e := 39
  t := 44
  k := 1
  bys := 24
  z := .slice none 0 0
  cells := fun m => [.slice m.a m.n m.c]
  len := fun _ => rfl
  one := by intro x u hu; simp at hu; subst hu; rfl
  pos := by decide
  few := by decide
  und := Tryz.underlying44
  info := by kernel_rfl
  zs := rfl

end Go.Proofs.YtcgiicmmfleinaaGreatDoor
