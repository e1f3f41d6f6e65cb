/- What the layer's values are in memory and in slots; cmp.Compare, okey.compare, okey.Less and the reference's Order of any two of them. -/
import Derived.Test.YtpaidekocooliaaRows
import Derived.WalkKit
import Derived.WalkSpells
import Derived.WalkLawsBesides
import Derived.Below
import Derived.Test.YtpaidekocooliaaNumMath
namespace Go.Proofs.Ytpaidekocooliaa
open Go.RowKit NumMath
set_option linter.unusedVariables false

/-- a value of the program: its kind, its number, its text -/
structure Val where
  k : Int
  n : Int
  s : ByteArray

def Val.fits (v : Val) : Prop := (-9223372036854775808 ≤ v.k ∧ v.k ≤ 9223372036854775807) ∧ (-9223372036854775808 ≤ v.n ∧ v.n ≤ 9223372036854775807) ∧ v.s.size ≤ maxLen

def Val.v (x : Val) : Value := .agg #[.int .i64 x.k, .int .i64 x.n, .string x.s]

def cmpI (x y : Int) : Int := if x < y then -1 else if y < x then 1 else 0

theorem cmpI_lt {x y : Int} (h : x < y) : cmpI x y = -1 := by unfold cmpI; rw [if_pos h]
theorem cmpI_gt {x y : Int} (h : y < x) : cmpI x y = 1 := by unfold cmpI; rw [if_neg (by omega), if_pos h]
theorem cmpI_eq {x y : Int} (h1 : y ≤ x) (h2 : x ≤ y) : cmpI x y = 0 := by unfold cmpI; rw [if_neg (by omega), if_neg (by omega)]

def cmpS (a b : ByteArray) : Int := if Op.bytesLess a.toList b.toList = true then -1 else if (a.toList == b.toList) = true then 0 else 1

theorem cmpS_lt {a b : ByteArray} (h : Op.bytesLess a.toList b.toList = true) : cmpS a b = -1 := by unfold cmpS; rw [if_pos h]
theorem cmpS_eq {a b : ByteArray} (h1 : Op.bytesLess a.toList b.toList = false) (h2 : (a.toList == b.toList) = true) : cmpS a b = 0 := by unfold cmpS; rw [if_neg (by simp [h1]), if_pos h2]
theorem cmpS_gt {a b : ByteArray} (h1 : Op.bytesLess a.toList b.toList = false) (h2 : (a.toList == b.toList) = false) : cmpS a b = 1 := by unfold cmpS; rw [if_neg (by simp [h1]), if_neg (by simp [h2])]

def cmpV (a b : Val) : Int := if a.k = b.k then (if a.k = 1 then cmpI a.n b.n else if a.k = 2 then cmpS a.s b.s else 0) else cmpI a.k b.k

end Go.Proofs.Ytpaidekocooliaa
