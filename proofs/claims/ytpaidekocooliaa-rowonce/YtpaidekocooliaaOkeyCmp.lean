/- okey.Cmp and the reference's Cmp of any two lists of values: one answer, cmpL. -/
import Derived.Test.YtpaidekocooliaaOkeyLists
namespace Go.Proofs.Ytpaidekocooliaa
open Go.RowKit NumMath
set_option linter.unusedVariables false

/-- the order of lists: the first two values that differ tell; else the shorter is less -/
def cmpL : List Val → List Val → Int
  | [], [] => 0
  | [], _ :: _ => -1
  | _ :: _, [] => 1
  | a :: r, b :: t => if cmpV a b = 0 then cmpL r t else cmpV a b

theorem drop_at (xs : List Val) (k : Nat) (h : k < xs.length) : xs.drop k = xs.getD k val0 :: xs.drop (k + 1) := by
  rw [List.drop_eq_getElem_cons h]
  simp [List.getD, List.getElem?_eq_getElem h]

theorem cmpL_step (xs ys : List Val) (k : Nat) (h1 : k < xs.length) (h2 : k < ys.length) (h : cmpV (xs.getD k val0) (ys.getD k val0) = 0) : cmpL (xs.drop k) (ys.drop k) = cmpL (xs.drop (k + 1)) (ys.drop (k + 1)) := by
  rw [drop_at xs k h1, drop_at ys k h2, cmpL, if_pos h]

theorem cmpL_stop (xs ys : List Val) (k : Nat) (h1 : k < xs.length) (h2 : k < ys.length) (h : ¬ cmpV (xs.getD k val0) (ys.getD k val0) = 0) : cmpL (xs.drop k) (ys.drop k) = cmpV (xs.getD k val0) (ys.getD k val0) := by
  rw [drop_at xs k h1, drop_at ys k h2, cmpL, if_neg h]

theorem cmpL_long (xs ys : List Val) (k : Nat) (h1 : k < xs.length) (h2 : ys.length ≤ k) : cmpL (xs.drop k) (ys.drop k) = 1 := by
  rw [drop_at xs k h1, List.drop_eq_nil_of_le h2, cmpL]

theorem cmpL_short (xs ys : List Val) (k : Nat) (h1 : xs.length ≤ k) (h2 : k < ys.length) : cmpL (xs.drop k) (ys.drop k) = -1 := by
  rw [drop_at ys k h2, List.drop_eq_nil_of_le h1, cmpL]

theorem cmpL_both (xs ys : List Val) (k : Nat) (h1 : xs.length ≤ k) (h2 : ys.length ≤ k) : cmpL (xs.drop k) (ys.drop k) = 0 := by
  rw [List.drop_eq_nil_of_le h1, List.drop_eq_nil_of_le h2, cmpL]

theorem cmpL_end (xs ys : List Val) (k : Nat) (h : k = min xs.length ys.length) : cmpL (xs.drop k) (ys.drop k) = cmpI xs.length ys.length := by
  by_cases h1 : xs.length < ys.length
  · rw [cmpL_short xs ys k (by omega) (by omega), cmpI_lt (by omega)]
  · by_cases h2 : ys.length < xs.length
    · rw [cmpL_long xs ys k (by omega) (by omega), cmpI_gt (by omega)]
    · rw [cmpL_both xs ys k (by omega) (by omega), cmpI_eq (by omega) (by omega)]

end Go.Proofs.Ytpaidekocooliaa
