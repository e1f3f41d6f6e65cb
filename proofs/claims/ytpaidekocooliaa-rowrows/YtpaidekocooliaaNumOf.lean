/- What num.Of and the reference's Of answer of any bytes that lie in memory; the world stays as it was. -/
import Derived.Test.YtpaidekocooliaaNumKit
import Derived.Test.YtpaidekocooliaaNumOfMath
import Derived.Handy
namespace Go.Proofs.Ytpaidekocooliaa
open Go.RowKit NumMath
set_option linter.unusedVariables false

theorem nth_range (xs : List Int) (hr : ∀ c ∈ xs, 0 ≤ c ∧ c < 256) (k : Nat) : 0 ≤ xs.getD k 0 ∧ xs.getD k 0 < 256 := by
  rw [List.getD_eq_getElem?_getD]
  by_cases h : k < xs.length
  · rw [List.getElem?_eq_getElem h]; exact hr _ (List.getElem_mem h)
  · rw [List.getElem?_eq_none (by omega)]; exact ⟨by decide, by decide⟩

end Go.Proofs.Ytpaidekocooliaa
