/- num.Put and the reference's Put, for any size, as a slice that holds bytes; the string of such a slice. -/
import Derived.Test.YtpaidekocooliaaNumKit
import Derived.Test.YtpaidekocooliaaNumRput
import Derived.Test.YtpaidekocooliaaNumOf
import Derived.Test.YtpaidekocooliaaNumFits
namespace Go.Proofs.Ytpaidekocooliaa
open Go.RowKit NumMath
set_option linter.unusedVariables false

theorem below_undrew {w w1 : World} (h : Below w.drew.heap.size w.drew w1) : Below w.heap.size w w1 := ⟨h.os, h.tape, h.output, h.size, h.block⟩

/-- in the world w the slice v holds the bytes xs -/
def HoldsB (w : World) (v : Value) (xs : List Int) : Prop :=
  (v = .slice none 0 0 ∧ xs = []) ∨ ∃ g n cap, v = .slice (some ⟨g, 0, none⟩) n cap ∧ xs.length = n ∧ n ≤ cap ∧ cap ≤ maxLen ∧ g < w.heap.size ∧ Bytes w g xs

theorem HoldsB.keep {w w' : World} {v : Value} {xs : List Int} (h : HoldsB w v xs) (hb : Below w.heap.size w w') : HoldsB w' v xs := by
  rcases h with h | ⟨g, n, cap, hv, hl, hc, hm, hg, hB⟩
  · exact .inl h
  · exact .inr ⟨g, n, cap, hv, hl, hc, hm, Nat.lt_of_lt_of_le hg hb.size, hB.below hb hg⟩

theorem HoldsB.conv {w : World} {v : Value} {xs : List Int} (h : HoldsB w v xs) : (convert 25 9 v).run Try.prog w = .ok (.string (strB xs)) w := by
  rcases h with ⟨rfl, rfl⟩ | ⟨g, n, cap, rfl, hl, hc, hm, hg, hB⟩
  · exact run_convert_bytes_nil w 25 5 Try.underlying25 Try.underlying5 0 0 9 Try.underlying9
  · exact conv_bytes w g n cap xs hl hB

def putAns (u size : Int) : List Int := if size < 0 ∨ 8 < size then [] else putL u size.toNat

theorem bytes_of_owns {w : World} {B g n cap : Nat} {xs : List Int} (h : w.ownsRow B 5 1 (.slice (some ⟨g, 0, none⟩) n cap) n (xs.map (Value.int .u8))) : Bytes w g xs := by
  intro i hi
  have h1 := h.cells (g := g) rfl i (.int .u8 (xs.getD i 0)) (by simp [List.getD, List.getElem?_eq_getElem hi])
  have h2 : (⟨g, 0, none⟩ : Addr).add i = ⟨g, i, none⟩ := by unfold Addr.add; split <;> simp_all
  rw [h2] at h1
  exact h1

end Go.Proofs.Ytpaidekocooliaa
