/- What the reference's Put answers: a slice of its own that holds the lowest n bytes, the highest ahead. -/
import Derived.Test.YtpaidekocooliaaNumKit
import Derived.Maps.AppendAt
import Derived.Laws.AppendOwnNone
import Derived.Deep.AppendLies
namespace Go.Proofs.Ytpaidekocooliaa
open Go.RowKit NumMath
set_option linter.unusedVariables false

theorem hide {p : Prop} (h : p) : Hid p := h

theorem one_made (w : World) (B : Nat) (c : Int) (hB : B ≤ w.heap.size) :
    (w.alloc (.cells #[.int .u8 c] 5)).ownsRow B 5 1 (.slice (some ⟨w.heap.size, 0, none⟩) 1 1) 1 [.int .u8 c] :=
  ⟨by simp, .inr ⟨w.heap.size, 1, #[.int .u8 c], rfl, hB, heap_alloc_new w _, Nat.le_refl _, by unfold maxLen; omega, rfl, rfl⟩⟩

theorem div_step (u : Int) (k : Nat) : u / 256 ^ k / 256 = u / 256 ^ (k + 1) := by
  rw [Int.pow_succ, Int.ediv_ediv_of_nonneg (Int.le_of_lt (Int.pow_pos (by decide)))]

theorem div_range (u : Int) (k : Nat) (h1 : 0 ≤ u) (h2 : u ≤ 18446744073709551615) : 0 ≤ u / 256 ^ k ∧ u / 256 ^ k ≤ 18446744073709551615 := by
  have hp : (0 : Int) < 256 ^ k := Int.pow_pos (by decide)
  exact ⟨Int.ediv_nonneg h1 (Int.le_of_lt hp), Int.le_trans (Int.ediv_le_self _ h1) h2⟩

end Go.Proofs.Ytpaidekocooliaa
