/- A string as bytes: a new block. -/
import Derived.Test.YtfldiapdfpkdaaaByC
import Derived.Test.YtfldiapdfpkdaaaBtA
import Derived.Lib.ConvBytes
namespace Go.Proofs.Ytfldiapdfpkdaaa
open Go.RowKit NumMath Go.ChangeShapes Go.WideShapes Go.Deep
set_option linter.unusedVariables false
set_option maxRecDepth 100000

theorem bytesW_below (w : World) (s : ByteArray) : Below w.heap.size w (Lib.bytesWorld w 5 s) :=
  ⟨by simp [Lib.bytesWorld, World.freeze, World.alloc, World.drew, -World.alloc_eq, -World.drew_eq], by simp [Lib.bytesWorld, World.freeze, World.alloc, World.drew, -World.alloc_eq, -World.drew_eq], by simp [Lib.bytesWorld, World.freeze, World.alloc, World.drew, -World.alloc_eq, -World.drew_eq], by rw [Lib.bytesWorld_size]; omega, fun k hk => Lib.bytesWorld_at_old w _ s k hk⟩

/-- a key as bytes: a new block -/
theorem conv_name (k : List Int) (hk : ∀ c ∈ k, 0 ≤ c ∧ c < 256) (hl : k.length ≤ 1000000000) (w : World) :
    ∃ c w', (convert 9 23 (.string (strB k))).run Try.prog w = .ok (.slice (some ⟨w.heap.size, 0, none⟩) k.length c) w' ∧ IsBytes w' (some ⟨w.heap.size, 0, none⟩) k.length c k ∧ Below w.heap.size w w' ∧ w'.heap.size = w.heap.size + 1 := by
  have e1 : (strB k).size = k.length := strB_size k
  refine ⟨grownCap w (strB k).size 0 5, Lib.bytesWorld w 5 (strB k), ?_, ?_, bytesW_below w _, Lib.bytesWorld_size w _ _⟩
  · rw [Lib.run_convert_string_bytes w 9 23 5 (strB k) Try.underlying9 Try.underlying23 Try.underlying5, e1]
  · refine ⟨rfl, by rw [← e1]; exact grownCap_ge _ _ _ _, grownCap_le_maxLen _ _ _ _ (by rw [e1]; unfold maxLen; omega), hk, .inr ⟨_, 0, rfl, by rw [Lib.bytesWorld_size]; omega, ?_⟩⟩
    intro i hi
    have hi2 : i < (strB k).size := by omega
    rw [Nat.zero_add, Lib.bytesWorld_cell w _ (strB k) i hi2]
    have h2 := sb_strB k hk
    have hi' : i < (strB k).data.toList.length := hi2
    have h3 : (sb (strB k)).getD i 0 = k.getD i 0 := by rw [h2]
    simp only [sb, List.getD, List.getElem?_map, List.getElem?_eq_getElem hi', Option.map_some, Option.getD_some] at h3 ⊢
    rw [h3]

theorem conv_key (k : List Int) (hk : ∀ c ∈ k, 0 ≤ c ∧ c < 256) (hl : k.length ≤ 100000) (w : World) :
    ∃ c w', (convert 9 23 (.string (strB k))).run Try.prog w = .ok (.slice (some ⟨w.heap.size, 0, none⟩) k.length c) w' ∧ IsBytes w' (some ⟨w.heap.size, 0, none⟩) k.length c k ∧ Below w.heap.size w w' ∧ w'.heap.size = w.heap.size + 1 :=
  conv_name k hk (by omega) w

end Go.Proofs.Ytfldiapdfpkdaaa
