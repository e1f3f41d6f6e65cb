/- A slice of bytes as a list of numbers; a string made of it; num.Put as such a slice, in memory of its own. -/
import Derived.Test.YtpaidekocooliaaNumPut
import Derived.Test.YtpaidekocooliaaNumStr
namespace Go.Proofs.Ytpaidekocooliaa
open Go.RowKit NumMath
set_option linter.unusedVariables false

/-- block g holds the bytes xs, from its head on -/
def Bytes (w : World) (g : Nat) (xs : List Int) : Prop := ∀ i, i < xs.length → w.cell? ⟨g, i, none⟩ = some (.int .u8 (xs.getD i 0))

theorem Bytes.below {w w' : World} {B g : Nat} {xs : List Int} (h : Bytes w g xs) (hb : Below B w w') (hg : g < B) : Bytes w' g xs :=
  fun i hi => by rw [hb.cell (p := ⟨g, i, none⟩) hg]; exact h i hi

theorem bytes_alloc (w : World) (xs : List Int) (e : TypeId) : Bytes (w.alloc (.cells (xs.map (Value.int .u8)).toArray e)) w.heap.size xs := by
  intro i hi
  rw [World.cell?_alloc_new]
  simp [hi]

theorem grown_trans {a b c : World} (h : Grown a b) (k : Grown b c) : Grown a c :=
  ⟨World.keptBut_trans h.1 k.1, fun x => (k.2.1 x).trans (h.2.1 x), Nat.le_trans h.2.2 k.2.2⟩

theorem conv_bytes (W : World) (g n c : Nat) (xs : List Int) (hn : xs.length = n) (h : Bytes W g xs) :
    (convert 25 9 (.slice (some ⟨g, 0, none⟩) n c)).run Try.prog W = .ok (.string (strB xs)) W :=
  run_convert_bytes_arg W 25 5 Try.underlying25 Try.underlying5 g 0 n c xs hn (fun i hi => by rw [Nat.zero_add]; exact h i (by omega)) 9 Try.underlying9

end Go.Proofs.Ytpaidekocooliaa
