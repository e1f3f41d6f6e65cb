/- A slice of bytes as a list of numbers; a string made of it; num.Put as such a slice, in memory of its own. -/
import Derived.Test.YtfihjhcjkgpgfaaNumPut
import Derived.Test.YtfihjhcjkgpgfaaNumStr
namespace Go.Proofs.Ytfihjhcjkgpgfaa
open Go.RowKit NumMath
set_option linter.unusedVariables false

/-- block g holds the bytes xs, from its head on -/
def Bytes (w : World) (g : Nat) (xs : List Int) : Prop := ∀ i, i < xs.length → w.cell? ⟨g, i, none⟩ = some (.int .u8 (xs.getD i 0))

theorem Bytes.below {w w' : World} {B g : Nat} {xs : List Int} (h : Bytes w g xs) (hb : Below B w w') (hg : g < B) : Bytes w' g xs :=
  fun i hi => by rw [hb.cell (p := ⟨g, i, none⟩) hg]; exact h i hi

theorem bytes_alloc (w : World) (xs : List Int) (e : TypeId) : Bytes (w.alloc (.cells (xs.map (Value.int .u8)).toArray e)) w.heap.size xs := by
  intro i hi
  rw [World.cell?_alloc_new]
  simp [hi]

theorem grown_trans {a b c : World} (h : Grown a b) (k : Grown b c) : Grown a c :=
  ⟨World.keptBut_trans h.1 k.1, fun x => (k.2.1 x).trans (h.2.1 x), Nat.le_trans h.2.2 k.2.2⟩

theorem conv_bytes (W : World) (g n c : Nat) (xs : List Int) (hn : xs.length = n) (h : Bytes W g xs) :
    (convert 31 9 (.slice (some ⟨g, 0, none⟩) n c)).run Try.prog W = .ok (.string (strB xs)) W :=
  run_convert_bytes_arg W 31 5 Try.underlying31 Try.underlying5 g 0 n c xs hn (fun i hi => by rw [Nat.zero_add]; exact h i (by omega)) 9 Try.underlying9

theorem put_new (u : Int) (n : Nat) (w : World) (h1 : 0 ≤ u) (h2 : u ≤ 18446744073709551615) (hn : n ≤ 8) :
    Calls Try.prog 30 #[.int .u64 u, .int .i64 n] w fun e w' => ∃ g, e = .returned (.slice (some ⟨g, 0, none⟩) n n) ∧ w.heap.size ≤ g ∧ g < w'.heap.size ∧ Bytes w' g (putL u n) ∧ Below w.heap.size w w' ∧ Grown w w' := by
  refine (put_any u n w h1 h2 hn).mono ?_
  rintro e w' ⟨rfl, rfl⟩
  exact ⟨w.heap.size, rfl, Nat.le_refl _, by simp, bytes_alloc w (putL u n) _, (Below.refl _ _).alloc (Nat.le_refl _) _, (Grown.refl _).alloc _ _⟩

theorem put_new8 (u : Int) (w : World) (h1 : 0 ≤ u) (h2 : u ≤ 18446744073709551615) :
    Calls Try.prog 30 #[.int .u64 u, .int .i64 8] w fun e w' => ∃ g, e = .returned (.slice (some ⟨g, 0, none⟩) 8 8) ∧ w.heap.size ≤ g ∧ g < w'.heap.size ∧ Bytes w' g (putL u 8) ∧ Below w.heap.size w w' ∧ Grown w w' := put_new u 8 w h1 h2 (by decide)

end Go.Proofs.Ytfihjhcjkgpgfaa
