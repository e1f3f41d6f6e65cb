/- okey.Next and the reference's Next of any bytes: nextL. -/
import Derived.Test.YtpaidekocooliaaOkeyNextC
namespace Go.Proofs.Ytpaidekocooliaa
open Go.RowKit NumMath
set_option linter.unusedVariables false

/-- the least bytes above all that begin with the first n of xs -/
def nextAt (xs : List Int) : Nat → List Int
  | 0 => []
  | n + 1 => if xs.getD n 0 < 255 then xs.take n ++ [xs.getD n 0 + 1] else nextAt xs n
def nextL (xs : List Int) : List Int := nextAt xs xs.length

theorem nextAt_yes (xs : List Int) (n : Nat) (h : xs.getD n 0 < 255) : nextAt xs (n + 1) = xs.take n ++ [xs.getD n 0 + 1] := by rw [nextAt, if_pos h]
theorem nextAt_no (xs : List Int) (n : Nat) (h : ¬ xs.getD n 0 < 255) : nextAt xs (n + 1) = nextAt xs n := by rw [nextAt, if_neg h]

theorem bytesAt_take {w : World} {g off : Nat} {xs : List Int} (h : BytesAt w g off xs) (m : Nat) : BytesAt w g off (xs.take m) := by
  intro i hi
  rw [List.length_take] at hi
  rw [h i (by omega)]
  simp [List.getD, show i < m by omega]

/-- what the last byte's step leaves -/
theorem ownB_step {w : World} {base g cap m : Nat} {xs : List Int} (hm : m < xs.length) (h : OwnB w base (.slice (some ⟨g, 0, none⟩) (m + 1) cap) (xs.take (m + 1))) (u : Int) :
    OwnB (w.setCell ⟨g, m, none⟩ (.int .u8 u)) base (.slice (some ⟨g, 0, none⟩) (m + 1) cap) (xs.take m ++ [u]) := by
  have hl : (xs.take (m + 1)).length = m + 1 := by rw [List.length_take]; omega
  unfold OwnB at *
  rw [hl] at h
  have hs := (World.ownsRow.stored h m (.int .u8 u)).1
  have hl2 : (xs.take m ++ [u]).length = m + 1 := by rw [List.length_append, List.length_take, List.length_singleton]; omega
  rw [hl2]
  have e : (List.map (Value.int .u8) (xs.take (m + 1))).set m (.int .u8 u) = List.map (Value.int .u8) (xs.take m ++ [u]) := by
    rw [← List.map_set]
    congr 1
    rw [List.take_add_one, List.set_append_right _ _ (by rw [List.length_take]; omega)]
    rw [List.getElem?_eq_getElem hm, List.length_take]
    simp [Nat.min_eq_left (Nat.le_of_lt hm)]
  rw [e] at hs
  exact hs

theorem ownB_cell {w : World} {base g n cap : Nat} {xs : List Int} (h : OwnB w base (.slice (some ⟨g, 0, none⟩) n cap) xs) (m : Nat) (hm : m < xs.length) : w.cell? ⟨g, m, none⟩ = some (.int .u8 (xs.getD m 0)) ∧ w.frozen? ⟨g, m, none⟩ = false ∧ base ≤ g ∧ n = xs.length := by
  rcases h.form with ⟨h0, _⟩ | ⟨g', cap', h0, hg, _, _, _, hB⟩
  · simp at h0
  · simp only [Value.slice.injEq, Option.some.injEq, Addr.mk.injEq, and_true] at h0
    obtain ⟨rfl, rfl, rfl⟩ := h0
    exact ⟨hB m hm, World.ownsRow.frozenAt h m, hg, rfl⟩

theorem take_nth (xs : List Int) (m : Nat) (hm : m < xs.length) : (xs.take (m + 1)).getD m 0 = xs.getD m 0 := by
  simp [List.getD]

theorem u8_step (c : Int) (h0 : 0 ≤ c) (h : c < 255) : IntKind.u8.wrap (c + 1) = c + 1 := by
  simp [IntKind.wrap, IntKind.bits, IntKind.signed]
  omega

theorem OwnB.row {w : World} {base : Nat} {v : Value} {bs : List Int} (h : OwnB w base v bs) {n : Nat} (hn : bs.length = n) (h0 : 0 < n) : ∃ g cap, v = .slice (some ⟨g, 0, none⟩) n cap ∧ base ≤ g ∧ g < w.heap.size ∧ n ≤ cap ∧ cap ≤ maxLen := by
  rcases h.form with ⟨rfl, rfl⟩ | ⟨g, cap, rfl, hg1, hg2, hc, hm, hB⟩
  · simp at hn; omega
  · subst hn; exact ⟨g, cap, rfl, hg1, hg2, hc, hm⟩

theorem clone_row (g off m cap : Nat) (xs : List Int) (w : World) (hm : m < xs.length) (hB : BytesAt w g off xs) (hg : g < w.heap.size) (hbig : m < 1000000000) :
    Calls Try.prog 41 #[.slice (some ⟨g, off, none⟩) (m + 1) cap] w fun e w' => ∃ g1 cap1, e = .returned (.slice (some ⟨g1, 0, none⟩) (m + 1) cap1) ∧ w.heap.size ≤ g1 ∧ m + 1 ≤ cap1 ∧ cap1 ≤ maxLen ∧
      OwnB w' w.heap.size (.slice (some ⟨g1, 0, none⟩) (m + 1) cap1) (xs.take (m + 1)) ∧ w'.cell? ⟨g1, m, none⟩ = some (.int .u8 (xs.getD m 0)) ∧ w'.frozen? ⟨g1, m, none⟩ = false ∧ Below w.heap.size w w' := by
  have hl : (xs.take (m + 1)).length = m + 1 := by rw [List.length_take]; omega
  have hb : m < (xs.take (m + 1)).length := by omega
  refine (clone_any g off (m + 1) cap (xs.take (m + 1)) w hl (bytesAt_take hB (m + 1)) hg (by omega)).mono ?_
  rintro e w' ⟨v, rfl, hown, hb'⟩
  obtain ⟨g1, cap1, rfl, h1, h2, h3, h4⟩ := hown.row hl (by omega)
  obtain ⟨c1, c2, _, _⟩ := ownB_cell hown m hb
  rw [take_nth xs m hm] at c1
  exact ⟨g1, cap1, rfl, h1, h3, h4, hown, c1, c2, hb'⟩

end Go.Proofs.Ytpaidekocooliaa
