/- Entries: copyEntries, cut, SameEntries, Small; what a law is handed of them. -/
import Derived.Test.YtodmieehdleohabEnts
import Derived.Deep.RegionHeld
import Derived.Deep.RegionHeld3
namespace Go.Proofs.Ytodmieehdleohab
open Go.RowKit NumMath Go.ChangeShapes Go.WideShapes Go.Deep
set_option linter.unusedVariables false
set_option maxRecDepth 100000

theorem RowM.row {w : World} {base : Nat} {a : Option Addr} {n c : Nat} {ms : List MEnt} (h : RowM w base (.slice a n c) ms) (h0 : 0 < n) : ∃ g, a = some ⟨g, 0, none⟩ ∧ base ≤ g ∧ g < w.heap.size ∧ (∀ k, k < n → CellM w g (k * 4) (ms.getD k ment0)) ∧ ∀ i, w.frozen? ⟨g, i, none⟩ = false := by
  rcases h.form with ⟨e, rfl⟩ | ⟨g, cap, e, hg1, hg2, hc, hm, hB, hf⟩
  · cases e; omega
  · cases e
    refine ⟨g, rfl, hg1, hg2, fun k hk => ?_, hf⟩
    have := hB k hk
    rw [Nat.zero_add] at this
    exact this

def MEnt.with (m : MEnt) (b : Option Addr) (n c : Nat) : MEnt := ⟨m.e, b, n, c⟩

theorem cellsM_set : ∀ (ms : List MEnt) (k : Nat) (b : Option Addr) (n c : Nat), k < ms.length → (cellsM ms).set (k * 4 + 3) (.slice b n c) = cellsM (ms.set k ((ms.getD k ment0).with b n c)) := by
  intro ms
  induction ms with
  | nil => intro k b n c hk; simp at hk
  | cons v r ih =>
    intro k b n c hk
    have e : cellsM (v :: r) = v.cells ++ cellsM r := rfl
    rw [e]
    cases k with
    | zero =>
      have e2 : cellsM ((v :: r).set 0 (((v :: r).getD 0 ment0).with b n c)) = (v.with b n c).cells ++ cellsM r := rfl
      rw [e2]
      rfl
    | succ j =>
      have e2 : cellsM ((v :: r).set (j + 1) (((v :: r).getD (j + 1) ment0).with b n c)) = v.cells ++ cellsM (r.set j ((r.getD j ment0).with b n c)) := by simp [cellsM]
      rw [e2, ← ih j b n c (by simpa using hk)]
      rw [List.set_append_right _ _ (by simp [MEnt.cells]; omega)]
      congr 2
      simp [MEnt.cells]
      omega

/-- an entry's data, stored anew -/
theorem rowM_set {w : World} {base g n c : Nat} {ms : List MEnt} (h : RowM w base (.slice (some ⟨g, 0, none⟩) n c) ms) (k : Nat) (hk : k < n) (b : Option Addr) (m d : Nat) :
    RowM (w.setCell ⟨g, k * 4 + 3, none⟩ (.slice b m d)) base (.slice (some ⟨g, 0, none⟩) n c) (ms.set k ((ms.getD k ment0).with b m d)) := by
  have hl := h.len.1
  subst hl
  unfold RowM at *
  have hs := (World.ownsRow.stored h (k * 4 + 3) (.slice b m d)).1
  rw [List.length_set, ← cellsM_set ms k b m d hk]
  exact hs

theorem map_e_set (ms : List MEnt) (k : Nat) (hk : k < ms.length) (b : Option Addr) (n c : Nat) : (ms.set k ((ms.getD k ment0).with b n c)).map MEnt.e = ms.map MEnt.e := by
  apply List.ext_getElem?
  intro j
  rw [List.getElem?_map, List.getElem?_map, List.getElem?_set]
  by_cases h : k = j
  · subst h
    simp [hk, MEnt.with, List.getD]
  · simp [h]

theorem getD_set_ne (ms : List MEnt) (k j : Nat) (x : MEnt) (h : k ≠ j) : (ms.set k x).getD j ment0 = ms.getD j ment0 := by
  simp [List.getD, h]

theorem getD_set_eq (ms : List MEnt) (k : Nat) (x : MEnt) (h : k < ms.length) : (ms.set k x).getD k ment0 = x := by
  simp [List.getD, h]

theorem all_of_getD {P : MEnt → Prop} (ms : List MEnt) (h : ∀ k, k < ms.length → P (ms.getD k ment0)) : ∀ m ∈ ms, P m := by
  intro m hm
  obtain ⟨i, hi, rfl⟩ := List.getElem_of_mem hm
  have := h i hi
  simpa [List.getD, List.getElem?_eq_getElem hi] using this

theorem slice_of_own {w : World} {base : Nat} {v : Value} {bs : List Int} (h : OwnB w base v bs) (hr : ∀ c ∈ bs, 0 ≤ c ∧ c < 256) : ∃ a n c, v = .slice a n c ∧ IsBytes w a n c bs ∧ ∀ y, a = some y → base ≤ y.block := by
  rcases h.form with ⟨rfl, rfl⟩ | ⟨g, cap, rfl, hg1, hg2, hc, hm, hB⟩
  · exact ⟨none, 0, 0, rfl, ⟨rfl, Nat.le_refl _, by unfold maxLen; omega, hr, .inl rfl⟩, by intro y hy; cases hy⟩
  · exact ⟨_, _, cap, rfl, ⟨rfl, hc, hm, hr, .inr ⟨g, 0, rfl, hg2, fun i hi => by rw [Nat.zero_add]; exact hB i hi⟩⟩, by intro y hy; cases hy; exact hg1⟩

theorem keeps_cell {g i : Nat} {w : World} (v : Value) : Keeps (fun k => k = g) w (w.setCell ⟨g, i, none⟩ v) :=
  ⟨rfl, rfl, rfl, by simp [World.setCell], fun k hk hn => Below.heap_setCell _ _ _ _ hn⟩

end Go.Proofs.Ytodmieehdleohab
