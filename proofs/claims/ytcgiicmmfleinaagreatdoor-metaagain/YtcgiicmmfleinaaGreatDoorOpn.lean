/- What a law is handed: lists of things of one kind, each list in it no longer than a call can be handed. -/
import Derived.Test.YtcgiicmmfleinaaGreatDoorGnA
import Derived.SizedLaws
import Derived.Deep.Slices
import Derived.ChangeArms
namespace Go.Proofs.YtcgiicmmfleinaaGreatDoor
open Go.RowKit NumMath Go.ChangeShapes Go.WideShapes Go.Deep
set_option linter.unusedVariables false
set_option maxRecDepth 100000

/-- all that is weighed in a datum is within the form's reach -/
def Wt {H : Type} (t : TypeId) (d : DataW H) : Prop := ∀ n ∈ d.weights Tryz.prog t, n ≤ reachBytes

theorem wt_all {H : Type} {t : TypeId} {ds : List (DataW H)} {d : DataW H} (h : d ∈ ds) : ∀ n ∈ d.weights Tryz.prog t, n ∈ DataW.weightsAll Tryz.prog t ds := by
  induction ds with
  | nil => cases h
  | cons x r ih =>
    intro n hn
    simp only [DataW.weightsAll, List.mem_append]
    rcases List.mem_cons.1 h with rfl | h
    · exact .inl hn
    · exact .inr (ih h n hn)

theorem wt_slice {H : Type} {enc : TypeId × Value → H} {w : World} {base : Nat} {spare : Nat → Bool} {held : Bool} {fuel : Nat} {t e : TypeId} (ht : Tryz.prog.underlying t = some (.slice e)) {a : Option Addr} {len cap : Nat} {x : DataW H × List MemPlace}
    (h : DataW.trod enc Tryz.prog w base spare held fuel t [.slice a len cap] = some x) (hw : Wt t x.1) :
    len * Tryz.prog.bytesOf e ≤ reachBytes ∧ ∀ i, i < len → ∃ ad cs' n y, a = some ad ∧ w.cells? base (ad.add (i * Tryz.prog.cellsOf e)) (Tryz.prog.cellsOf e) = some cs' ∧ DataW.trod enc Tryz.prog w base spare held n e cs' = some y ∧ Wt e y.1 := by
  rcases open_slice ht h with ⟨hcs, _⟩ | ⟨ad, l, c, m, n, D, Pl, hcs, hb, hl, hm, hmm, rfl, hx⟩
  · simp at hcs
    obtain ⟨rfl, rfl, rfl⟩ := hcs
    exact ⟨by simp, fun i hi => by omega⟩
  · simp only [List.cons.injEq, Value.slice.injEq, and_true] at hcs
    obtain ⟨rfl, rfl, rfl⟩ := hcs
    have hlm : len ≤ m := by rw [hmm]; split <;> omega
    have hs : ∀ n, n ∈ DataW.weights Tryz.prog t (DataW.slice ((List.range len).map D) ((List.range (m - len)).map fun j => D (len + j))) → n ≤ reachBytes := hw
    simp only [DataW.weights, ht] at hs
    refine ⟨?_, fun i hi => ?_⟩
    · have h1 := hs _ (List.mem_cons_self ..)
      simp only [List.length_map, List.length_range] at h1
      exact Nat.le_trans (Nat.mul_le_mul_right _ (by omega)) h1
    · obtain ⟨cs', h1, h2⟩ := hx i (by omega)
      refine ⟨ad, cs', n, _, rfl, h1, h2, fun k hk => hs k (List.mem_cons_of_mem _ (List.mem_append_left _ (wt_all (List.mem_map.2 ⟨i, List.mem_range.2 hi, rfl⟩) k hk)))⟩

theorem wt_field {H : Type} {t : TypeId} {fs : Array Field} (ht : Tryz.prog.underlying t = some (.struct fs)) {xs : List (DataW H × List MemPlace)} (hw : Wt t (.agg (xs.map (·.1)))) {i : Nat} {f : Field} {y : DataW H × List MemPlace} (hf : fs[i]? = some f) (hy : xs[i]? = some y) : Wt f.type y.1 := by
  intro n hn
  refine hw n ?_
  simp only [DataW.weights, ht]
  exact DataW.weights_mem_each (j := i) (by simp [hf]) (by simp [hy]) n hn

theorem fldO {α : Type} {xs : List α} {i : Nat} {o : Option α} (h : o = xs[i]?) (hi : i < xs.length) : ∃ y, o = some y ∧ xs[i]? = some y := ⟨xs[i], h.trans (List.getElem?_eq_getElem hi), List.getElem?_eq_getElem hi⟩

/-- the cells of a slice that is handed in, and its length -/
theorem slice_lens {H : Type} {enc : TypeId × Value → H} {w : World} {base : Nat} {spare : Nat → Bool} {held : Bool} {fuel : Nat} {t e : TypeId} (ht : Tryz.prog.underlying t = some (.slice e)) {a : Option Addr} {len cap : Nat} {x : DataW H × List MemPlace}
    (h : DataW.trod enc Tryz.prog w base spare held fuel t [.slice a len cap] = some x) : (len ≤ cap ∧ cap ≤ maxLen) ∧ ∀ i, i < len → ∃ ad cs' n y, a = some ad ∧ w.cells? base (ad.add (i * Tryz.prog.cellsOf e)) (Tryz.prog.cellsOf e) = some cs' ∧ DataW.trod enc Tryz.prog w base spare held n e cs' = some y := by
  rcases open_slice ht h with ⟨hcs, _⟩ | ⟨ad, l, c, m, n, D, Pl, hcs, hb, hl, hm, hmm, _, hx⟩
  · simp at hcs
    obtain ⟨rfl, rfl, rfl⟩ := hcs
    exact ⟨⟨Nat.le_refl _, Nat.zero_le _⟩, fun i hi => by omega⟩
  · simp only [List.cons.injEq, Value.slice.injEq, and_true] at hcs
    obtain ⟨rfl, rfl, rfl⟩ := hcs
    have hlm : len ≤ m := by rw [hmm]; split <;> omega
    refine ⟨⟨hl, hm⟩, fun i hi => ?_⟩
    obtain ⟨cs', h1, h2⟩ := hx i (by omega)
    exact ⟨ad, cs', n, _, rfl, h1, h2⟩

/-- a cell that holds a slice -/
theorem slice_of {H : Type} {enc : TypeId × Value → H} {w : World} {base : Nat} {spare : Nat → Bool} {held : Bool} {fuel : Nat} {t e : TypeId} (ht : Tryz.prog.underlying t = some (.slice e)) {v : Value} {x : DataW H × List MemPlace}
    (h : DataW.trod enc Tryz.prog w base spare held fuel t [v] = some x) : ∃ a n c, v = .slice a n c := by
  rcases open_slice ht h with ⟨hcs, _⟩ | ⟨ad, l, c, m, n, D, Pl, hcs, _⟩
  · exact ⟨_, _, _, List.head_eq_of_cons_eq hcs⟩
  · exact ⟨_, _, _, List.head_eq_of_cons_eq hcs⟩

/-- a list of things, opened thing by thing -/
theorem openY {α : Type} (L : Lay α) (x0 : α) {w : World} {base : Nat} {a : Option Addr} {len cap : Nat} (hc : Tryz.prog.cellsOf L.e = L.k) (hlc : len ≤ cap ∧ cap ≤ maxLen) (P : α → Prop)
    (each : ∀ i, i < len → ∃ ad cs' x, a = some ad ∧ w.cells? base (ad.add (i * Tryz.prog.cellsOf L.e)) (Tryz.prog.cellsOf L.e) = some cs' ∧ P x ∧ cs' = L.cells x) : ∃ xs, IsY L w a len cap xs ∧ ∀ x ∈ xs, P x := by
  by_cases h0 : len = 0
  · subst h0
    exact ⟨[], ⟨rfl, hlc.1, hlc.2, .inl rfl⟩, fun m hm => by cases hm⟩
  obtain ⟨ad, _, _, rfl, _⟩ := each 0 (by omega)
  have each2 : ∀ i, i < len → ∃ x, P x ∧ ∀ j, j < L.k → w.cell? (ad.add (i * L.k + j)) = (L.cells x)[j]? := by
    intro i hi
    obtain ⟨ad', cs', x, e, h1, h2, rfl⟩ := each i hi
    cases e
    rw [hc] at h1
    obtain ⟨_, hlen, hcell⟩ := World.cells?_some h1
    refine ⟨x, h2, fun j hj => ?_⟩
    have := hcell j hj
    rw [Go.Deep.add_add] at this
    exact this
  obtain ⟨V, hV⟩ := @choose_lt α ⟨x0⟩ len _ each2
  refine ⟨(List.range len).map V, ⟨by simp, hlc.1, hlc.2, .inr ?_⟩, ?_⟩
  · obtain ⟨b, off, spot⟩ := ad
    have hk := L.pos
    have hl0 : 0 < (L.cells (V 0)).length := by rw [L.len]; exact hk
    have c00 := (hV 0 (by omega)).2 0 hk
    rw [List.getElem?_eq_getElem hl0] at c00
    have hspot : spot = none := by
      have := World.cell?_spot c00
      simpa [Addr.add] using this
    subst hspot
    refine ⟨b, off, rfl, ?_, ?_⟩
    · have := World.block_lt_of_cell? _ _ c00
      rw [add_plain] at this
      exact this
    · intro i x hx j v hj
      obtain ⟨hi, rfl⟩ := List.getElem?_eq_some_iff.1 hx
      have hi' : i < len := by simpa using hi
      simp only [List.getElem_map, List.getElem_range] at hj
      have hj1 : j < L.k := by have := (List.getElem?_eq_some_iff.1 hj).1; rwa [L.len] at this
      have := (hV i hi').2 j hj1
      rw [add_plain, hj] at this
      rw [Nat.add_assoc]
      exact this
  · intro v hv
    simp only [List.mem_map, List.mem_range] at hv
    obtain ⟨i, hi, rfl⟩ := hv
    exact (hV i hi).1

end Go.Proofs.YtcgiicmmfleinaaGreatDoor
