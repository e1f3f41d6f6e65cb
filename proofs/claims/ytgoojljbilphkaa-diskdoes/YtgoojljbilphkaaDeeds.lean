/- The deeds that a law is handed: what the statement's reading of them tells; where they lie. -/
import Derived.Test.YtgoojljbilphkaaByt
namespace Go.Proofs.Ytgoojljbilphkaa
open Go.RowKit NumMath Go.ChangeShapes Go.WideShapes Go.Deep
set_option linter.unusedVariables false

/-- a deed: its kind, its bytes (where they lie, and what they are), its number -/
structure Deed where
  k : Int
  a : Option Addr
  len : Nat
  cap : Nat
  b : List Int
  n : Int

def deed0 : Deed := ⟨0, none, 0, 0, [], 0⟩

def Deed.ok (w : World) (p : Deed) : Prop := (-9223372036854775808 ≤ p.n ∧ p.n ≤ 9223372036854775807) ∧ IsBytes w p.a p.len p.cap p.b

/-- the cells of one deed at block g, from o on -/
def CellD (w : World) (g o : Nat) (p : Deed) : Prop := w.cell? ⟨g, o, none⟩ = some (.int .i64 p.k) ∧ w.cell? ⟨g, o + 1, none⟩ = some (.slice p.a p.len p.cap) ∧ w.cell? ⟨g, o + 2, none⟩ = some (.int .i64 p.n)

def CellsD (w : World) (g off : Nat) (ps : List Deed) : Prop := ∀ i, i < ps.length → CellD w g (off + i * 3) (ps.getD i deed0)

theorem CellD.below {w w' : World} {B g o : Nat} {p : Deed} (h : CellD w g o p) (hb : Below B w w') (hg : g < B) : CellD w' g o p := by
  obtain ⟨h0, h1, h2⟩ := h
  exact ⟨(hb.cell (p := ⟨g, _, none⟩) hg).trans h0, (hb.cell (p := ⟨g, _, none⟩) hg).trans h1, (hb.cell (p := ⟨g, _, none⟩) hg).trans h2⟩

def IsDeeds (w : World) (a : Option Addr) (len cap : Nat) (ps : List Deed) : Prop :=
  ps.length = len ∧ len ≤ cap ∧ cap ≤ maxLen ∧ (∀ p ∈ ps, p.ok w) ∧ (len = 0 ∨ ∃ g off, a = some ⟨g, off, none⟩ ∧ g < w.heap.size ∧ CellsD w g off ps)

theorem Deed.ok.keep {w w' : World} {p : Deed} (h : p.ok w) (hb : Below w.heap.size w w') : p.ok w' := ⟨h.1, h.2.keep hb⟩

theorem IsDeeds.at {w : World} {a : Option Addr} {len cap : Nat} {ps : List Deed} (h : IsDeeds w a len cap ps) {k : Nat} (hk : k < len) : ∃ g off, a = some ⟨g, off, none⟩ ∧ g < w.heap.size ∧ CellsD w g off ps := by
  obtain ⟨h1, h2, h3, h4, h5⟩ := h
  rcases h5 with h5 | h5
  · omega
  · exact h5

theorem deed_mem (ps : List Deed) (k : Nat) (h : k < ps.length) : ps.getD k deed0 ∈ ps := by
  have : ps.getD k deed0 = ps[k] := by simp [List.getD, List.getElem?_eq_getElem h]
  rw [this]; exact List.getElem_mem h

theorem cellsDeed : Try.prog.cellsOf 30 = 3 := by kernel_rfl
theorem cellsInt : Try.prog.cellsOf 3 = 1 := by kernel_rfl
theorem cellsSl : Try.prog.cellsOf 28 = 1 := by kernel_rfl

theorem open_bytes' {H : Type} {enc : TypeId × Value → H} {w : World} {base : Nat} {spare : Nat → Bool} {held : Bool} {fuel : Nat} {v : Value} {x : DataW H × List MemPlace}
    (h : DataW.trod enc Try.prog w base spare held fuel 28 [v] = some x) : ∃ a len cap xs, v = .slice a len cap ∧ IsBytes w a len cap xs := by
  have hv : ∃ a len cap, v = .slice a len cap := by
    rcases open_slice1 Try.underlying28 (by kernel_rfl) h with ⟨hcs, _⟩ | ⟨ad, l, c, m, n, V, D, Pl, hcs, _⟩
    · simp at hcs; exact ⟨_, _, _, hcs⟩
    · simp at hcs; exact ⟨_, _, _, hcs⟩
  obtain ⟨a, len, cap, rfl⟩ := hv
  obtain ⟨xs, hx⟩ := open_bytes h
  exact ⟨a, len, cap, xs, rfl, hx⟩

theorem open_deeds {H : Type} {enc : TypeId × Value → H} {w : World} {base : Nat} {spare : Nat → Bool} {held : Bool} {fuel : Nat} {a : Option Addr} {len cap : Nat} {x : DataW H × List MemPlace}
    (h : DataW.trod enc Try.prog w base spare held fuel 22 [.slice a len cap] = some x) : ∃ xs, IsDeeds w a len cap xs := by
  rcases open_slice Try.underlying22 h with ⟨hcs, _⟩ | ⟨ad, l, c, m, n, D, Pl, hcs, hb, hl, hm, hmm, _, hx⟩
  · simp at hcs
    obtain ⟨rfl, rfl, rfl⟩ := hcs
    exact ⟨[], rfl, Nat.le_refl _, Nat.zero_le _, by simp, .inl rfl⟩
  · simp only [List.cons.injEq, Value.slice.injEq, and_true] at hcs
    obtain ⟨rfl, rfl, rfl⟩ := hcs
    have hlm : len ≤ m := by rw [hmm]; split <;> omega
    rw [cellsDeed] at hx
    have each : ∀ i, i < len → ∃ p : Deed, p.ok w ∧ w.cell? (ad.add (i * 3)) = some (.int .i64 p.k) ∧ w.cell? (ad.add (i * 3 + 1)) = some (.slice p.a p.len p.cap) ∧ w.cell? (ad.add (i * 3 + 2)) = some (.int .i64 p.n) := by
      intro i hi
      obtain ⟨cs', h1, h2⟩ := hx i (by omega)
      obtain ⟨_, hlen, hcell⟩ := World.cells?_some h1
      obtain ⟨y0, y1, y2, k, _, _, g0, g1, g2⟩ := trod_struct3 Try.underlying30 h2
      match cs', hlen with
      | [v0, v1, v2], _ =>
        simp only [cellsInt, cellsSl] at g0 g1 g2
        obtain ⟨n0, e0, _, f0⟩ := DataW.trod_int Try.underlying3 g0
        obtain ⟨n2, e2, _, f2⟩ := DataW.trod_int Try.underlying3 g2
        obtain ⟨ba, bl, bc, bs, e1, hB⟩ := open_bytes' g1
        simp at e0 e2
        subst e0 e1 e2
        have c0 := hcell 0 (by omega)
        have c1 := hcell 1 (by omega)
        have c2 := hcell 2 (by omega)
        rw [Go.Deep.add_add] at c0 c1 c2
        exact ⟨⟨n0, ba, bl, bc, bs, n2⟩, ⟨wf_i64 f2, hB⟩, c0, c1, c2⟩
    obtain ⟨V, hV⟩ := @choose_lt Deed ⟨deed0⟩ len _ each
    have hg : ∀ i, i < len → ((List.range len).map V).getD i deed0 = V i := by
      intro i hi
      simp [List.getD, hi]
    refine ⟨(List.range len).map V, by simp, hl, hm, ?_, ?_⟩
    · intro v hv
      simp only [List.mem_map, List.mem_range] at hv
      obtain ⟨i, hi, rfl⟩ := hv
      exact (hV i hi).1
    · by_cases h0 : len = 0
      · exact .inl h0
      · right
        obtain ⟨b, off, spot⟩ := ad
        have hspot : spot = none := by
          have := World.cell?_spot (hV 0 (by omega)).2.1
          simpa [Addr.add] using this
        subst hspot
        refine ⟨b, off, rfl, ?_, ?_⟩
        · have := World.block_lt_of_cell? _ _ (hV 0 (by omega)).2.1
          rw [add_plain] at this
          exact this
        · intro i hi
          have hi' : i < len := by simpa using hi
          rw [hg i hi']
          obtain ⟨_, c0, c1, c2⟩ := hV i hi'
          rw [add_plain] at c0 c1 c2
          exact ⟨c0, c1, c2⟩

end Go.Proofs.Ytgoojljbilphkaa
