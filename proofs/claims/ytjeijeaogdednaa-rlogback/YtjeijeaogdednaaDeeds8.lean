/- The deeds of layer 8 that a law is handed: what the statement's reading of them tells; where they lie. -/
import Derived.Test.YtjeijeaogdednaaOpen8
namespace Go.Proofs.Ytjeijeaogdednaa
open Go.RowKit NumMath Go.ChangeShapes Go.WideShapes Go.Deep
set_option linter.unusedVariables false
set_option maxRecDepth 100000

/-- a deed: its kind, its entries, its index, its data -/
structure Deed8 where
  k : Int
  la : Option Addr
  ln : Nat
  lc : Nat
  ms : List MEnt
  i : Int
  da : Option Addr
  dn : Nat
  dc : Nat
  d : List Int

def deed80 : Deed8 := ⟨0, none, 0, 0, [], 0, none, 0, 0, []⟩

def Deed8.ok (w : World) (p : Deed8) : Prop := (0 ≤ p.i ∧ p.i ≤ 18446744073709551615) ∧ IsMs (fun _ => False) w p.la p.ln p.lc p.ms ∧ IsBytes w p.da p.dn p.dc p.d

def CellD8 (w : World) (g o : Nat) (p : Deed8) : Prop := w.cell? ⟨g, o, none⟩ = some (.int .i64 p.k) ∧ w.cell? ⟨g, o + 1, none⟩ = some (.slice p.la p.ln p.lc) ∧ w.cell? ⟨g, o + 2, none⟩ = some (.int .u64 p.i) ∧ w.cell? ⟨g, o + 3, none⟩ = some (.slice p.da p.dn p.dc)

def CellsD8 (w : World) (g off : Nat) (ps : List Deed8) : Prop := ∀ i, i < ps.length → CellD8 w g (off + i * 4) (ps.getD i deed80)

theorem CellD8.below {w w' : World} {B g o : Nat} {p : Deed8} (h : CellD8 w g o p) (hb : Below B w w') (hg : g < B) : CellD8 w' g o p := by
  obtain ⟨h0, h1, h2, h3⟩ := h
  exact ⟨(hb.cell (p := ⟨g, _, none⟩) hg).trans h0, (hb.cell (p := ⟨g, _, none⟩) hg).trans h1, (hb.cell (p := ⟨g, _, none⟩) hg).trans h2, (hb.cell (p := ⟨g, _, none⟩) hg).trans h3⟩

def IsDeeds8 (w : World) (a : Option Addr) (len cap : Nat) (ps : List Deed8) : Prop :=
  ps.length = len ∧ len ≤ cap ∧ cap ≤ maxLen ∧ (∀ p ∈ ps, p.ok w) ∧ (len = 0 ∨ ∃ g off, a = some ⟨g, off, none⟩ ∧ g < w.heap.size ∧ CellsD8 w g off ps)

theorem IsDeeds8.at {w : World} {a : Option Addr} {len cap : Nat} {ps : List Deed8} (h : IsDeeds8 w a len cap ps) {k : Nat} (hk : k < len) : ∃ g off, a = some ⟨g, off, none⟩ ∧ g < w.heap.size ∧ CellsD8 w g off ps := by
  obtain ⟨h1, h2, h3, h4, h5⟩ := h
  rcases h5 with h5 | h5
  · omega
  · exact h5

theorem deed8_mem (ps : List Deed8) (k : Nat) (h : k < ps.length) : ps.getD k deed80 ∈ ps := by
  have : ps.getD k deed80 = ps[k] := by simp [List.getD, List.getElem?_eq_getElem h]
  rw [this]; exact List.getElem_mem h

theorem open_ms' {H : Type} {enc : TypeId × Value → H} {w : World} {base : Nat} {spare : Nat → Bool} {held : Bool} {fuel : Nat} {v : Value} {x : DataW H × List MemPlace}
    (h : DataW.trod enc Try.prog w base spare held fuel 34 [v] = some x) : ∃ a len cap ms, v = .slice a len cap ∧ IsMs (fun _ => False) w a len cap ms := by
  have hv : ∃ a len cap, v = .slice a len cap := by
    rcases open_slice Try.underlying34 h with ⟨hcs, _⟩ | ⟨ad, l, c, m, n, D, Pl, hcs, _⟩
    · simp at hcs; exact ⟨_, _, _, hcs⟩
    · simp at hcs; exact ⟨_, _, _, hcs⟩
  obtain ⟨a, len, cap, rfl⟩ := hv
  obtain ⟨ms, hx⟩ := open_ms h
  exact ⟨a, len, cap, ms, rfl, hx⟩

theorem open_deeds8 {H : Type} {enc : TypeId × Value → H} {w : World} {base : Nat} {spare : Nat → Bool} {held : Bool} {fuel : Nat} {a : Option Addr} {len cap : Nat} {x : DataW H × List MemPlace}
    (h : DataW.trod enc Try.prog w base spare held fuel 27 [.slice a len cap] = some x) : ∃ xs, IsDeeds8 w a len cap xs := by
  rcases open_slice Try.underlying27 h with ⟨hcs, _⟩ | ⟨ad, l, c, m, n, D, Pl, hcs, hb, hl, hm, hmm, _, hx⟩
  · simp at hcs
    obtain ⟨rfl, rfl, rfl⟩ := hcs
    exact ⟨[], rfl, Nat.le_refl _, Nat.zero_le _, by simp, .inl rfl⟩
  · simp only [List.cons.injEq, Value.slice.injEq, and_true] at hcs
    obtain ⟨rfl, rfl, rfl⟩ := hcs
    have hlm : len ≤ m := by rw [hmm]; split <;> omega
    rw [cells8_deed] at hx
    have each : ∀ i, i < len → ∃ p : Deed8, p.ok w ∧ w.cell? (ad.add (i * 4)) = some (.int .i64 p.k) ∧ w.cell? (ad.add (i * 4 + 1)) = some (.slice p.la p.ln p.lc) ∧ w.cell? (ad.add (i * 4 + 2)) = some (.int .u64 p.i) ∧ w.cell? (ad.add (i * 4 + 3)) = some (.slice p.da p.dn p.dc) := by
      intro i hi
      obtain ⟨cs', h1, h2⟩ := hx i (by omega)
      obtain ⟨_, hlen, hcell⟩ := World.cells?_some h1
      obtain ⟨v0, v1, v2, v3, rfl⟩ := list4 hlen
      obtain ⟨y0, y1, y2, y3, k, _, _, g0, g1, g2, g3⟩ := Go.Joins.trod_struct4 Try.underlying36 h2
      simp only [cells8_int, cells8_ents, cells8_u64, cells8_bytes] at g0 g1 g2 g3
      obtain ⟨n0, e0, _, f0⟩ := DataW.trod_int Try.underlying3 g0
      obtain ⟨la, ln, lc, ms, e1, hM⟩ := open_ms' g1
      obtain ⟨n2, e2, _, f2⟩ := DataW.trod_int Try.underlying22 g2
      obtain ⟨ba, bl, bc, bs, e3, hB⟩ := open_bytes8 g3
      simp at e0 e2
      subst e0 e1 e2 e3
      have c0 := hcell 0 (by omega)
      have c1 := hcell 1 (by omega)
      have c2 := hcell 2 (by omega)
      have c3 := hcell 3 (by omega)
      rw [Go.Deep.add_add] at c0 c1 c2 c3
      exact ⟨⟨n0, la, ln, lc, ms, n2, ba, bl, bc, bs⟩, ⟨wf_u64n f2, hM, hB⟩, c0, c1, c2, c3⟩
    obtain ⟨V, hV⟩ := @choose_lt Deed8 ⟨deed80⟩ len _ each
    have hg : ∀ i, i < len → ((List.range len).map V).getD i deed80 = V i := by
      intro i hi
      simp [List.getD, hi]
    refine ⟨(List.range len).map V, by simp, hl, hm, ?_, ?_⟩
    · intro v hv
      simp only [List.mem_map, List.mem_range] at hv
      obtain ⟨i, hi, rfl⟩ := hv
      exact (hV i hi).1
    · by_cases h0 : len = 0
      · exact .inl h0
      · right
        obtain ⟨b, off, spot⟩ := ad
        have hspot : spot = none := by
          have := World.cell?_spot (hV 0 (by omega)).2.1
          simpa [Addr.add] using this
        subst hspot
        refine ⟨b, off, rfl, ?_, ?_⟩
        · have := World.block_lt_of_cell? _ _ (hV 0 (by omega)).2.1
          rw [add_plain] at this
          exact this
        · intro i hi
          have hi' : i < len := by simpa using hi
          rw [hg i hi']
          obtain ⟨_, c0, c1, c2, c3⟩ := hV i hi'
          rw [add_plain] at c0 c1 c2 c3
          exact ⟨c0, c1, c2, c3⟩

end Go.Proofs.Ytjeijeaogdednaa
