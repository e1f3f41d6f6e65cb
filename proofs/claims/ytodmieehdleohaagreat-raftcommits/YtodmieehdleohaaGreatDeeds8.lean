/- The deeds of layer 8 that a law is handed: what the statement's reading of them tells; where they lie. -/
import Derived.Test.YtodmieehdleohaaGreatOpen8
namespace Go.Proofs.YtodmieehdleohaaGreat
open Go.RowKit NumMath Go.ChangeShapes Go.WideShapes Go.Deep
set_option linter.unusedVariables false
set_option maxRecDepth 100000

/-- a deed: its kind, its entries, its index, its data -/
structure Deed8 where
  k : Int
  la : Option Addr
  ln : Nat
  lc : Nat
  ms : List MEnt
  i : Int
  da : Option Addr
  dn : Nat
  dc : Nat
  d : List Int

def deed80 : Deed8 := ⟨0, none, 0, 0, [], 0, none, 0, 0, []⟩

def Deed8.ok (w : World) (p : Deed8) : Prop := (0 ≤ p.i ∧ p.i ≤ 18446744073709551615) ∧ IsMs (fun _ => False) w p.la p.ln p.lc p.ms ∧ IsBytes w p.da p.dn p.dc p.d

def CellD8 (w : World) (g o : Nat) (p : Deed8) : Prop := w.cell? ⟨g, o, none⟩ = some (.int .i64 p.k) ∧ w.cell? ⟨g, o + 1, none⟩ = some (.slice p.la p.ln p.lc) ∧ w.cell? ⟨g, o + 2, none⟩ = some (.int .u64 p.i) ∧ w.cell? ⟨g, o + 3, none⟩ = some (.slice p.da p.dn p.dc)

def CellsD8 (w : World) (g off : Nat) (ps : List Deed8) : Prop := ∀ i, i < ps.length → CellD8 w g (off + i * 4) (ps.getD i deed80)

theorem CellD8.below {w w' : World} {B g o : Nat} {p : Deed8} (h : CellD8 w g o p) (hb : Below B w w') (hg : g < B) : CellD8 w' g o p := by
  obtain ⟨h0, h1, h2, h3⟩ := h
  exact ⟨(hb.cell (p := ⟨g, _, none⟩) hg).trans h0, (hb.cell (p := ⟨g, _, none⟩) hg).trans h1, (hb.cell (p := ⟨g, _, none⟩) hg).trans h2, (hb.cell (p := ⟨g, _, none⟩) hg).trans h3⟩

def IsDeeds8 (w : World) (a : Option Addr) (len cap : Nat) (ps : List Deed8) : Prop :=
  ps.length = len ∧ len ≤ cap ∧ cap ≤ maxLen ∧ (∀ p ∈ ps, p.ok w) ∧ (len = 0 ∨ ∃ g off, a = some ⟨g, off, none⟩ ∧ g < w.heap.size ∧ CellsD8 w g off ps)

theorem IsDeeds8.at {w : World} {a : Option Addr} {len cap : Nat} {ps : List Deed8} (h : IsDeeds8 w a len cap ps) {k : Nat} (hk : k < len) : ∃ g off, a = some ⟨g, off, none⟩ ∧ g < w.heap.size ∧ CellsD8 w g off ps := by
  obtain ⟨h1, h2, h3, h4, h5⟩ := h
  rcases h5 with h5 | h5
  · omega
  · exact h5

theorem deed8_mem (ps : List Deed8) (k : Nat) (h : k < ps.length) : ps.getD k deed80 ∈ ps := by
  have : ps.getD k deed80 = ps[k] := by simp [List.getD, List.getElem?_eq_getElem h]
  rw [this]; exact List.getElem_mem h

theorem open_ms' {H : Type} {enc : TypeId × Value → H} {w : World} {base : Nat} {spare : Nat → Bool} {held : Bool} {fuel : Nat} {v : Value} {x : DataW H × List MemPlace}
    (h : DataW.trod enc Tryz.prog w base spare held fuel 29 [v] = some x) : ∃ a len cap ms, v = .slice a len cap ∧ IsMs (fun _ => False) w a len cap ms := by
  have hv : ∃ a len cap, v = .slice a len cap := by
    rcases open_slice Tryz.underlying29 h with ⟨hcs, _⟩ | ⟨ad, l, c, m, n, D, Pl, hcs, _⟩
    · simp at hcs; exact ⟨_, _, _, hcs⟩
    · simp at hcs; exact ⟨_, _, _, hcs⟩
  obtain ⟨a, len, cap, rfl⟩ := hv
  obtain ⟨ms, hx⟩ := open_ms h
  exact ⟨a, len, cap, ms, rfl, hx⟩

end Go.Proofs.YtodmieehdleohaaGreat
