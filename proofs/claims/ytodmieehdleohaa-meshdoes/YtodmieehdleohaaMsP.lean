/- What MeshDoes and MeshPlain are handed: fates, deeds, lists of messages. -/
import Derived.Test.YtodmieehdleohaaMsO
import Derived.Test.YtodmieehdleohaaMx1
namespace Go.Proofs.Ytodmieehdleohaa
open Go.RowKit NumMath Go.ChangeShapes Go.WideShapes Go.Deep
set_option linter.unusedVariables false
set_option maxRecDepth 100000

theorem cells10_fate : Try.prog.cellsOf 56 = 2 := by kernel_rfl
theorem cells10_deed : Try.prog.cellsOf 41 = 15 := by kernel_rfl

theorem list2 {α : Type} {cs : List α} (h : cs.length = 2) : ∃ c0 c1, cs = [c0, c1] := by
  match cs, h with
  | [c0, c1], _ => exact ⟨c0, c1, rfl⟩

theorem list15 {α : Type} {cs : List α} (h : cs.length = 15) : ∃ c0 c1 c2 c3 c4 c5 c6 c7 c8 c9 c10 c11 c12 c13 c14, cs = [c0, c1, c2, c3, c4, c5, c6, c7, c8, c9, c10, c11, c12, c13, c14] := by
  match cs, h with
  | [c0, c1, c2, c3, c4, c5, c6, c7, c8, c9, c10, c11, c12, c13, c14], _ => exact ⟨c0, c1, c2, c3, c4, c5, c6, c7, c8, c9, c10, c11, c12, c13, c14, rfl⟩

theorem open_fate {H : Type} {enc : TypeId × Value → H} {w : World} {base : Nat} {spare : Nat → Bool} {held : Bool} {fuel : Nat} {v0 v1 : Value} {x : DataW H × List MemPlace}
    (h : DataW.trod enc Try.prog w base spare held fuel 56 [v0, v1] = some x) : ∃ t d : Int, v0 = .int .i64 t ∧ v1 = .int .i64 d ∧ II t ∧ II d := by
  obtain ⟨y0, y1, k, _, _, g0, g1⟩ := trod_struct2 Try.underlying56 h
  simp only [cells8_int] at g0 g1
  obtain ⟨n0, e0, _, f0⟩ := DataW.trod_int Try.underlying3 g0
  obtain ⟨n1, e1, _, f1⟩ := DataW.trod_int Try.underlying3 g1
  simp at e0 e1
  exact ⟨n0, n1, e0, e1, wf_i64n f0, wf_i64n f1⟩

theorem open_fates {H : Type} {enc : TypeId × Value → H} {w : World} {base : Nat} {spare : Nat → Bool} {held : Bool} {fuel : Nat} {a : Option Addr} {len cap : Nat} {x : DataW H × List MemPlace}
    (h : DataW.trod enc Try.prog w base spare held fuel 22 [.slice a len cap] = some x) : ∃ xs, IsF w a len cap xs := by
  rcases open_slice Try.underlying22 h with ⟨hcs, _⟩ | ⟨ad, l, c, m, n, D, Pl, hcs, hb, hl, hm, hmm, _, hx⟩
  · simp at hcs
    obtain ⟨rfl, rfl, rfl⟩ := hcs
    exact ⟨[], isF_nil _⟩
  · simp only [List.cons.injEq, Value.slice.injEq, and_true] at hcs
    obtain ⟨rfl, rfl, rfl⟩ := hcs
    have hlm : len ≤ m := by rw [hmm]; split <;> omega
    rw [cells10_fate] at hx
    have each : ∀ i, i < len → ∃ p : Int × Int, (II p.1 ∧ II p.2) ∧ w.cell? (ad.add (i * 2)) = some (.int .i64 p.1) ∧ w.cell? (ad.add (i * 2 + 1)) = some (.int .i64 p.2) := by
      intro i hi
      obtain ⟨cs', h1, h2⟩ := hx i (by omega)
      obtain ⟨_, hlen, hcell⟩ := World.cells?_some h1
      obtain ⟨v0, v1, rfl⟩ := list2 hlen
      obtain ⟨t, d, rfl, rfl, ht, hd⟩ := open_fate h2
      have c0 := hcell 0 (by omega)
      have c1 := hcell 1 (by omega)
      rw [Go.Deep.add_add] at c0 c1
      exact ⟨(t, d), ⟨ht, hd⟩, c0, c1⟩
    obtain ⟨V, hV⟩ := @choose_lt (Int × Int) ⟨(0, 0)⟩ len _ each
    refine ⟨(List.range len).map V, by simp, hl, hm, ?_, ?_⟩
    · intro v hv
      simp only [List.mem_map, List.mem_range] at hv
      obtain ⟨i, hi, rfl⟩ := hv
      exact (hV i hi).1
    · by_cases h0 : len = 0
      · exact .inl h0
      · right
        obtain ⟨b, off, spot⟩ := ad
        have hspot : spot = none := by
          have := World.cell?_spot (hV 0 (by omega)).2.1
          simpa [Addr.add] using this
        subst hspot
        refine ⟨b, off, rfl, ?_, ?_⟩
        · have := World.block_lt_of_cell? _ _ (hV 0 (by omega)).2.1
          rw [add_plain] at this
          exact this
        · intro j u hu
          have hj : j < len * 2 := by
            have := (List.getElem?_eq_some_iff.1 hu).1
            rw [cellsF_len] at this
            simpa using this
          have hi : j / 2 < len := by omega
          have ej : j = j / 2 * 2 + j % 2 := by omega
          have e := flat_nth (f := fun f : Int × Int => [Value.int .i64 f.1, .int .i64 f.2]) (n := 2) (fun _ => rfl) (0, 0) ((List.range len).map V) (j / 2) (j % 2) (by simpa using hi) (by omega)
          have hg : ((List.range len).map V).getD (j / 2) (0, 0) = V (j / 2) := by simp [List.getD, hi]
          unfold cellsF at hu
          rw [ej, e, hg] at hu
          have hm2 : j % 2 = 0 ∨ j % 2 = 1 := by omega
          have c0 := (hV (j / 2) hi).2.1
          have c1 := (hV (j / 2) hi).2.2
          rw [add_plain] at c0 c1
          rcases hm2 with h2 | h2
          · rw [h2] at hu ej
            cases hu
            have e2 : off + j = off + j / 2 * 2 := by omega
            rw [e2]
            exact c0
          · rw [h2] at hu ej
            cases hu
            have e2 : off + j = off + (j / 2 * 2 + 1) := by omega
            rw [e2]
            exact c1

structure Deed10 where
  k : Int
  m : MMsg

def Deed10.vals (p : Deed10) : List Value := .int .i64 p.k :: p.m.vals
def deed0 : Deed10 := ⟨0, msg0⟩

theorem deed_len (p : Deed10) : p.vals.length = 15 := rfl

theorem open_deed {H : Type} {enc : TypeId × Value → H} {w : World} {base : Nat} {spare : Nat → Bool} {held : Bool} {fuel : Nat} {c0 c1 c2 c3 c4 c5 c6 c7 c8 c9 c10 c11 c12 c13 c14 : Value} {x : DataW H × List MemPlace}
    (h : DataW.trod enc Try.prog w base spare held fuel 41 [c0, c1, c2, c3, c4, c5, c6, c7, c8, c9, c10, c11, c12, c13, c14] = some x) : ∃ p : Deed10, [c0, c1, c2, c3, c4, c5, c6, c7, c8, c9, c10, c11, c12, c13, c14] = p.vals ∧ II p.k ∧ p.m.okX (fun _ => False) w := by
  obtain ⟨xs, n, _, rfl, hl, hlen, hf⟩ := DataW.trod_struct Try.underlying41 h
  obtain ⟨y0, g0⟩ := fld9 (show DataW.trod enc Try.prog w base spare held n 3 (([c0, c1, c2, c3, c4, c5, c6, c7, c8, c9, c10, c11, c12, c13, c14].drop 0).take (Try.prog.cellsOf 3)) = xs[0]? from hf 0 _ rfl) (by rw [hlen]; decide)
  rw [cells8_int] at g0
  simp only [List.drop, List.take] at g0
  obtain ⟨y1, g1⟩ := fld9 (show DataW.trod enc Try.prog w base spare held n 39 (([c0, c1, c2, c3, c4, c5, c6, c7, c8, c9, c10, c11, c12, c13, c14].drop 1).take (Try.prog.cellsOf 39)) = xs[1]? from hf 1 _ rfl) (by rw [hlen]; decide)
  rw [cells9_msg] at g1
  simp only [List.drop, List.take] at g1
  obtain ⟨n0, e0, _, f0⟩ := DataW.trod_int Try.underlying3 g0
  obtain ⟨m, e1, hM⟩ := open_msg g1
  simp at e0
  exact ⟨⟨n0, m⟩, by rw [e0, Deed10.vals, ← e1], wf_i64n f0, hM⟩

def IsDeeds10 (w : World) (a : Option Addr) (len cap : Nat) (ps : List Deed10) : Prop :=
  ps.length = len ∧ len ≤ cap ∧ cap ≤ maxLen ∧ (∀ p ∈ ps, II p.k ∧ p.m.okX (fun _ => False) w) ∧ (len = 0 ∨ ∃ g off, a = some ⟨g, off, none⟩ ∧ g < w.heap.size ∧ ∀ i, i < len → w.rangeAt g (off + i * 15) (ps.getD i deed0).vals)

theorem open_deeds10 {H : Type} {enc : TypeId × Value → H} {w : World} {base : Nat} {spare : Nat → Bool} {held : Bool} {fuel : Nat} {a : Option Addr} {len cap : Nat} {x : DataW H × List MemPlace}
    (h : DataW.trod enc Try.prog w base spare held fuel 23 [.slice a len cap] = some x) : ∃ xs, IsDeeds10 w a len cap xs := by
  rcases open_slice Try.underlying23 h with ⟨hcs, _⟩ | ⟨ad, l, c, m, n, D, Pl, hcs, hb, hl, hm, hmm, _, hx⟩
  · simp at hcs
    obtain ⟨rfl, rfl, rfl⟩ := hcs
    exact ⟨[], rfl, Nat.le_refl _, Nat.zero_le _, by simp, .inl rfl⟩
  · simp only [List.cons.injEq, Value.slice.injEq, and_true] at hcs
    obtain ⟨rfl, rfl, rfl⟩ := hcs
    have hlm : len ≤ m := by rw [hmm]; split <;> omega
    rw [cells10_deed] at hx
    have each : ∀ i, i < len → ∃ p : Deed10, (II p.k ∧ p.m.okX (fun _ => False) w) ∧ ∀ j, j < 15 → w.cell? (ad.add (i * 15 + j)) = p.vals[j]? := by
      intro i hi
      obtain ⟨cs', h1, h2⟩ := hx i (by omega)
      obtain ⟨_, hlen, hcell⟩ := World.cells?_some h1
      obtain ⟨c0, c1, c2, c3, c4, c5, c6, c7, c8, c9, c10, c11, c12, c13, c14, rfl⟩ := list15 hlen
      obtain ⟨p, e, hk, hok⟩ := open_deed h2
      refine ⟨p, ⟨hk, hok⟩, fun j hj => ?_⟩
      have := hcell j (by omega)
      rw [Go.Deep.add_add] at this
      rw [this, ← e]
    obtain ⟨V, hV⟩ := @choose_lt Deed10 ⟨deed0⟩ len _ each
    have hg : ∀ i, i < len → ((List.range len).map V).getD i deed0 = V i := by
      intro i hi
      simp [List.getD, hi]
    refine ⟨(List.range len).map V, by simp, hl, hm, ?_, ?_⟩
    · intro v hv
      simp only [List.mem_map, List.mem_range] at hv
      obtain ⟨i, hi, rfl⟩ := hv
      exact (hV i hi).1
    · by_cases h0 : len = 0
      · exact .inl h0
      · right
        obtain ⟨b, off, spot⟩ := ad
        have c00 : w.cell? ((⟨b, off, spot⟩ : Addr).add (0 * 15 + 0)) = some (.int .i64 (V 0).k) := (hV 0 (by omega)).2 0 (by omega)
        have hspot : spot = none := by
          have := World.cell?_spot c00
          simpa [Addr.add] using this
        subst hspot
        refine ⟨b, off, rfl, ?_, ?_⟩
        · have := World.block_lt_of_cell? _ _ c00
          rw [add_plain] at this
          exact this
        · intro i hi j v hj
          rw [hg i hi] at hj
          have hj1 : j < 15 := by have := (List.getElem?_eq_some_iff.1 hj).1; rwa [deed_len] at this
          have := (hV i hi).2 j hj1
          rw [add_plain, hj] at this
          rw [Nat.add_assoc]
          exact this

end Go.Proofs.Ytodmieehdleohaa
