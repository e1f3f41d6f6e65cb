/- What a law of layer 8 is handed: snapshots, hard states and entries by value, lists of entries, deeds. -/
import Derived.Test.YtodmieehdleohaaGreatEnA
import Derived.Lib.SmallJoins
namespace Go.Proofs.YtodmieehdleohaaGreat
open Go.RowKit NumMath Go.ChangeShapes Go.WideShapes Go.Deep
set_option linter.unusedVariables false
set_option maxRecDepth 100000

/-- a snapshot's cells -/
def IsSnap (w : World) (i t : Int) (ma : Option Addr) (mn mc : Nat) (m : List Int) (da : Option Addr) (dn dc : Nat) (d : List Int) : Prop :=
  (0 ≤ i ∧ i ≤ 18446744073709551615) ∧ (0 ≤ t ∧ t ≤ 18446744073709551615) ∧ IsNums w ma mn mc m ∧ IsBytes w da dn dc d

theorem cells8_snap : Tryz.prog.cellsOf 28 = 4 := by kernel_rfl

theorem cells8_ent : Tryz.prog.cellsOf 76 = 4 := by kernel_rfl

theorem cells8_hard : Tryz.prog.cellsOf 24 = 2 := by kernel_rfl

theorem cells8_u64 : Tryz.prog.cellsOf 22 = 1 := by kernel_rfl

theorem cells8_int : Tryz.prog.cellsOf 3 = 1 := by kernel_rfl

theorem cells8_nums : Tryz.prog.cellsOf 25 = 1 := by kernel_rfl

theorem cells8_bytes : Tryz.prog.cellsOf 26 = 1 := by kernel_rfl

theorem cells8_ents : Tryz.prog.cellsOf 29 = 1 := by kernel_rfl

theorem wf_i64n {n : Int} (h : (Lit.int .i64 n).wf = true) : -9223372036854775808 ≤ n ∧ n ≤ 9223372036854775807 := by
  simp [Lit.wf, IntKind.min, IntKind.max, IntKind.signed, IntKind.bits] at h
  omega

theorem open_bytes8 {H : Type} {enc : TypeId × Value → H} {w : World} {base : Nat} {spare : Nat → Bool} {held : Bool} {fuel : Nat} {v : Value} {x : DataW H × List MemPlace}
    (h : DataW.trod enc Tryz.prog w base spare held fuel 26 [v] = some x) : ∃ a len cap xs, v = .slice a len cap ∧ IsBytes w a len cap xs := by
  have hv : ∃ a len cap, v = .slice a len cap := by
    rcases open_slice1 Tryz.underlying26 (by kernel_rfl) h with ⟨hcs, _⟩ | ⟨ad, l, c, m, n, V, D, Pl, hcs, _⟩
    · simp at hcs; exact ⟨_, _, _, hcs⟩
    · simp at hcs; exact ⟨_, _, _, hcs⟩
  obtain ⟨a, len, cap, rfl⟩ := hv
  obtain ⟨xs, hx⟩ := open_bytes h
  exact ⟨a, len, cap, xs, rfl, hx⟩

theorem open_snap {H : Type} {enc : TypeId × Value → H} {w : World} {base : Nat} {spare : Nat → Bool} {held : Bool} {fuel : Nat} {v0 v1 v2 v3 : Value} {x : DataW H × List MemPlace}
    (h : DataW.trod enc Tryz.prog w base spare held fuel 28 [v0, v1, v2, v3] = some x) : ∃ i t ma mn mc m da dn dc d, v0 = .int .u64 i ∧ v1 = .int .u64 t ∧ v2 = .slice ma mn mc ∧ v3 = .slice da dn dc ∧ IsSnap w i t ma mn mc m da dn dc d := by
  obtain ⟨y0, y1, y2, y3, k, _, _, g0, g1, g2, g3⟩ := Go.Joins.trod_struct4 Tryz.underlying28 h
  simp only [cells8_u64, cells8_nums, cells8_bytes] at g0 g1 g2 g3
  obtain ⟨n0, e0, _, f0⟩ := DataW.trod_int Tryz.underlying22 g0
  obtain ⟨n1, e1, _, f1⟩ := DataW.trod_int Tryz.underlying22 g1
  obtain ⟨ma, mn, mc, m, e2, hm⟩ := open_nums' g2
  obtain ⟨da, dn, dc, d, e3, hd⟩ := open_bytes8 g3
  simp at e0 e1
  exact ⟨n0, n1, ma, mn, mc, m, da, dn, dc, d, e0, e1, e2, e3, wf_u64n f0, wf_u64n f1, hm, hd⟩

theorem open_hard {H : Type} {enc : TypeId × Value → H} {w : World} {base : Nat} {spare : Nat → Bool} {held : Bool} {fuel : Nat} {v0 v1 : Value} {x : DataW H × List MemPlace}
    (h : DataW.trod enc Tryz.prog w base spare held fuel 24 [v0, v1] = some x) : ∃ t v, v0 = .int .u64 t ∧ v1 = .int .u64 v ∧ (0 ≤ t ∧ t ≤ 18446744073709551615) ∧ (0 ≤ v ∧ v ≤ 18446744073709551615) := by
  obtain ⟨y0, y1, k, _, _, g0, g1⟩ := trod_struct2 Tryz.underlying24 h
  simp only [cells8_u64] at g0 g1
  obtain ⟨n0, e0, _, f0⟩ := DataW.trod_int Tryz.underlying22 g0
  obtain ⟨n1, e1, _, f1⟩ := DataW.trod_int Tryz.underlying22 g1
  simp at e0 e1
  exact ⟨n0, n1, e0, e1, wf_u64n f0, wf_u64n f1⟩

theorem open_ent {H : Type} {enc : TypeId × Value → H} {w : World} {base : Nat} {spare : Nat → Bool} {held : Bool} {fuel : Nat} {v0 v1 v2 v3 : Value} {x : DataW H × List MemPlace}
    (h : DataW.trod enc Tryz.prog w base spare held fuel 76 [v0, v1, v2, v3] = some x) : ∃ m : MEnt, v0 = .int .u64 m.e.i ∧ v1 = .int .u64 m.e.t ∧ v2 = .int .i64 m.e.k ∧ v3 = .slice m.b m.n m.c ∧ m.ok (fun _ => False) w := by
  obtain ⟨y0, y1, y2, y3, k, _, _, g0, g1, g2, g3⟩ := Go.Joins.trod_struct4 Tryz.underlying76 h
  simp only [cells8_u64, cells8_int, cells8_bytes] at g0 g1 g2 g3
  obtain ⟨n0, e0, _, f0⟩ := DataW.trod_int Tryz.underlying22 g0
  obtain ⟨n1, e1, _, f1⟩ := DataW.trod_int Tryz.underlying22 g1
  obtain ⟨n2, e2, _, f2⟩ := DataW.trod_int Tryz.underlying3 g2
  obtain ⟨da, dn, dc, d, e3, hd⟩ := open_bytes8 g3
  simp at e0 e1 e2
  exact ⟨⟨⟨n0, n1, n2, d⟩, da, dn, dc⟩, e0, e1, e2, e3, ⟨wf_u64n f0, wf_u64n f1, wf_i64n f2⟩, hd, .inr (fun _ _ h => h)⟩

theorem list4 {α : Type} {cs : List α} (h : cs.length = 4) : ∃ c0 c1 c2 c3, cs = [c0, c1, c2, c3] := by
  match cs, h with
  | [c0, c1, c2, c3], _ => exact ⟨c0, c1, c2, c3, rfl⟩

theorem open_ms {H : Type} {enc : TypeId × Value → H} {w : World} {base : Nat} {spare : Nat → Bool} {held : Bool} {fuel : Nat} {a : Option Addr} {len cap : Nat} {x : DataW H × List MemPlace}
    (h : DataW.trod enc Tryz.prog w base spare held fuel 29 [.slice a len cap] = some x) : ∃ ms, IsMs (fun _ => False) w a len cap ms := by
  rcases open_slice Tryz.underlying29 h with ⟨hcs, _⟩ | ⟨ad, l, c, m, n, D, Pl, hcs, hb, hl, hm, hmm, _, hx⟩
  · simp at hcs
    obtain ⟨rfl, rfl, rfl⟩ := hcs
    exact ⟨[], isMs_nil _ _⟩
  · simp only [List.cons.injEq, Value.slice.injEq, and_true] at hcs
    obtain ⟨rfl, rfl, rfl⟩ := hcs
    have hlm : len ≤ m := by rw [hmm]; split <;> omega
    rw [cells8_ent] at hx
    have each : ∀ i, i < len → ∃ p : MEnt, p.ok (fun _ => False) w ∧ w.cell? (ad.add (i * 4)) = some (.int .u64 p.e.i) ∧ w.cell? (ad.add (i * 4 + 1)) = some (.int .u64 p.e.t) ∧ w.cell? (ad.add (i * 4 + 2)) = some (.int .i64 p.e.k) ∧ w.cell? (ad.add (i * 4 + 3)) = some (.slice p.b p.n p.c) := by
      intro i hi
      obtain ⟨cs', h1, h2⟩ := hx i (by omega)
      obtain ⟨_, hlen, hcell⟩ := World.cells?_some h1
      obtain ⟨v0, v1, v2, v3, rfl⟩ := list4 hlen
      obtain ⟨p, rfl, rfl, rfl, rfl, hok⟩ := open_ent h2
      have c0 := hcell 0 (by omega)
      have c1 := hcell 1 (by omega)
      have c2 := hcell 2 (by omega)
      have c3 := hcell 3 (by omega)
      rw [Go.Deep.add_add] at c0 c1 c2 c3
      exact ⟨p, hok, c0, c1, c2, c3⟩
    obtain ⟨V, hV⟩ := @choose_lt MEnt ⟨ment0⟩ len _ each
    have hg : ∀ i, i < len → ((List.range len).map V).getD i ment0 = V i := by
      intro i hi
      simp [List.getD, hi]
    refine ⟨(List.range len).map V, by simp, hl, hm, ?_, ?_⟩
    · intro v hv
      simp only [List.mem_map, List.mem_range] at hv
      obtain ⟨i, hi, rfl⟩ := hv
      exact (hV i hi).1
    · by_cases h0 : len = 0
      · exact .inl h0
      · right
        obtain ⟨b, off, spot⟩ := ad
        have hspot : spot = none := by
          have := World.cell?_spot (hV 0 (by omega)).2.1
          simpa [Addr.add] using this
        subst hspot
        refine ⟨b, off, rfl, ?_, ?_⟩
        · have := World.block_lt_of_cell? _ _ (hV 0 (by omega)).2.1
          rw [add_plain] at this
          exact this
        · intro i hi
          have hi' : i < len := by simpa using hi
          rw [hg i hi']
          obtain ⟨_, c0, c1, c2, c3⟩ := hV i hi'
          rw [add_plain] at c0 c1 c2 c3
          exact ⟨c0, c1, c2, c3⟩

end Go.Proofs.YtodmieehdleohaaGreat
