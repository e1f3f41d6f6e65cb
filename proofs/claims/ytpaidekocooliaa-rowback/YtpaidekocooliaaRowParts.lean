/- The parts that a law is handed: what the statement's reading of them tells; few; where they lie. -/
import Derived.Test.YtpaidekocooliaaRowValues
import Derived.Test.YtpaidekocooliaaOkeyOpen
namespace Go.Proofs.Ytpaidekocooliaa
open Go.RowKit NumMath Go.ChangeShapes Go.WideShapes Go.Deep
set_option linter.unusedVariables false

/-- a part: its kind, its number, its bytes (where they lie, and what they are), its value, its bound -/
structure Part where
  k : Int
  n : Int
  a : Option Addr
  len : Nat
  cap : Nat
  b : List Int
  v : Val
  most : Int

def part0 : Part := ⟨0, 0, none, 0, 0, [], val0, 0⟩

def Part.ok (w : World) (p : Part) : Prop := (0 ≤ p.n ∧ p.n ≤ 18446744073709551615) ∧ (-9223372036854775808 ≤ p.most ∧ p.most ≤ 9223372036854775807) ∧ p.v.fits ∧ IsBytes w p.a p.len p.cap p.b

/-- the cells of one part at block g, from o on -/
def CellP (w : World) (g o : Nat) (p : Part) : Prop := w.cell? ⟨g, o, none⟩ = some (.int .i64 p.k) ∧ w.cell? ⟨g, o + 1, none⟩ = some (.int .u64 p.n) ∧ w.cell? ⟨g, o + 2, none⟩ = some (.slice p.a p.len p.cap) ∧
  w.cell? ⟨g, o + 3, none⟩ = some (.int .i64 p.v.k) ∧ w.cell? ⟨g, o + 4, none⟩ = some (.int .i64 p.v.n) ∧ w.cell? ⟨g, o + 5, none⟩ = some (.string p.v.s) ∧ w.cell? ⟨g, o + 6, none⟩ = some (.int .i64 p.most)

def CellsP (w : World) (g off : Nat) (ps : List Part) : Prop := ∀ i, i < ps.length → CellP w g (off + i * 7) (ps.getD i part0)

theorem CellP.below {w w' : World} {B g o : Nat} {p : Part} (h : CellP w g o p) (hb : Below B w w') (hg : g < B) : CellP w' g o p := by
  obtain ⟨h0, h1, h2, h3, h4, h5, h6⟩ := h
  exact ⟨(hb.cell (p := ⟨g, _, none⟩) hg).trans h0, (hb.cell (p := ⟨g, _, none⟩) hg).trans h1, (hb.cell (p := ⟨g, _, none⟩) hg).trans h2, (hb.cell (p := ⟨g, _, none⟩) hg).trans h3, (hb.cell (p := ⟨g, _, none⟩) hg).trans h4, (hb.cell (p := ⟨g, _, none⟩) hg).trans h5, (hb.cell (p := ⟨g, _, none⟩) hg).trans h6⟩

def IsParts (w : World) (a : Option Addr) (len cap : Nat) (ps : List Part) : Prop :=
  ps.length = len ∧ len ≤ cap ∧ cap ≤ maxLen ∧ (∀ p ∈ ps, p.ok w) ∧ (len = 0 ∨ ∃ g off, a = some ⟨g, off, none⟩ ∧ g < w.heap.size ∧ CellsP w g off ps)

theorem Part.ok.keep {w w' : World} {p : Part} (h : p.ok w) (hb : Below w.heap.size w w') : p.ok w' := ⟨h.1, h.2.1, h.2.2.1, h.2.2.2.keep hb⟩

theorem IsParts.keep {w w' : World} {a : Option Addr} {len cap : Nat} {ps : List Part} (h : IsParts w a len cap ps) (hb : Below w.heap.size w w') : IsParts w' a len cap ps := by
  obtain ⟨h1, h2, h3, h4, h5⟩ := h
  refine ⟨h1, h2, h3, fun p hp => (h4 p hp).keep hb, ?_⟩
  rcases h5 with h5 | ⟨g, off, ha, hg, hc⟩
  · exact .inl h5
  · exact .inr ⟨g, off, ha, Nat.lt_of_lt_of_le hg hb.size, fun i hi => (hc i hi).below hb hg⟩

theorem IsParts.at {w : World} {a : Option Addr} {len cap : Nat} {ps : List Part} (h : IsParts w a len cap ps) {k : Nat} (hk : k < len) : ∃ g off, a = some ⟨g, off, none⟩ ∧ g < w.heap.size ∧ CellsP w g off ps := by
  obtain ⟨h1, h2, h3, h4, h5⟩ := h
  rcases h5 with h5 | h5
  · omega
  · exact h5

theorem part_mem (ps : List Part) (k : Nat) (h : k < ps.length) : ps.getD k part0 ∈ ps := by
  have : ps.getD k part0 = ps[k] := by simp [List.getD, List.getElem?_eq_getElem h]
  rw [this]; exact List.getElem_mem h

/-! the reading -/

theorem trod_struct5 {H : Type} {enc : TypeId × Value → H} {P : Program} {w : World} {base : Nat} {spare : Nat → Bool} {held : Bool} {t : TypeId} {f0 f1 f2 f3 f4 : Field} {fuel : Nat} {cs : List Value} {x : DataW H × List MemPlace} (ht : P.underlying t = some (.struct #[f0, f1, f2, f3, f4])) (h : DataW.trod enc P w base spare held fuel t cs = some x) :
    ∃ y0 y1 y2 y3 y4 n, cs.length = P.cellsOf t ∧ DataW.trod enc P w base spare held n f0.type ((cs.drop f0.offset).take (P.cellsOf f0.type)) = some y0 ∧
      DataW.trod enc P w base spare held n f1.type ((cs.drop f1.offset).take (P.cellsOf f1.type)) = some y1 ∧ DataW.trod enc P w base spare held n f2.type ((cs.drop f2.offset).take (P.cellsOf f2.type)) = some y2 ∧
      DataW.trod enc P w base spare held n f3.type ((cs.drop f3.offset).take (P.cellsOf f3.type)) = some y3 ∧ DataW.trod enc P w base spare held n f4.type ((cs.drop f4.offset).take (P.cellsOf f4.type)) = some y4 := by
  obtain ⟨xs, n, _, rfl, hl, hlen, hf⟩ := DataW.trod_struct ht h
  match xs, hlen with
  | [y0, y1, y2, y3, y4], _ => exact ⟨y0, y1, y2, y3, y4, n, hl, by simpa using hf 0 f0 rfl, by simpa using hf 1 f1 rfl, by simpa using hf 2 f2 rfl, by simpa using hf 3 f3 rfl, by simpa using hf 4 f4 rfl⟩

theorem cellsPart : Try.prog.cellsOf 37 = 7 := by kernel_rfl
theorem cellsU64 : Try.prog.cellsOf 33 = 1 := by kernel_rfl
theorem cellsSl : Try.prog.cellsOf 25 = 1 := by kernel_rfl

theorem open_bytes' {H : Type} {enc : TypeId × Value → H} {w : World} {base : Nat} {spare : Nat → Bool} {held : Bool} {fuel : Nat} {v : Value} {x : DataW H × List MemPlace}
    (h : DataW.trod enc Try.prog w base spare held fuel 25 [v] = some x) : ∃ a len cap xs, v = .slice a len cap ∧ IsBytes w a len cap xs := by
  have hv : ∃ a len cap, v = .slice a len cap := by
    rcases open_slice1 Try.underlying25 (by kernel_rfl) h with ⟨hcs, _⟩ | ⟨ad, l, c, m, n, V, D, Pl, hcs, _⟩
    · simp at hcs; exact ⟨_, _, _, hcs⟩
    · simp at hcs; exact ⟨_, _, _, hcs⟩
  obtain ⟨a, len, cap, rfl⟩ := hv
  obtain ⟨xs, hx⟩ := open_bytes h
  exact ⟨a, len, cap, xs, rfl, hx⟩

theorem open_parts {H : Type} {enc : TypeId × Value → H} {w : World} {base : Nat} {spare : Nat → Bool} {held : Bool} {fuel : Nat} {a : Option Addr} {len cap : Nat} {x : DataW H × List MemPlace}
    (h : DataW.trod enc Try.prog w base spare held fuel 22 [.slice a len cap] = some x) : ∃ xs, IsParts w a len cap xs := by
  rcases open_slice Try.underlying22 h with ⟨hcs, _⟩ | ⟨ad, l, c, m, n, D, Pl, hcs, hb, hl, hm, hmm, _, hx⟩
  · simp at hcs
    obtain ⟨rfl, rfl, rfl⟩ := hcs
    exact ⟨[], rfl, Nat.le_refl _, Nat.zero_le _, by simp, .inl rfl⟩
  · simp only [List.cons.injEq, Value.slice.injEq, and_true] at hcs
    obtain ⟨rfl, rfl, rfl⟩ := hcs
    have hlm : len ≤ m := by rw [hmm]; split <;> omega
    rw [cellsPart] at hx
    have each : ∀ i, i < len → ∃ p : Part, p.ok w ∧ w.cell? (ad.add (i * 7)) = some (.int .i64 p.k) ∧ w.cell? (ad.add (i * 7 + 1)) = some (.int .u64 p.n) ∧ w.cell? (ad.add (i * 7 + 2)) = some (.slice p.a p.len p.cap) ∧
        w.cell? (ad.add (i * 7 + 3)) = some (.int .i64 p.v.k) ∧ w.cell? (ad.add (i * 7 + 4)) = some (.int .i64 p.v.n) ∧ w.cell? (ad.add (i * 7 + 5)) = some (.string p.v.s) ∧ w.cell? (ad.add (i * 7 + 6)) = some (.int .i64 p.most) := by
      intro i hi
      obtain ⟨cs', h1, h2⟩ := hx i (by omega)
      obtain ⟨_, hlen, hcell⟩ := World.cells?_some h1
      obtain ⟨y0, y1, y2, y3, y4, k, _, g0, g1, g2, g3, g4⟩ := trod_struct5 Try.underlying37 h2
      match cs', hlen with
      | [v0, v1, v2, v3, v4, v5, v6], _ =>
        simp only [cellsInt, cellsU64, cellsSl, cells27] at g0 g1 g2 g3 g4
        obtain ⟨n0, e0, _, f0⟩ := DataW.trod_int Try.underlying3 g0
        obtain ⟨n1, e1, _, f1⟩ := DataW.trod_int Try.underlying33 g1
        obtain ⟨n6, e6, _, f6⟩ := DataW.trod_int Try.underlying3 g4
        obtain ⟨z0, z1, z2, k', _, _, q0, q1, q2⟩ := trod_struct3 Try.underlying35 g3
        simp only [cellsInt, cellsInt64, cellsString] at q0 q1 q2
        obtain ⟨n3, e3, _, f3⟩ := DataW.trod_int Try.underlying3 q0
        obtain ⟨n4, e4, _, f4⟩ := DataW.trod_int Try.underlying2 q1
        obtain ⟨n5, e5, _, f5⟩ := DataW.trod_string Try.underlying9 q2
        obtain ⟨ba, bl, bc, bs, e2, hB⟩ := open_bytes' g2
        simp at e0 e1 e3 e4 e5 e6
        subst e0 e1 e2 e3 e4 e5 e6
        have c0 := hcell 0 (by omega)
        have c1 := hcell 1 (by omega)
        have c2 := hcell 2 (by omega)
        have c3 := hcell 3 (by omega)
        have c4 := hcell 4 (by omega)
        have c5 := hcell 5 (by omega)
        have c6 := hcell 6 (by omega)
        rw [Go.Deep.add_add] at c0 c1 c2 c3 c4 c5 c6
        exact ⟨⟨n0, n1, ba, bl, bc, bs, ⟨n3, n4, n5⟩, n6⟩, ⟨wf_u64 f1, wf_i64 f6, ⟨wf_i64 f3, wf_i64 f4, f5⟩, hB⟩, c0, c1, c2, c3, c4, c5, c6⟩
    obtain ⟨V, hV⟩ := @choose_lt Part ⟨part0⟩ len _ each
    have hg : ∀ i, i < len → ((List.range len).map V).getD i part0 = V i := by
      intro i hi
      simp [List.getD, hi]
    refine ⟨(List.range len).map V, by simp, hl, hm, ?_, ?_⟩
    · intro v hv
      simp only [List.mem_map, List.mem_range] at hv
      obtain ⟨i, hi, rfl⟩ := hv
      exact (hV i hi).1
    · by_cases h0 : len = 0
      · exact .inl h0
      · right
        obtain ⟨b, off, spot⟩ := ad
        have hspot : spot = none := by
          have := World.cell?_spot (hV 0 (by omega)).2.1
          simpa [Addr.add] using this
        subst hspot
        refine ⟨b, off, rfl, ?_, ?_⟩
        · have := World.block_lt_of_cell? _ _ (hV 0 (by omega)).2.1
          rw [add_plain] at this
          exact this
        · intro i hi
          have hi' : i < len := by simpa using hi
          rw [hg i hi']
          obtain ⟨_, c0, c1, c2, c3, c4, c5, c6⟩ := hV i hi'
          rw [add_plain] at c0 c1 c2 c3 c4 c5 c6
          exact ⟨c0, c1, c2, c3, c4, c5, c6⟩

/-! few -/

def fewP (ps : List Part) : Bool := ps.all (fun p => decide (p.len ≤ 200 ∧ p.v.s.size ≤ 200)) && decide (ps.length ≤ 20)

theorem parts_all {f : Part → Bool} (ps : List Part) (k : Nat) (h : k < ps.length) : (ps.take (k + 1)).all f = ((ps.take k).all f && f (ps.getD k part0)) := by
  rw [List.take_add_one, List.all_append]
  simp [List.getD, List.getElem?_eq_getElem h]

theorem fewP_not (ps : List Part) (k : Nat) (h : k < ps.length) (hs : ¬ ((ps.getD k part0).len ≤ 200 ∧ (ps.getD k part0).v.s.size ≤ 200)) : fewP ps = false := by
  unfold fewP
  have : ps.all (fun p => decide (p.len ≤ 200 ∧ p.v.s.size ≤ 200)) = false := by
    rw [List.all_eq_false]
    exact ⟨_, part_mem ps k h, by simpa using hs⟩
  rw [this]; rfl

theorem fewP_size {ps : List Part} (h : fewP ps = true) : (∀ p ∈ ps, p.len ≤ 200 ∧ p.v.s.size ≤ 200) ∧ ps.length ≤ 20 := by
  unfold fewP at h
  rw [Bool.and_eq_true, List.all_eq_true] at h
  exact ⟨fun v hv => of_decide_eq_true (h.1 v hv), of_decide_eq_true h.2⟩

set_option maxHeartbeats 1000000 in
theorem fewP_any (a : Option Addr) (len cap : Nat) (ps : List Part) (w : World) (h : IsParts w a len cap ps) :
    Calls Try.prog 10 #[.slice a len cap] w fun e w' => e = .returned (.bool (fewP ps)) ∧ Below w.heap.size w w' := by
  have HV := hide h
  obtain ⟨hl, hlc, hm, hok, -⟩ := h
  unfold maxLen at hm
  have HL : Hid (ps.length = len) := hl
  have HOK := hide hok
  clear hl hok
  go_enter Try.func10, Try.ntmps10
  go_wp2
  go_loopw [7] (fun i wr => ∃ k : Nat, k ≤ len ∧ i = .int .i64 k ∧ Below w.heap.size w wr ∧ (ps.take k).all (fun p => decide (p.len ≤ 200 ∧ p.v.s.size ≤ 200)) = true) (fun i _ => len - (intOf i).toNat)
  case atStart => exact ⟨0, Nat.zero_le _, rfl, Below.refl _ _, by simp⟩
  case round =>
    obtain ⟨k, hk, rfl, hb, hall⟩ := hrel
    have HA := hide hall
    clear hall
    have hsz := hb.size
    by_cases hlt : k < len
    · obtain ⟨g, off, rfl, hg, hc⟩ := HV.out.at hlt
      have hk' : k < ps.length := by rw [HL.out]; exact hlt
      have HT := hide (parts_all (f := fun p => decide (p.len ≤ 200 ∧ p.v.s.size ≤ 200)) ps k hk')
      have HN := hide (fewP_not ps k hk')
      have hcp := (hc k hk').below hb hg
      generalize ps.getD k part0 = pt at *
      obtain ⟨pk, pn, pa, pl, pc, pb, ⟨vk, vn, vs⟩, pm⟩ := pt
      obtain ⟨c0, c1, c2, c3, c4, c5, c6⟩ := hcp
      clear hc hk'
      dsimp only at *
      by_cases h200 : (200 : Int) < (pl : Int)
      · go_wp2
        go_ret
        rw [HN.out (by omega)]
        exact ⟨rfl, (hb.alloc hsz _)⟩
      · by_cases h200' : (200 : Int) < (vs.size : Int)
        · go_wp2
          go_ret
          rw [HN.out (by omega)]
          exact ⟨rfl, (hb.alloc hsz _)⟩
        · go_wp2
          go_roundw
          case rel => exact ⟨k + 1, by omega, by go_num, hb.alloc hsz _, by rw [HT.out, HA.out]; simp; omega⟩
          case measure => simp [intOf]; omega
    · have hkl : k = len := by omega
      subst hkl
      go_wp2
      go_ret
      refine ⟨?_, hb⟩
      rw [List.take_of_length_le (by rw [HL.out]; exact Nat.le_refl _)] at HA
      unfold fewP
      rw [HA.out, HL.out]
      simp
      omega

end Go.Proofs.Ytpaidekocooliaa
