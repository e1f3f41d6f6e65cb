/- The inputs of layer 9 that a law is handed: what the statement's reading of them tells; where they lie. Lists of inputs. An input by value. -/
import Derived.Test.YtodmieehdleohaaGreatOpen8
import Derived.Test.YtodmieehdleohaaGreatDeeds8
import Derived.Test.YtodmieehdleohaaGreatNdA
namespace Go.Proofs.YtodmieehdleohaaGreat
open Go.RowKit NumMath Go.ChangeShapes Go.WideShapes Go.Deep
set_option linter.unusedVariables false
set_option maxRecDepth 100000

/-- a message, and where its lists lie -/
structure MMsg where
  k : Int
  fr : Int
  tt : Int
  tm : Int
  ix : Int
  lt : Int
  cm : Int
  hn : Int
  rj : Bool
  ea : Option Addr
  en : Nat
  ec : Nat
  es : List MEnt
  si : Int
  st : Int
  ma : Option Addr
  mn : Nat
  mc : Nat
  mm : List Int
  sa : Option Addr
  sn : Nat
  sc : Nat
  sd : List Int

def MMsg.vals (m : MMsg) : List Value := msgCells m.k m.fr m.tt m.tm m.ix m.lt m.cm m.hn m.rj m.ea m.en m.ec m.si m.st m.ma m.mn m.mc m.sa m.sn m.sc

abbrev UU (x : Int) : Prop := 0 ≤ x ∧ x ≤ 18446744073709551615

structure MMsg.ok (w : World) (m : MMsg) : Prop where
  k : -9223372036854775808 ≤ m.k ∧ m.k ≤ 9223372036854775807
  fr : UU m.fr
  tt : UU m.tt
  tm : UU m.tm
  ix : UU m.ix
  lt : UU m.lt
  cm : UU m.cm
  hn : UU m.hn
  es : IsMs (fun _ => False) w m.ea m.en m.ec m.es
  sn : IsSnap w m.si m.st m.ma m.mn m.mc m.mm m.sa m.sn m.sc m.sd

/-- an input, and where its lists lie -/
structure MInp where
  k : Int
  dr : Int
  m : MMsg
  da : Option Addr
  dn : Nat
  dc : Nat
  d : List Int
  ba : Option Addr
  bn : Nat
  bc : Nat
  b : List Int
  i : Int

def MInp.vals (p : MInp) : List Value := [.int .i64 p.k, .int .u64 p.dr, .int .i64 p.m.k, .int .u64 p.m.fr, .int .u64 p.m.tt, .int .u64 p.m.tm, .int .u64 p.m.ix, .int .u64 p.m.lt, .int .u64 p.m.cm, .int .u64 p.m.hn, .bool p.m.rj, .slice p.m.ea p.m.en p.m.ec, .int .u64 p.m.si, .int .u64 p.m.st, .slice p.m.ma p.m.mn p.m.mc, .slice p.m.sa p.m.sn p.m.sc, .slice p.da p.dn p.dc, .slice p.ba p.bn p.bc, .int .u64 p.i]

structure MInp.ok (w : World) (p : MInp) : Prop where
  k : -9223372036854775808 ≤ p.k ∧ p.k ≤ 9223372036854775807
  dr : UU p.dr
  m : p.m.ok w
  d : IsBytes w p.da p.dn p.dc p.d
  b : IsNums w p.ba p.bn p.bc p.b
  i : UU p.i

def msg0 : MMsg := ⟨0, 0, 0, 0, 0, 0, 0, 0, false, none, 0, 0, [], 0, 0, none, 0, 0, [], none, 0, 0, []⟩
def inp0 : MInp := ⟨0, 0, msg0, none, 0, 0, [], none, 0, 0, [], 0⟩

theorem cells9_msg : Tryz.prog.cellsOf 49 = 14 := by kernel_rfl
theorem cells9_inp : Tryz.prog.cellsOf 51 = 19 := by kernel_rfl
theorem cells9_bool : Tryz.prog.cellsOf 4 = 1 := by kernel_rfl

theorem list14 {α : Type} {cs : List α} (h : cs.length = 14) : ∃ c0 c1 c2 c3 c4 c5 c6 c7 c8 c9 c10 c11 c12 c13, cs = [c0, c1, c2, c3, c4, c5, c6, c7, c8, c9, c10, c11, c12, c13] := by
  match cs, h with
  | [c0, c1, c2, c3, c4, c5, c6, c7, c8, c9, c10, c11, c12, c13], _ => exact ⟨c0, c1, c2, c3, c4, c5, c6, c7, c8, c9, c10, c11, c12, c13, rfl⟩

theorem list19 {α : Type} {cs : List α} (h : cs.length = 19) : ∃ c0 c1 c2 c3 c4 c5 c6 c7 c8 c9 c10 c11 c12 c13 c14 c15 c16 c17 c18, cs = [c0, c1, c2, c3, c4, c5, c6, c7, c8, c9, c10, c11, c12, c13, c14, c15, c16, c17, c18] := by
  match cs, h with
  | [c0, c1, c2, c3, c4, c5, c6, c7, c8, c9, c10, c11, c12, c13, c14, c15, c16, c17, c18], _ => exact ⟨c0, c1, c2, c3, c4, c5, c6, c7, c8, c9, c10, c11, c12, c13, c14, c15, c16, c17, c18, rfl⟩

theorem fld9 {α : Type} {xs : List α} {i : Nat} {o : Option α} (h : o = xs[i]?) (hi : i < xs.length) : ∃ y, o = some y := ⟨xs[i], h.trans (List.getElem?_eq_getElem hi)⟩

theorem open_msg {H : Type} {enc : TypeId × Value → H} {w : World} {base : Nat} {spare : Nat → Bool} {held : Bool} {fuel : Nat} {c0 c1 c2 c3 c4 c5 c6 c7 c8 c9 c10 c11 c12 c13 : Value} {x : DataW H × List MemPlace}
    (h : DataW.trod enc Tryz.prog w base spare held fuel 49 [c0, c1, c2, c3, c4, c5, c6, c7, c8, c9, c10, c11, c12, c13] = some x) : ∃ m : MMsg, [c0, c1, c2, c3, c4, c5, c6, c7, c8, c9, c10, c11, c12, c13] = m.vals ∧ m.ok w := by
  obtain ⟨xs, n, _, rfl, hl, hlen, hf⟩ := DataW.trod_struct Tryz.underlying49 h
  obtain ⟨y0, g0⟩ := fld9 (show DataW.trod enc Tryz.prog w base spare held n 3 (([c0, c1, c2, c3, c4, c5, c6, c7, c8, c9, c10, c11, c12, c13].drop 0).take (Tryz.prog.cellsOf 3)) = xs[0]? from hf 0 _ rfl) (by rw [hlen]; decide)
  rw [cells8_int] at g0
  simp only [List.drop, List.take] at g0
  obtain ⟨y1, g1⟩ := fld9 (show DataW.trod enc Tryz.prog w base spare held n 22 (([c0, c1, c2, c3, c4, c5, c6, c7, c8, c9, c10, c11, c12, c13].drop 1).take (Tryz.prog.cellsOf 22)) = xs[1]? from hf 1 _ rfl) (by rw [hlen]; decide)
  rw [cells8_u64] at g1
  simp only [List.drop, List.take] at g1
  obtain ⟨y2, g2⟩ := fld9 (show DataW.trod enc Tryz.prog w base spare held n 22 (([c0, c1, c2, c3, c4, c5, c6, c7, c8, c9, c10, c11, c12, c13].drop 2).take (Tryz.prog.cellsOf 22)) = xs[2]? from hf 2 _ rfl) (by rw [hlen]; decide)
  rw [cells8_u64] at g2
  simp only [List.drop, List.take] at g2
  obtain ⟨y3, g3⟩ := fld9 (show DataW.trod enc Tryz.prog w base spare held n 22 (([c0, c1, c2, c3, c4, c5, c6, c7, c8, c9, c10, c11, c12, c13].drop 3).take (Tryz.prog.cellsOf 22)) = xs[3]? from hf 3 _ rfl) (by rw [hlen]; decide)
  rw [cells8_u64] at g3
  simp only [List.drop, List.take] at g3
  obtain ⟨y4, g4⟩ := fld9 (show DataW.trod enc Tryz.prog w base spare held n 22 (([c0, c1, c2, c3, c4, c5, c6, c7, c8, c9, c10, c11, c12, c13].drop 4).take (Tryz.prog.cellsOf 22)) = xs[4]? from hf 4 _ rfl) (by rw [hlen]; decide)
  rw [cells8_u64] at g4
  simp only [List.drop, List.take] at g4
  obtain ⟨y5, g5⟩ := fld9 (show DataW.trod enc Tryz.prog w base spare held n 22 (([c0, c1, c2, c3, c4, c5, c6, c7, c8, c9, c10, c11, c12, c13].drop 5).take (Tryz.prog.cellsOf 22)) = xs[5]? from hf 5 _ rfl) (by rw [hlen]; decide)
  rw [cells8_u64] at g5
  simp only [List.drop, List.take] at g5
  obtain ⟨y6, g6⟩ := fld9 (show DataW.trod enc Tryz.prog w base spare held n 22 (([c0, c1, c2, c3, c4, c5, c6, c7, c8, c9, c10, c11, c12, c13].drop 6).take (Tryz.prog.cellsOf 22)) = xs[6]? from hf 6 _ rfl) (by rw [hlen]; decide)
  rw [cells8_u64] at g6
  simp only [List.drop, List.take] at g6
  obtain ⟨y7, g7⟩ := fld9 (show DataW.trod enc Tryz.prog w base spare held n 22 (([c0, c1, c2, c3, c4, c5, c6, c7, c8, c9, c10, c11, c12, c13].drop 7).take (Tryz.prog.cellsOf 22)) = xs[7]? from hf 7 _ rfl) (by rw [hlen]; decide)
  rw [cells8_u64] at g7
  simp only [List.drop, List.take] at g7
  obtain ⟨y8, g8⟩ := fld9 (show DataW.trod enc Tryz.prog w base spare held n 4 (([c0, c1, c2, c3, c4, c5, c6, c7, c8, c9, c10, c11, c12, c13].drop 8).take (Tryz.prog.cellsOf 4)) = xs[8]? from hf 8 _ rfl) (by rw [hlen]; decide)
  rw [cells9_bool] at g8
  simp only [List.drop, List.take] at g8
  obtain ⟨y9, g9⟩ := fld9 (show DataW.trod enc Tryz.prog w base spare held n 29 (([c0, c1, c2, c3, c4, c5, c6, c7, c8, c9, c10, c11, c12, c13].drop 9).take (Tryz.prog.cellsOf 29)) = xs[9]? from hf 9 _ rfl) (by rw [hlen]; decide)
  rw [cells8_ents] at g9
  simp only [List.drop, List.take] at g9
  obtain ⟨y10, g10⟩ := fld9 (show DataW.trod enc Tryz.prog w base spare held n 28 (([c0, c1, c2, c3, c4, c5, c6, c7, c8, c9, c10, c11, c12, c13].drop 10).take (Tryz.prog.cellsOf 28)) = xs[10]? from hf 10 _ rfl) (by rw [hlen]; decide)
  rw [cells8_snap] at g10
  simp only [List.drop, List.take] at g10
  obtain ⟨n0, e0, _, f0⟩ := DataW.trod_int Tryz.underlying3 g0
  obtain ⟨n1, e1, _, f1⟩ := DataW.trod_int Tryz.underlying22 g1
  obtain ⟨n2, e2, _, f2⟩ := DataW.trod_int Tryz.underlying22 g2
  obtain ⟨n3, e3, _, f3⟩ := DataW.trod_int Tryz.underlying22 g3
  obtain ⟨n4, e4, _, f4⟩ := DataW.trod_int Tryz.underlying22 g4
  obtain ⟨n5, e5, _, f5⟩ := DataW.trod_int Tryz.underlying22 g5
  obtain ⟨n6, e6, _, f6⟩ := DataW.trod_int Tryz.underlying22 g6
  obtain ⟨n7, e7, _, f7⟩ := DataW.trod_int Tryz.underlying22 g7
  obtain ⟨b8, e8, _⟩ := DataW.trod_bool Tryz.underlying4 g8
  obtain ⟨ea, en, ec, es, e9, hE⟩ := open_ms' g9
  obtain ⟨si, st, ma, mn, mc, mm, sa, sn, sc, sd, e10, e11, e12, e13, hS⟩ := open_snap g10
  simp at e0 e1 e2 e3 e4 e5 e6 e7 e8
  subst e0 e1 e2 e3 e4 e5 e6 e7 e8 e9 e10 e11 e12 e13
  exact ⟨⟨n0, n1, n2, n3, n4, n5, n6, n7, b8, ea, en, ec, es, si, st, ma, mn, mc, mm, sa, sn, sc, sd⟩, rfl, wf_i64n f0, wf_u64n f1, wf_u64n f2, wf_u64n f3, wf_u64n f4, wf_u64n f5, wf_u64n f6, wf_u64n f7, hE, hS⟩

theorem open_inp {H : Type} {enc : TypeId × Value → H} {w : World} {base : Nat} {spare : Nat → Bool} {held : Bool} {fuel : Nat} {c0 c1 c2 c3 c4 c5 c6 c7 c8 c9 c10 c11 c12 c13 c14 c15 c16 c17 c18 : Value} {x : DataW H × List MemPlace}
    (h : DataW.trod enc Tryz.prog w base spare held fuel 51 [c0, c1, c2, c3, c4, c5, c6, c7, c8, c9, c10, c11, c12, c13, c14, c15, c16, c17, c18] = some x) : ∃ p : MInp, [c0, c1, c2, c3, c4, c5, c6, c7, c8, c9, c10, c11, c12, c13, c14, c15, c16, c17, c18] = p.vals ∧ p.ok w := by
  obtain ⟨xs, n, _, rfl, hl, hlen, hf⟩ := DataW.trod_struct Tryz.underlying51 h
  obtain ⟨y0, g0⟩ := fld9 (show DataW.trod enc Tryz.prog w base spare held n 3 (([c0, c1, c2, c3, c4, c5, c6, c7, c8, c9, c10, c11, c12, c13, c14, c15, c16, c17, c18].drop 0).take (Tryz.prog.cellsOf 3)) = xs[0]? from hf 0 _ rfl) (by rw [hlen]; decide)
  rw [cells8_int] at g0
  simp only [List.drop, List.take] at g0
  obtain ⟨y1, g1⟩ := fld9 (show DataW.trod enc Tryz.prog w base spare held n 22 (([c0, c1, c2, c3, c4, c5, c6, c7, c8, c9, c10, c11, c12, c13, c14, c15, c16, c17, c18].drop 1).take (Tryz.prog.cellsOf 22)) = xs[1]? from hf 1 _ rfl) (by rw [hlen]; decide)
  rw [cells8_u64] at g1
  simp only [List.drop, List.take] at g1
  obtain ⟨y2, g2⟩ := fld9 (show DataW.trod enc Tryz.prog w base spare held n 49 (([c0, c1, c2, c3, c4, c5, c6, c7, c8, c9, c10, c11, c12, c13, c14, c15, c16, c17, c18].drop 2).take (Tryz.prog.cellsOf 49)) = xs[2]? from hf 2 _ rfl) (by rw [hlen]; decide)
  rw [cells9_msg] at g2
  simp only [List.drop, List.take] at g2
  obtain ⟨y3, g3⟩ := fld9 (show DataW.trod enc Tryz.prog w base spare held n 26 (([c0, c1, c2, c3, c4, c5, c6, c7, c8, c9, c10, c11, c12, c13, c14, c15, c16, c17, c18].drop 16).take (Tryz.prog.cellsOf 26)) = xs[3]? from hf 3 _ rfl) (by rw [hlen]; decide)
  rw [cells8_bytes] at g3
  simp only [List.drop, List.take] at g3
  obtain ⟨y4, g4⟩ := fld9 (show DataW.trod enc Tryz.prog w base spare held n 25 (([c0, c1, c2, c3, c4, c5, c6, c7, c8, c9, c10, c11, c12, c13, c14, c15, c16, c17, c18].drop 17).take (Tryz.prog.cellsOf 25)) = xs[4]? from hf 4 _ rfl) (by rw [hlen]; decide)
  rw [cells8_nums] at g4
  simp only [List.drop, List.take] at g4
  obtain ⟨y5, g5⟩ := fld9 (show DataW.trod enc Tryz.prog w base spare held n 22 (([c0, c1, c2, c3, c4, c5, c6, c7, c8, c9, c10, c11, c12, c13, c14, c15, c16, c17, c18].drop 18).take (Tryz.prog.cellsOf 22)) = xs[5]? from hf 5 _ rfl) (by rw [hlen]; decide)
  rw [cells8_u64] at g5
  simp only [List.drop, List.take] at g5
  obtain ⟨n0, e0, _, f0⟩ := DataW.trod_int Tryz.underlying3 g0
  obtain ⟨n1, e1, _, f1⟩ := DataW.trod_int Tryz.underlying22 g1
  obtain ⟨m, e2, hM⟩ := open_msg g2
  obtain ⟨da, dn, dc, d, e3, hD⟩ := open_bytes8 g3
  obtain ⟨ba, bn, bc, b, e4, hB⟩ := open_nums' g4
  obtain ⟨n5, e5, _, f5⟩ := DataW.trod_int Tryz.underlying22 g5
  simp at e0 e1 e5
  simp only [MMsg.vals, msgCells, List.cons.injEq, and_true] at e2
  obtain ⟨q0, q1, q2, q3, q4, q5, q6, q7, q8, q9, q10, q11, q12, q13⟩ := e2
  subst e0 e1 e3 e4 e5 q0 q1 q2 q3 q4 q5 q6 q7 q8 q9 q10 q11 q12 q13
  exact ⟨⟨n0, n1, m, da, dn, dc, d, ba, bn, bc, b, n5⟩, rfl, wf_i64n f0, wf_u64n f1, hM, hD, hB, wf_u64n f5⟩

end Go.Proofs.YtodmieehdleohaaGreat

namespace Go.Proofs.YtodmieehdleohaaGreat
open Go.RowKit NumMath Go.ChangeShapes Go.WideShapes Go.Deep
set_option linter.unusedVariables false
set_option maxRecDepth 100000

def CellI (w : World) (g o : Nat) (p : MInp) : Prop := ∀ j, j < 19 → w.cell? ⟨g, o + j, none⟩ = p.vals[j]?

def CellsI (w : World) (g off : Nat) (ps : List MInp) : Prop := ∀ i, i < ps.length → CellI w g (off + i * 19) (ps.getD i inp0)

def IsInps (w : World) (a : Option Addr) (len cap : Nat) (ps : List MInp) : Prop :=
  ps.length = len ∧ len ≤ cap ∧ cap ≤ maxLen ∧ (∀ p ∈ ps, p.ok w) ∧ (len = 0 ∨ ∃ g off, a = some ⟨g, off, none⟩ ∧ g < w.heap.size ∧ CellsI w g off ps)

theorem IsInps.at {w : World} {a : Option Addr} {len cap : Nat} {ps : List MInp} (h : IsInps w a len cap ps) {k : Nat} (hk : k < len) : ∃ g off, a = some ⟨g, off, none⟩ ∧ g < w.heap.size ∧ CellsI w g off ps := by
  obtain ⟨h1, h2, h3, h4, h5⟩ := h
  rcases h5 with h5 | h5
  · omega
  · exact h5

theorem inp_mem (ps : List MInp) (k : Nat) (h : k < ps.length) : ps.getD k inp0 ∈ ps := by
  have : ps.getD k inp0 = ps[k] := by simp [List.getD, List.getElem?_eq_getElem h]
  rw [this]; exact List.getElem_mem h

theorem MMsg.ok.keep {w w' : World} {m : MMsg} (h : m.ok w) (hb : Below w.heap.size w w') : m.ok w' :=
  ⟨h.k, h.fr, h.tt, h.tm, h.ix, h.lt, h.cm, h.hn, h.es.keep hb, h.sn.1, h.sn.2.1, h.sn.2.2.1.keep hb, h.sn.2.2.2.keep hb⟩

theorem MInp.ok.keep {w w' : World} {p : MInp} (h : p.ok w) (hb : Below w.heap.size w w') : p.ok w' :=
  ⟨h.k, h.dr, h.m.keep hb, h.d.keep hb, h.b.keep hb, h.i⟩

theorem CellI.same {w w' : World} {g o : Nat} {p : MInp} (h : CellI w g o p) (e : w'.heap[g]? = w.heap[g]?) : CellI w' g o p :=
  fun j hj => (World.cell?_of_block (a := ⟨g, o + j, none⟩) e).trans (h j hj)

theorem IsInps.keep {w w' : World} {a : Option Addr} {len cap : Nat} {ps : List MInp} (h : IsInps w a len cap ps) (hb : Below w.heap.size w w') : IsInps w' a len cap ps := by
  obtain ⟨h1, h2, h3, h4, h5⟩ := h
  refine ⟨h1, h2, h3, fun p hp => (h4 p hp).keep hb, ?_⟩
  rcases h5 with h5 | ⟨g, off, ha, hg, hc⟩
  · exact .inl h5
  · exact .inr ⟨g, off, ha, Nat.lt_of_lt_of_le hg hb.size, fun i hi => (hc i hi).same (hb.block g hg)⟩

theorem open_inps {H : Type} {enc : TypeId × Value → H} {w : World} {base : Nat} {spare : Nat → Bool} {held : Bool} {fuel : Nat} {a : Option Addr} {len cap : Nat} {x : DataW H × List MemPlace}
    (h : DataW.trod enc Tryz.prog w base spare held fuel 30 [.slice a len cap] = some x) : ∃ xs, IsInps w a len cap xs := by
  rcases open_slice Tryz.underlying30 h with ⟨hcs, _⟩ | ⟨ad, l, c, m, n, D, Pl, hcs, hb, hl, hm, hmm, _, hx⟩
  · simp at hcs
    obtain ⟨rfl, rfl, rfl⟩ := hcs
    exact ⟨[], rfl, Nat.le_refl _, Nat.zero_le _, by simp, .inl rfl⟩
  · simp only [List.cons.injEq, Value.slice.injEq, and_true] at hcs
    obtain ⟨rfl, rfl, rfl⟩ := hcs
    have hlm : len ≤ m := by rw [hmm]; split <;> omega
    rw [cells9_inp] at hx
    have each : ∀ i, i < len → ∃ p : MInp, p.ok w ∧ ∀ j, j < 19 → w.cell? (ad.add (i * 19 + j)) = p.vals[j]? := by
      intro i hi
      obtain ⟨cs', h1, h2⟩ := hx i (by omega)
      obtain ⟨_, hlen, hcell⟩ := World.cells?_some h1
      obtain ⟨c0, c1, c2, c3, c4, c5, c6, c7, c8, c9, c10, c11, c12, c13, c14, c15, c16, c17, c18, rfl⟩ := list19 hlen
      obtain ⟨p, e, hok⟩ := open_inp h2
      refine ⟨p, hok, fun j hj => ?_⟩
      have := hcell j (by omega)
      rw [Go.Deep.add_add] at this
      rw [this, ← e]
    obtain ⟨V, hV⟩ := @choose_lt MInp ⟨inp0⟩ len _ each
    have hg : ∀ i, i < len → ((List.range len).map V).getD i inp0 = V i := by
      intro i hi
      simp [List.getD, hi]
    refine ⟨(List.range len).map V, by simp, hl, hm, ?_, ?_⟩
    · intro v hv
      simp only [List.mem_map, List.mem_range] at hv
      obtain ⟨i, hi, rfl⟩ := hv
      exact (hV i hi).1
    · by_cases h0 : len = 0
      · exact .inl h0
      · right
        obtain ⟨b, off, spot⟩ := ad
        have c00 : w.cell? ((⟨b, off, spot⟩ : Addr).add (0 * 19 + 0)) = some (.int .i64 (V 0).k) := (hV 0 (by omega)).2 0 (by omega)
        have hspot : spot = none := by
          have := World.cell?_spot c00
          simpa [Addr.add] using this
        subst hspot
        refine ⟨b, off, rfl, ?_, ?_⟩
        · have := World.block_lt_of_cell? _ _ c00
          rw [add_plain] at this
          exact this
        · intro i hi
          have hi' : i < len := by simpa using hi
          rw [hg i hi']
          intro j hj
          have := (hV i hi').2 j hj
          rw [add_plain] at this
          rw [← this]
          congr 1
          simp

end Go.Proofs.YtodmieehdleohaaGreat

namespace Go.Proofs.YtodmieehdleohaaGreat
open Go.RowKit NumMath Go.ChangeShapes Go.WideShapes Go.Deep
set_option linter.unusedVariables false
set_option maxRecDepth 100000

theorem open_inp19 {H : Type} {enc : TypeId × Value → H} {w : World} {base : Nat} {spare : Nat → Bool} {held : Bool} {fuel : Nat} {cs : Array Value} {x : DataW H × List MemPlace} (hs : cs.size = 19)
    (h : DataW.trod enc Tryz.prog w base spare held fuel 51 cs.toList = some x) : ∃ p : MInp, cs = p.vals.toArray ∧ p.ok w := by
  obtain ⟨c0, c1, c2, c3, c4, c5, c6, c7, c8, c9, c10, c11, c12, c13, c14, c15, c16, c17, c18, e⟩ := list19 (cs := cs.toList) (by simpa using hs)
  rw [e] at h
  obtain ⟨p, e2, hok⟩ := open_inp h
  exact ⟨p, by rw [← e2, ← e], hok⟩

end Go.Proofs.YtodmieehdleohaaGreat
