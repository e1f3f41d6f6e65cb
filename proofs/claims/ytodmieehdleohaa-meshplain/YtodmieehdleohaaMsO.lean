/- What a law of layer 10 is handed: messages by value, lists of messages, fates, deeds. -/
import Derived.Test.YtodmieehdleohaaMs8
namespace Go.Proofs.Ytodmieehdleohaa
open Go.RowKit NumMath Go.ChangeShapes Go.WideShapes Go.Deep
set_option linter.unusedVariables false
set_option maxRecDepth 100000

theorem open_msA {H : Type} {enc : TypeId × Value → H} {w : World} {base : Nat} {spare : Nat → Bool} {held : Bool} {fuel : Nat} {v : Value} {x : DataW H × List MemPlace}
    (h : DataW.trod enc Try.prog w base spare held fuel 33 [v] = some x) : ∃ a len cap ms, v = .slice a len cap ∧ IsMs (fun _ => False) w a len cap ms := by
  have hv : ∃ a len cap, v = .slice a len cap := by
    rcases open_slice Try.underlying33 h with ⟨hcs, _⟩ | ⟨ad, l, c, m, n, D, Pl, hcs, _⟩
    · simp at hcs; exact ⟨_, _, _, hcs⟩
    · simp at hcs; exact ⟨_, _, _, hcs⟩
  obtain ⟨a, len, cap, rfl⟩ := hv
  obtain ⟨ms, hx⟩ := open_ms h
  exact ⟨a, len, cap, ms, rfl, hx⟩

theorem cells9_msg : Try.prog.cellsOf 39 = 14 := by kernel_rfl
theorem cells9_bool : Try.prog.cellsOf 4 = 1 := by kernel_rfl

theorem list14 {α : Type} {cs : List α} (h : cs.length = 14) : ∃ c0 c1 c2 c3 c4 c5 c6 c7 c8 c9 c10 c11 c12 c13, cs = [c0, c1, c2, c3, c4, c5, c6, c7, c8, c9, c10, c11, c12, c13] := by
  match cs, h with
  | [c0, c1, c2, c3, c4, c5, c6, c7, c8, c9, c10, c11, c12, c13], _ => exact ⟨c0, c1, c2, c3, c4, c5, c6, c7, c8, c9, c10, c11, c12, c13, rfl⟩

theorem fld9 {α : Type} {xs : List α} {i : Nat} {o : Option α} (h : o = xs[i]?) (hi : i < xs.length) : ∃ y, o = some y := ⟨xs[i], h.trans (List.getElem?_eq_getElem hi)⟩

theorem open_msg {H : Type} {enc : TypeId × Value → H} {w : World} {base : Nat} {spare : Nat → Bool} {held : Bool} {fuel : Nat} {c0 c1 c2 c3 c4 c5 c6 c7 c8 c9 c10 c11 c12 c13 : Value} {x : DataW H × List MemPlace}
    (h : DataW.trod enc Try.prog w base spare held fuel 39 [c0, c1, c2, c3, c4, c5, c6, c7, c8, c9, c10, c11, c12, c13] = some x) : ∃ m : MMsg, [c0, c1, c2, c3, c4, c5, c6, c7, c8, c9, c10, c11, c12, c13] = m.vals ∧ m.okX (fun _ => False) w := by
  obtain ⟨xs, n, _, rfl, hl, hlen, hf⟩ := DataW.trod_struct Try.underlying39 h
  obtain ⟨y0, g0⟩ := fld9 (show DataW.trod enc Try.prog w base spare held n 3 (([c0, c1, c2, c3, c4, c5, c6, c7, c8, c9, c10, c11, c12, c13].drop 0).take (Try.prog.cellsOf 3)) = xs[0]? from hf 0 _ rfl) (by rw [hlen]; decide)
  rw [cells8_int] at g0
  simp only [List.drop, List.take] at g0
  obtain ⟨y1, g1⟩ := fld9 (show DataW.trod enc Try.prog w base spare held n 32 (([c0, c1, c2, c3, c4, c5, c6, c7, c8, c9, c10, c11, c12, c13].drop 1).take (Try.prog.cellsOf 32)) = xs[1]? from hf 1 _ rfl) (by rw [hlen]; decide)
  rw [cells8_u64] at g1
  simp only [List.drop, List.take] at g1
  obtain ⟨y2, g2⟩ := fld9 (show DataW.trod enc Try.prog w base spare held n 32 (([c0, c1, c2, c3, c4, c5, c6, c7, c8, c9, c10, c11, c12, c13].drop 2).take (Try.prog.cellsOf 32)) = xs[2]? from hf 2 _ rfl) (by rw [hlen]; decide)
  rw [cells8_u64] at g2
  simp only [List.drop, List.take] at g2
  obtain ⟨y3, g3⟩ := fld9 (show DataW.trod enc Try.prog w base spare held n 32 (([c0, c1, c2, c3, c4, c5, c6, c7, c8, c9, c10, c11, c12, c13].drop 3).take (Try.prog.cellsOf 32)) = xs[3]? from hf 3 _ rfl) (by rw [hlen]; decide)
  rw [cells8_u64] at g3
  simp only [List.drop, List.take] at g3
  obtain ⟨y4, g4⟩ := fld9 (show DataW.trod enc Try.prog w base spare held n 32 (([c0, c1, c2, c3, c4, c5, c6, c7, c8, c9, c10, c11, c12, c13].drop 4).take (Try.prog.cellsOf 32)) = xs[4]? from hf 4 _ rfl) (by rw [hlen]; decide)
  rw [cells8_u64] at g4
  simp only [List.drop, List.take] at g4
  obtain ⟨y5, g5⟩ := fld9 (show DataW.trod enc Try.prog w base spare held n 32 (([c0, c1, c2, c3, c4, c5, c6, c7, c8, c9, c10, c11, c12, c13].drop 5).take (Try.prog.cellsOf 32)) = xs[5]? from hf 5 _ rfl) (by rw [hlen]; decide)
  rw [cells8_u64] at g5
  simp only [List.drop, List.take] at g5
  obtain ⟨y6, g6⟩ := fld9 (show DataW.trod enc Try.prog w base spare held n 32 (([c0, c1, c2, c3, c4, c5, c6, c7, c8, c9, c10, c11, c12, c13].drop 6).take (Try.prog.cellsOf 32)) = xs[6]? from hf 6 _ rfl) (by rw [hlen]; decide)
  rw [cells8_u64] at g6
  simp only [List.drop, List.take] at g6
  obtain ⟨y7, g7⟩ := fld9 (show DataW.trod enc Try.prog w base spare held n 32 (([c0, c1, c2, c3, c4, c5, c6, c7, c8, c9, c10, c11, c12, c13].drop 7).take (Try.prog.cellsOf 32)) = xs[7]? from hf 7 _ rfl) (by rw [hlen]; decide)
  rw [cells8_u64] at g7
  simp only [List.drop, List.take] at g7
  obtain ⟨y8, g8⟩ := fld9 (show DataW.trod enc Try.prog w base spare held n 4 (([c0, c1, c2, c3, c4, c5, c6, c7, c8, c9, c10, c11, c12, c13].drop 8).take (Try.prog.cellsOf 4)) = xs[8]? from hf 8 _ rfl) (by rw [hlen]; decide)
  rw [cells9_bool] at g8
  simp only [List.drop, List.take] at g8
  obtain ⟨y9, g9⟩ := fld9 (show DataW.trod enc Try.prog w base spare held n 33 (([c0, c1, c2, c3, c4, c5, c6, c7, c8, c9, c10, c11, c12, c13].drop 9).take (Try.prog.cellsOf 33)) = xs[9]? from hf 9 _ rfl) (by rw [hlen]; decide)
  rw [cells8_ents] at g9
  simp only [List.drop, List.take] at g9
  obtain ⟨y10, g10⟩ := fld9 (show DataW.trod enc Try.prog w base spare held n 37 (([c0, c1, c2, c3, c4, c5, c6, c7, c8, c9, c10, c11, c12, c13].drop 10).take (Try.prog.cellsOf 37)) = xs[10]? from hf 10 _ rfl) (by rw [hlen]; decide)
  rw [cells8_snap] at g10
  simp only [List.drop, List.take] at g10
  obtain ⟨n0, e0, _, f0⟩ := DataW.trod_int Try.underlying3 g0
  obtain ⟨n1, e1, _, f1⟩ := DataW.trod_int Try.underlying32 g1
  obtain ⟨n2, e2, _, f2⟩ := DataW.trod_int Try.underlying32 g2
  obtain ⟨n3, e3, _, f3⟩ := DataW.trod_int Try.underlying32 g3
  obtain ⟨n4, e4, _, f4⟩ := DataW.trod_int Try.underlying32 g4
  obtain ⟨n5, e5, _, f5⟩ := DataW.trod_int Try.underlying32 g5
  obtain ⟨n6, e6, _, f6⟩ := DataW.trod_int Try.underlying32 g6
  obtain ⟨n7, e7, _, f7⟩ := DataW.trod_int Try.underlying32 g7
  obtain ⟨b8, e8, _⟩ := DataW.trod_bool Try.underlying4 g8
  obtain ⟨ea, en, ec, es, e9, hE⟩ := open_msA g9
  obtain ⟨si, st, ma, mn, mc, mm, sa, sn, sc, sd, e10, e11, e12, e13, hS⟩ := open_snap g10
  simp at e0 e1 e2 e3 e4 e5 e6 e7 e8
  subst e0 e1 e2 e3 e4 e5 e6 e7 e8 e9 e10 e11 e12 e13
  exact ⟨⟨n0, n1, n2, n3, n4, n5, n6, n7, b8, ea, en, ec, es, si, st, ma, mn, mc, mm, sa, sn, sc, sd⟩, rfl, wf_i64n f0, wf_u64n f1, wf_u64n f2, wf_u64n f3, wf_u64n f4, wf_u64n f5, wf_u64n f6, wf_u64n f7, hS.1, hS.2.1, hE, offA_none _ _, hS.2.2.1, offA_none _ _, hS.2.2.2, offA_none _ _⟩

theorem open_msg14 {H : Type} {enc : TypeId × Value → H} {w : World} {base : Nat} {spare : Nat → Bool} {held : Bool} {fuel : Nat} {cs : Array Value} {x : DataW H × List MemPlace} (hs : cs.size = 14)
    (h : DataW.trod enc Try.prog w base spare held fuel 39 cs.toList = some x) : ∃ m : MMsg, cs = m.vals.toArray ∧ m.okX (fun _ => False) w := by
  obtain ⟨c0, c1, c2, c3, c4, c5, c6, c7, c8, c9, c10, c11, c12, c13, e⟩ := list14 (cs := cs.toList) (by simpa using hs)
  rw [e] at h
  obtain ⟨p, e2, hok⟩ := open_msg h
  exact ⟨p, by rw [← e2, ← e], hok⟩

end Go.Proofs.Ytodmieehdleohaa
