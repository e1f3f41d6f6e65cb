/- Locks that a law is handed. -/
import Derived.Test.YtcgiicmmfleinaaGreatDoorLkM
import Derived.Test.YtcgiicmmfleinaaGreatDoorOpn
import Derived.Test.YtcgiicmmfleinaaGreatDoorMpV
namespace Go.Proofs.YtcgiicmmfleinaaGreatDoor
open Go.RowKit NumMath Go.ChangeShapes Go.WideShapes Go.Deep
set_option linter.unusedVariables false
set_option maxRecDepth 100000

theorem cellsK_u64 : Tryz.prog.cellsOf 31 = 1 := by kernel_rfl
theorem cellsK_int : Tryz.prog.cellsOf 3 = 1 := by kernel_rfl
theorem cellsK_bytes : Tryz.prog.cellsOf 39 = 1 := by kernel_rfl
theorem cellsK_lock : Tryz.prog.cellsOf 41 = 5 := by kernel_rfl

theorem listK5 {α : Type} {cs : List α} (h : cs.length = 5) : ∃ c0 c1 c2 c3 c4, cs = [c0, c1, c2, c3, c4] := by
  match cs, h with
  | [c0, c1, c2, c3, c4], _ => exact ⟨c0, c1, c2, c3, c4, rfl⟩

theorem open_lockC {H : Type} {enc : TypeId × Value → H} {w : World} {base : Nat} {spare : Nat → Bool} {held : Bool} {fuel : Nat} {c0 c1 c2 c3 c4 : Value} {x : DataW H × List MemPlace}
    (h : DataW.trod enc Tryz.prog w base spare held fuel 41 [c0, c1, c2, c3, c4] = some x) : ∃ m : ML, [c0, c1, c2, c3, c4] = layK.cells m ∧ m.ok w ∧ U64 m.l.tx := by
  obtain ⟨xs, k, _, rfl, hl, hlen, hf⟩ := DataW.trod_struct Tryz.underlying41 h
  obtain ⟨yg0, g0, eg0⟩ := fldO (show DataW.trod enc Tryz.prog w base spare held k 31 (([c0, c1, c2, c3, c4].drop 0).take (Tryz.prog.cellsOf 31)) = xs[0]? from hf 0 _ rfl) (by rw [hlen]; decide)
  obtain ⟨yg1, g1, eg1⟩ := fldO (show DataW.trod enc Tryz.prog w base spare held k 3 (([c0, c1, c2, c3, c4].drop 1).take (Tryz.prog.cellsOf 3)) = xs[1]? from hf 1 _ rfl) (by rw [hlen]; decide)
  obtain ⟨yg2, g2, eg2⟩ := fldO (show DataW.trod enc Tryz.prog w base spare held k 3 (([c0, c1, c2, c3, c4].drop 2).take (Tryz.prog.cellsOf 3)) = xs[2]? from hf 2 _ rfl) (by rw [hlen]; decide)
  obtain ⟨yg3, g3, eg3⟩ := fldO (show DataW.trod enc Tryz.prog w base spare held k 39 (([c0, c1, c2, c3, c4].drop 3).take (Tryz.prog.cellsOf 39)) = xs[3]? from hf 3 _ rfl) (by rw [hlen]; decide)
  obtain ⟨yg4, g4, eg4⟩ := fldO (show DataW.trod enc Tryz.prog w base spare held k 39 (([c0, c1, c2, c3, c4].drop 4).take (Tryz.prog.cellsOf 39)) = xs[4]? from hf 4 _ rfl) (by rw [hlen]; decide)
  rw [cellsK_u64] at g0
  rw [cellsK_int] at g1 g2
  rw [cellsK_bytes] at g3 g4
  simp only [List.drop, List.take] at g0 g1 g2 g3 g4
  obtain ⟨n0, e0, _, f0⟩ := DataW.trod_int Tryz.underlying31 g0
  obtain ⟨n1, e1, _, f1⟩ := DataW.trod_int Tryz.underlying3 g1
  obtain ⟨n2, e2, _, f2⟩ := DataW.trod_int Tryz.underlying3 g2
  obtain ⟨la, ln, lc, rfl⟩ := slice_of Tryz.underlying39 g3
  obtain ⟨ha, hn, hc, rfl⟩ := slice_of Tryz.underlying39 g4
  obtain ⟨lo, hlo⟩ := open_bytes g3
  obtain ⟨hi, hhi⟩ := open_bytes g4
  simp at e0 e1 e2
  subst e0 e1 e2
  exact ⟨⟨⟨n0, n1, n2, lo, hi⟩, la, ln, lc, ha, hn, hc⟩, rfl, ⟨hlo, hhi⟩, u64_wf f0⟩

/-- a lock that a law is handed, in a list -/
def ML.got (m : ML) (w : World) : Prop := m.ok w ∧ U64 m.l.tx

/-- .. by value: its keys are no longer than a call can be handed -/
def ML.handed (m : ML) (w : World) : Prop := m.ok w ∧ U64 m.l.tx ∧ m.ln ≤ 140737488355328 ∧ m.hn ≤ 140737488355328

theorem bytesO_u8K : Tryz.prog.bytesOf 5 = 1 := by kernel_rfl

theorem open_bytesK {H : Type} {enc : TypeId × Value → H} {w : World} {base : Nat} {spare : Nat → Bool} {held : Bool} {fuel : Nat} {a : Option Addr} {len cap : Nat} {x : DataW H × List MemPlace}
    (h : DataW.trod enc Tryz.prog w base spare held fuel 39 [.slice a len cap] = some x) (hw : Wt 39 x.1) : ∃ t, IsBytes w a len cap t ∧ len ≤ 140737488355328 := by
  obtain ⟨t, ht⟩ := open_bytes h
  have h1 := (wt_slice Tryz.underlying39 h hw).1
  rw [bytesO_u8K] at h1
  have hr : reachBytes ≤ 140737488355328 := by decide
  exact ⟨t, ht, by omega⟩

theorem open_lockW {H : Type} {enc : TypeId × Value → H} {w : World} {base : Nat} {spare : Nat → Bool} {held : Bool} {fuel : Nat} {c0 c1 c2 c3 c4 : Value} {x : DataW H × List MemPlace}
    (h : DataW.trod enc Tryz.prog w base spare held fuel 41 [c0, c1, c2, c3, c4] = some x) (hw : Wt 41 x.1) : ∃ m : ML, [c0, c1, c2, c3, c4] = layK.cells m ∧ m.handed w := by
  obtain ⟨xs, k, _, rfl, hl, hlen, hf⟩ := DataW.trod_struct Tryz.underlying41 h
  obtain ⟨yg0, g0, eg0⟩ := fldO (show DataW.trod enc Tryz.prog w base spare held k 31 (([c0, c1, c2, c3, c4].drop 0).take (Tryz.prog.cellsOf 31)) = xs[0]? from hf 0 _ rfl) (by rw [hlen]; decide)
  obtain ⟨yg1, g1, eg1⟩ := fldO (show DataW.trod enc Tryz.prog w base spare held k 3 (([c0, c1, c2, c3, c4].drop 1).take (Tryz.prog.cellsOf 3)) = xs[1]? from hf 1 _ rfl) (by rw [hlen]; decide)
  obtain ⟨yg2, g2, eg2⟩ := fldO (show DataW.trod enc Tryz.prog w base spare held k 3 (([c0, c1, c2, c3, c4].drop 2).take (Tryz.prog.cellsOf 3)) = xs[2]? from hf 2 _ rfl) (by rw [hlen]; decide)
  obtain ⟨yg3, g3, eg3⟩ := fldO (show DataW.trod enc Tryz.prog w base spare held k 39 (([c0, c1, c2, c3, c4].drop 3).take (Tryz.prog.cellsOf 39)) = xs[3]? from hf 3 _ rfl) (by rw [hlen]; decide)
  obtain ⟨yg4, g4, eg4⟩ := fldO (show DataW.trod enc Tryz.prog w base spare held k 39 (([c0, c1, c2, c3, c4].drop 4).take (Tryz.prog.cellsOf 39)) = xs[4]? from hf 4 _ rfl) (by rw [hlen]; decide)
  rw [cellsK_u64] at g0
  rw [cellsK_int] at g1 g2
  rw [cellsK_bytes] at g3 g4
  simp only [List.drop, List.take] at g0 g1 g2 g3 g4
  obtain ⟨n0, e0, _, f0⟩ := DataW.trod_int Tryz.underlying31 g0
  obtain ⟨n1, e1, _, f1⟩ := DataW.trod_int Tryz.underlying3 g1
  obtain ⟨n2, e2, _, f2⟩ := DataW.trod_int Tryz.underlying3 g2
  obtain ⟨la, ln, lc, rfl⟩ := slice_of Tryz.underlying39 g3
  obtain ⟨ha, hn, hc, rfl⟩ := slice_of Tryz.underlying39 g4
  obtain ⟨lo, hlo, hl3⟩ := open_bytesK g3 (wt_field Tryz.underlying41 hw (i := 3) rfl eg3)
  obtain ⟨hi, hhi, hl4⟩ := open_bytesK g4 (wt_field Tryz.underlying41 hw (i := 4) rfl eg4)
  simp at e0 e1 e2
  subst e0 e1 e2
  exact ⟨⟨⟨n0, n1, n2, lo, hi⟩, la, ln, lc, ha, hn, hc⟩, rfl, ⟨hlo, hhi⟩, u64_wf f0, hl3, hl4⟩

theorem open_lock14 {H : Type} {enc : TypeId × Value → H} {w : World} {base : Nat} {spare : Nat → Bool} {held : Bool} {fuel : Nat} {cs : Array Value} (hz : cs.size = 5) {x : DataW H × List MemPlace}
    (h : DataW.trod enc Tryz.prog w base spare held fuel 41 cs.toList = some x) (hw : Wt 41 x.1) : ∃ m : ML, cs = #[.int .u64 m.l.tx, .int .i64 m.l.lv, .int .i64 m.l.md, .slice m.la m.ln m.lc, .slice m.ha m.hn m.hc] ∧ m.handed w := by
  obtain ⟨c0, c1, c2, c3, c4, e⟩ := listK5 (cs := cs.toList) (by simpa using hz)
  rw [e] at h
  obtain ⟨m, em, hm⟩ := open_lockW h hw
  exact ⟨m, by rw [← Array.toArray_toList (xs := cs), e, em]; rfl, hm⟩

end Go.Proofs.YtcgiicmmfleinaaGreatDoor
