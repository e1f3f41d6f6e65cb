/- What the laws of layer 14 are handed besides: the table of modes, laid by the program's own text; deeds and locks. -/
import Derived.Test.YtcgiicmmfleinaaGreatDoorPkN
import Derived.Test.YtcgiicmmfleinaaGreatDoorOpn
import Derived.Test.YtcgiicmmfleinaaGreatDoorRows
import Derived.LaidMore
import Derived.OpenShut
import Derived.MakeChecks
namespace Go.Proofs.YtcgiicmmfleinaaGreatDoor
open Go.RowKit NumMath Go.ChangeShapes Go.WideShapes Go.Deep
set_option linter.unusedVariables false
set_option maxRecDepth 100000

def laidFit : List (String × DataW Unit) := [("plenum/lock.fit", Rows.laid_plenum_lock_fit)]

theorem cellsB1 : Tryz.prog.cellsOf 4 = 1 := by kernel_rfl
theorem cellsB5 : Tryz.prog.cellsOf 246 = 5 := by kernel_rfl
theorem cellsB25 : Tryz.prog.cellsOf 247 = 25 := by kernel_rfl
theorem gFit : Tryz.prog.globalNamed "plenum/lock.fit" = some 0 := by kernel_rfl
theorem tFit : (Tryz.prog.globals[0]?).map (·.type) = some 247 := by kernel_rfl

theorem row5 {H : Type} {enc : TypeId × Value → H} {w : World} {base : Nat} {spare : Nat → Bool} {held : Bool} {fuel : Nat} {l : List Value} {x : DataW H × List MemPlace} {b0 b1 b2 b3 b4 : Bool}
    (h : DataW.trod enc Tryz.prog w base spare held fuel 246 l = some x) (he : x.1 = .agg [.lit (.bool b0), .lit (.bool b1), .lit (.bool b2), .lit (.bool b3), .lit (.bool b4)]) : l = [.bool b0, .bool b1, .bool b2, .bool b3, .bool b4] := by
  obtain ⟨xs, m, rfl, rfl, hl, hn, hel⟩ := DataW.trod_array Tryz.underlying246 h
  rw [cellsB5] at hl
  rw [cellsB1] at hel
  match l, hl, xs, hn with
  | [v0, v1, v2, v3, v4], _, [x0, x1, x2, x3, x4], _ =>
    have h0 := hel 0 (by decide)
    have h1 := hel 1 (by decide)
    have h2 := hel 2 (by decide)
    have h3 := hel 3 (by decide)
    have h4 := hel 4 (by decide)
    simp at h0 h1 h2 h3 h4
    obtain ⟨c0, e0, f0⟩ := DataW.trod_bool Tryz.underlying4 h0
    obtain ⟨c1, e1, f1⟩ := DataW.trod_bool Tryz.underlying4 h1
    obtain ⟨c2, e2, f2⟩ := DataW.trod_bool Tryz.underlying4 h2
    obtain ⟨c3, e3, f3⟩ := DataW.trod_bool Tryz.underlying4 h3
    obtain ⟨c4, e4, f4⟩ := DataW.trod_bool Tryz.underlying4 h4
    rw [f0, f1, f2, f3, f4] at he
    simp at he e0 e1 e2 e3 e4
    obtain ⟨rfl, rfl, rfl, rfl, rfl⟩ := he
    rw [e0, e1, e2, e3, e4]

theorem cut25 {l : List Value} (h : l.length = 25) : l = (l.drop 0).take 5 ++ ((l.drop 5).take 5 ++ ((l.drop 10).take 5 ++ ((l.drop 15).take 5 ++ (l.drop 20).take 5))) := by
  match l, h with
  | [a0, a1, a2, a3, a4, a5, a6, a7, a8, a9, a10, a11, a12, a13, a14, a15, a16, a17, a18, a19, a20, a21, a22, a23, a24], _ => rfl

theorem fit_of_laid {W : World} (h : laidMetH Tryz.prog laidFit W) : FitW W := by
  rw [MakeChecks.laidMetH_plain _ _ _ (by kernel_rfl)] at h
  obtain ⟨ps, ⟨g0, t0, cs0, f0, p0, q0, hg0, ht0, hv0, hd0, _⟩, _, _⟩ := h
  obtain rfl := Option.some.inj (gFit.symm.trans hg0)
  obtain rfl := Option.some.inj (tFit.symm.trans ht0)
  have hc := World.var?_cell hg0 hv0
  obtain ⟨xs, m, rfl, hx, hl, hn, hel⟩ := DataW.trod_array Tryz.underlying247 hd0
  rw [cellsB25] at hl
  rw [cellsB5] at hel
  simp only [Prod.mk.injEq] at hx
  match xs, hn, hx.1, hel with
  | [x0, x1, x2, x3, x4], _, hx, hel =>
    have e := DataW.agg.inj hx
    simp only [List.map_cons, List.map_nil, List.cons.injEq, and_true] at e
    obtain ⟨e0, e1, e2, e3, e4⟩ := e
    have r0 := row5 (show DataW.trod _ Tryz.prog W 0 _ false m 246 ((cs0.toList.drop 0).take 5) = some x0 from hel 0 (by decide)) e0.symm
    have r1 := row5 (show DataW.trod _ Tryz.prog W 0 _ false m 246 ((cs0.toList.drop 5).take 5) = some x1 from hel 1 (by decide)) e1.symm
    have r2 := row5 (show DataW.trod _ Tryz.prog W 0 _ false m 246 ((cs0.toList.drop 10).take 5) = some x2 from hel 2 (by decide)) e2.symm
    have r3 := row5 (show DataW.trod _ Tryz.prog W 0 _ false m 246 ((cs0.toList.drop 15).take 5) = some x3 from hel 3 (by decide)) e3.symm
    have r4 := row5 (show DataW.trod _ Tryz.prog W 0 _ false m 246 ((cs0.toList.drop 20).take 5) = some x4 from hel 4 (by decide)) e4.symm
    have hall : cs0.toList = fitV := by
      rw [cut25 hl, r0, r1, r2, r3, r4]
      rfl
    have hr : W.rangeAt 0 0 fitV := by
      intro j v hj
      rw [← hall, Array.getElem?_toList] at hj
      have := hc j
      rw [Nat.zero_add, this]
      exact hj
    refine ⟨hr, ?_⟩
    have h0 := hr 0 _ rfl
    by_cases hz : 0 < W.heap.size
    · exact hz
    · exfalso
      have : W.heap[0]? = none := Array.getElem?_eq_none (by omega)
      simp [World.cell?, this] at h0

theorem door_met14 (os : Os) (args : Array Value) : laidMetH Tryz.prog laidFit ((World.doorLaid Tryz.prog 400 os).forCall (fun _ _ => 0) ⟨#[], args, []⟩).memory :=
  laidMetH_of_parts3 (fuel := 8) (laidMet_of_run' 8 (by kernel_rfl) (by kernel_rfl)) (by kernel_rfl) (by kernel_rfl)

end Go.Proofs.YtcgiicmmfleinaaGreatDoor
