/- What the laws of layer 14 are handed: locks, deeds; awake, few; the law LockModes. -/
import Derived.Test.YtbnojmaknlfphaaDoorDrA
import Derived.Test.YtbnojmaknlfphaaDoorLk5
namespace Go.Proofs.YtbnojmaknlfphaaDoor
open Go.RowKit NumMath Go.ChangeShapes Go.WideShapes Go.Deep
set_option linter.unusedVariables false
set_option maxRecDepth 100000

theorem cellsK_u64 : Tryd.prog.cellsOf 22 = 1 := by kernel_rfl
theorem cellsK_int : Tryd.prog.cellsOf 3 = 1 := by kernel_rfl
theorem cellsK_bytes : Tryd.prog.cellsOf 23 = 1 := by kernel_rfl
theorem cellsK_lock : Tryd.prog.cellsOf 25 = 5 := by kernel_rfl
theorem cellsK_deed : Tryd.prog.cellsOf 39 = 6 := by kernel_rfl

theorem listK5 {α : Type} {cs : List α} (h : cs.length = 5) : ∃ c0 c1 c2 c3 c4, cs = [c0, c1, c2, c3, c4] := by
  match cs, h with
  | [c0, c1, c2, c3, c4], _ => exact ⟨c0, c1, c2, c3, c4, rfl⟩

theorem listK6 {α : Type} {cs : List α} (h : cs.length = 6) : ∃ c0 c1 c2 c3 c4 c5, cs = [c0, c1, c2, c3, c4, c5] := by
  match cs, h with
  | [c0, c1, c2, c3, c4, c5], _ => exact ⟨c0, c1, c2, c3, c4, c5, rfl⟩

theorem open_lockC {H : Type} {enc : TypeId × Value → H} {w : World} {base : Nat} {spare : Nat → Bool} {held : Bool} {fuel : Nat} {c0 c1 c2 c3 c4 : Value} {x : DataW H × List MemPlace}
    (h : DataW.trod enc Tryd.prog w base spare held fuel 25 [c0, c1, c2, c3, c4] = some x) : ∃ m : ML, [c0, c1, c2, c3, c4] = layK.cells m ∧ m.ok w ∧ U64 m.l.tx := by
  obtain ⟨xs, k, _, rfl, hl, hlen, hf⟩ := DataW.trod_struct Tryd.underlying25 h
  obtain ⟨yg0, g0, eg0⟩ := fldO (show DataW.trod enc Tryd.prog w base spare held k 22 (([c0, c1, c2, c3, c4].drop 0).take (Tryd.prog.cellsOf 22)) = xs[0]? from hf 0 _ rfl) (by rw [hlen]; decide)
  obtain ⟨yg1, g1, eg1⟩ := fldO (show DataW.trod enc Tryd.prog w base spare held k 3 (([c0, c1, c2, c3, c4].drop 1).take (Tryd.prog.cellsOf 3)) = xs[1]? from hf 1 _ rfl) (by rw [hlen]; decide)
  obtain ⟨yg2, g2, eg2⟩ := fldO (show DataW.trod enc Tryd.prog w base spare held k 3 (([c0, c1, c2, c3, c4].drop 2).take (Tryd.prog.cellsOf 3)) = xs[2]? from hf 2 _ rfl) (by rw [hlen]; decide)
  obtain ⟨yg3, g3, eg3⟩ := fldO (show DataW.trod enc Tryd.prog w base spare held k 23 (([c0, c1, c2, c3, c4].drop 3).take (Tryd.prog.cellsOf 23)) = xs[3]? from hf 3 _ rfl) (by rw [hlen]; decide)
  obtain ⟨yg4, g4, eg4⟩ := fldO (show DataW.trod enc Tryd.prog w base spare held k 23 (([c0, c1, c2, c3, c4].drop 4).take (Tryd.prog.cellsOf 23)) = xs[4]? from hf 4 _ rfl) (by rw [hlen]; decide)
  rw [cellsK_u64] at g0
  rw [cellsK_int] at g1 g2
  rw [cellsK_bytes] at g3 g4
  simp only [List.drop, List.take] at g0 g1 g2 g3 g4
  obtain ⟨n0, e0, _, f0⟩ := DataW.trod_int Tryd.underlying22 g0
  obtain ⟨n1, e1, _, f1⟩ := DataW.trod_int Tryd.underlying3 g1
  obtain ⟨n2, e2, _, f2⟩ := DataW.trod_int Tryd.underlying3 g2
  obtain ⟨la, ln, lc, rfl⟩ := slice_of Tryd.underlying23 g3
  obtain ⟨ha, hn, hc, rfl⟩ := slice_of Tryd.underlying23 g4
  obtain ⟨lo, hlo⟩ := open_bytes g3
  obtain ⟨hi, hhi⟩ := open_bytes g4
  simp at e0 e1 e2
  subst e0 e1 e2
  exact ⟨⟨⟨n0, n1, n2, lo, hi⟩, la, ln, lc, ha, hn, hc⟩, rfl, ⟨hlo, hhi⟩, u64_wf f0⟩

/-- a lock that a law is handed, in a list -/
def ML.got (m : ML) (w : World) : Prop := m.ok w ∧ U64 m.l.tx

/-- .. by value: its keys are no longer than a call can be handed -/
def ML.handed (m : ML) (w : World) : Prop := m.ok w ∧ U64 m.l.tx ∧ m.ln ≤ 140737488355328 ∧ m.hn ≤ 140737488355328

theorem bytesO_u8K : Tryd.prog.bytesOf 5 = 1 := by kernel_rfl

theorem open_bytesK {H : Type} {enc : TypeId × Value → H} {w : World} {base : Nat} {spare : Nat → Bool} {held : Bool} {fuel : Nat} {a : Option Addr} {len cap : Nat} {x : DataW H × List MemPlace}
    (h : DataW.trod enc Tryd.prog w base spare held fuel 23 [.slice a len cap] = some x) (hw : Wt 23 x.1) : ∃ t, IsBytes w a len cap t ∧ len ≤ 140737488355328 := by
  obtain ⟨t, ht⟩ := open_bytes h
  have h1 := (wt_slice Tryd.underlying23 h hw).1
  rw [bytesO_u8K] at h1
  have hr : reachBytes ≤ 140737488355328 := by decide
  exact ⟨t, ht, by omega⟩

theorem open_lockW {H : Type} {enc : TypeId × Value → H} {w : World} {base : Nat} {spare : Nat → Bool} {held : Bool} {fuel : Nat} {c0 c1 c2 c3 c4 : Value} {x : DataW H × List MemPlace}
    (h : DataW.trod enc Tryd.prog w base spare held fuel 25 [c0, c1, c2, c3, c4] = some x) (hw : Wt 25 x.1) : ∃ m : ML, [c0, c1, c2, c3, c4] = layK.cells m ∧ m.handed w := by
  obtain ⟨xs, k, _, rfl, hl, hlen, hf⟩ := DataW.trod_struct Tryd.underlying25 h
  obtain ⟨yg0, g0, eg0⟩ := fldO (show DataW.trod enc Tryd.prog w base spare held k 22 (([c0, c1, c2, c3, c4].drop 0).take (Tryd.prog.cellsOf 22)) = xs[0]? from hf 0 _ rfl) (by rw [hlen]; decide)
  obtain ⟨yg1, g1, eg1⟩ := fldO (show DataW.trod enc Tryd.prog w base spare held k 3 (([c0, c1, c2, c3, c4].drop 1).take (Tryd.prog.cellsOf 3)) = xs[1]? from hf 1 _ rfl) (by rw [hlen]; decide)
  obtain ⟨yg2, g2, eg2⟩ := fldO (show DataW.trod enc Tryd.prog w base spare held k 3 (([c0, c1, c2, c3, c4].drop 2).take (Tryd.prog.cellsOf 3)) = xs[2]? from hf 2 _ rfl) (by rw [hlen]; decide)
  obtain ⟨yg3, g3, eg3⟩ := fldO (show DataW.trod enc Tryd.prog w base spare held k 23 (([c0, c1, c2, c3, c4].drop 3).take (Tryd.prog.cellsOf 23)) = xs[3]? from hf 3 _ rfl) (by rw [hlen]; decide)
  obtain ⟨yg4, g4, eg4⟩ := fldO (show DataW.trod enc Tryd.prog w base spare held k 23 (([c0, c1, c2, c3, c4].drop 4).take (Tryd.prog.cellsOf 23)) = xs[4]? from hf 4 _ rfl) (by rw [hlen]; decide)
  rw [cellsK_u64] at g0
  rw [cellsK_int] at g1 g2
  rw [cellsK_bytes] at g3 g4
  simp only [List.drop, List.take] at g0 g1 g2 g3 g4
  obtain ⟨n0, e0, _, f0⟩ := DataW.trod_int Tryd.underlying22 g0
  obtain ⟨n1, e1, _, f1⟩ := DataW.trod_int Tryd.underlying3 g1
  obtain ⟨n2, e2, _, f2⟩ := DataW.trod_int Tryd.underlying3 g2
  obtain ⟨la, ln, lc, rfl⟩ := slice_of Tryd.underlying23 g3
  obtain ⟨ha, hn, hc, rfl⟩ := slice_of Tryd.underlying23 g4
  obtain ⟨lo, hlo, hl3⟩ := open_bytesK g3 (wt_field Tryd.underlying25 hw (i := 3) rfl eg3)
  obtain ⟨hi, hhi, hl4⟩ := open_bytesK g4 (wt_field Tryd.underlying25 hw (i := 4) rfl eg4)
  simp at e0 e1 e2
  subst e0 e1 e2
  exact ⟨⟨⟨n0, n1, n2, lo, hi⟩, la, ln, lc, ha, hn, hc⟩, rfl, ⟨hlo, hhi⟩, u64_wf f0, hl3, hl4⟩

theorem open_lock14 {H : Type} {enc : TypeId × Value → H} {w : World} {base : Nat} {spare : Nat → Bool} {held : Bool} {fuel : Nat} {cs : Array Value} (hz : cs.size = 5) {x : DataW H × List MemPlace}
    (h : DataW.trod enc Tryd.prog w base spare held fuel 25 cs.toList = some x) (hw : Wt 25 x.1) : ∃ m : ML, cs = #[.int .u64 m.l.tx, .int .i64 m.l.lv, .int .i64 m.l.md, .slice m.la m.ln m.lc, .slice m.ha m.hn m.hc] ∧ m.handed w := by
  obtain ⟨c0, c1, c2, c3, c4, e⟩ := listK5 (cs := cs.toList) (by simpa using hz)
  rw [e] at h
  obtain ⟨m, em, hm⟩ := open_lockW h hw
  exact ⟨m, by rw [← Array.toArray_toList (xs := cs), e, em]; rfl, hm⟩

/-- a deed, and where its keys lie -/
structure MQ where
  fr : Bool
  m : ML

def layQ : Lay MQ where
  e := 39
  t := 30
  k := 6
  bys := 80
  z := .agg #[.bool false, .int .u64 0, .int .i64 0, .int .i64 0, .slice none 0 0, .slice none 0 0]
  cells := fun d => [.bool d.fr, .int .u64 d.m.l.tx, .int .i64 d.m.l.lv, .int .i64 d.m.l.md, .slice d.m.la d.m.ln d.m.lc, .slice d.m.ha d.m.hn d.m.hc]
  len := fun _ => rfl
  one := by intro x u hu; simp at hu; rcases hu with rfl | rfl | rfl | rfl | rfl | rfl <;> rfl
  pos := by decide
  few := by decide
  und := Tryd.underlying30
  info := by kernel_rfl
  zs := rfl

theorem open_deedC14 {H : Type} {enc : TypeId × Value → H} {w : World} {base : Nat} {spare : Nat → Bool} {held : Bool} {fuel : Nat} {c0 c1 c2 c3 c4 c5 : Value} {x : DataW H × List MemPlace}
    (h : DataW.trod enc Tryd.prog w base spare held fuel 39 [c0, c1, c2, c3, c4, c5] = some x) : ∃ d : MQ, [c0, c1, c2, c3, c4, c5] = layQ.cells d ∧ d.m.got w := by
  obtain ⟨xs, k, _, rfl, hl, hlen, hf⟩ := DataW.trod_struct Tryd.underlying39 h
  obtain ⟨yg0, g0, eg0⟩ := fldO (show DataW.trod enc Tryd.prog w base spare held k 4 (([c0, c1, c2, c3, c4, c5].drop 0).take (Tryd.prog.cellsOf 4)) = xs[0]? from hf 0 _ rfl) (by rw [hlen]; decide)
  obtain ⟨yg1, g1, eg1⟩ := fldO (show DataW.trod enc Tryd.prog w base spare held k 25 (([c0, c1, c2, c3, c4, c5].drop 1).take (Tryd.prog.cellsOf 25)) = xs[1]? from hf 1 _ rfl) (by rw [hlen]; decide)
  rw [cellsB1] at g0
  rw [cellsK_lock] at g1
  simp only [List.drop, List.take] at g0 g1
  obtain ⟨b, e0, _⟩ := DataW.trod_bool Tryd.underlying4 g0
  obtain ⟨m, em, hm⟩ := open_lockC g1
  simp [layK] at e0 em
  obtain ⟨rfl, rfl, rfl, rfl, rfl⟩ := em
  subst e0
  exact ⟨⟨b, m⟩, rfl, hm⟩

/-- deeds that a law is handed -/
def IsDeeds14 (w : World) (a : Option Addr) (len cap : Nat) (ds : List MQ) : Prop := IsY layQ w a len cap ds ∧ ∀ d ∈ ds, d.m.got w

theorem open_deeds14 {H : Type} {enc : TypeId × Value → H} {w : World} {base : Nat} {spare : Nat → Bool} {held : Bool} {fuel : Nat} {a : Option Addr} {len cap : Nat} {x : DataW H × List MemPlace}
    (h : DataW.trod enc Tryd.prog w base spare held fuel 30 [.slice a len cap] = some x) : ∃ ds, IsDeeds14 w a len cap ds := by
  obtain ⟨hlc, he⟩ := slice_lens Tryd.underlying30 h
  obtain ⟨xs, h1, h2⟩ := openY layQ ⟨false, ⟨lck0, none, 0, 0, none, 0, 0⟩⟩ (w := w) (base := base) (a := a) cellsK_deed hlc (fun d => d.m.got w) (fun i hi => by
    obtain ⟨ad, cs', n, y, rfl, h1, h2⟩ := he i hi
    have hl := (World.cells?_some h1).2.1
    rw [cellsK_deed] at hl
    obtain ⟨c0, c1, c2, c3, c4, c5, rfl⟩ := listK6 hl
    obtain ⟨d, ed, hd⟩ := open_deedC14 h2
    exact ⟨ad, _, d, rfl, h1, hd, ed⟩)
  exact ⟨xs, h1, h2⟩

theorem tpost_kp {G : Nat → Prop} {base : Nat} {w w' : World} {p : Nat} {hv wv : Value} {hs ws hs' ws' : List ML} (h : IsT G base w p hv wv hs ws) (k : TPost G base w p hv wv hs' ws' w') : Keeps (fun k => base ≤ k) w w' := by
  obtain ⟨_, _, _, k2, _, _⟩ := k
  exact Keeps.wider k2 (fun j hj => (h.xl j hj).1)

theorem foot_ok14 {X : Nat → Prop} {w : World} {m : ML} (h : m.ok w) (hl : Out X m.la m.ln) (hh : Out X m.ha m.hn) : Foot X w (fun V => m.ok V) :=
  ((foot_bytes h.lo hl).and (foot_bytes h.hi hh)).imp (fun V hV => ⟨hV.1, hV.2⟩)

theorem marked_below (w : World) (cs : Array Value) (t : TypeId) (fr : Nat × Nat) : Below w.heap.size w (w.alloc (.cells cs t fr)) := new_below _ _

theorem ask_one : askL ⟨[], []⟩ ⟨1, 1, 3, [97], []⟩ = (⟨[⟨1, 1, 3, [97], []⟩], []⟩, true, 0) := by kernel_rfl

theorem ask_two : askL ⟨[⟨1, 1, 3, [97], []⟩], []⟩ ⟨2, 1, 4, [98], [99]⟩ = (⟨[⟨1, 1, 3, [97], []⟩], [⟨2, 1, 4, [98], [99]⟩]⟩, false, 0) := by kernel_rfl

end Go.Proofs.YtbnojmaknlfphaaDoor
