/- The laws' deeds, as they lie. What layer 12's laws are handed: deeds, versions. Program and reference beside each other, deed by deed. Program and reference beside each other: each deed's two calls. Stores to which the same was done. The program's store alone, behind what was done to it. -/
import Derived.Test.YtfldiapdfpkdaaaQsH
import Derived.Test.YtfldiapdfpkdaaaOpn
import Derived.Test.YtfldiapdfpkdaaaQsG
import Derived.Test.YtfldiapdfpkdaaaMv4
import Derived.Test.YtfldiapdfpkdaaaMv6
import Derived.Test.YtfldiapdfpkdaaaMw1
import Derived.Test.YtfldiapdfpkdaaaMw2
import Derived.Test.YtfldiapdfpkdaaaMvE
import Derived.Deep.RegionHeld3
namespace Go.Proofs.Ytfldiapdfpkdaaa
open Go.RowKit NumMath Go.ChangeShapes Go.WideShapes Go.Deep
set_option linter.unusedVariables false
set_option maxRecDepth 100000

/-- a deed, and where its lists lie -/
structure MD where
  kd : Int
  key : List Int
  ka : Option Addr
  kn : Nat
  kc : Nat
  m : MV
  ts : Int

def layD : Lay MD where
  e := 61
  t := 22
  k := 8
  bys := 112
  z := .agg #[.int .i64 0, .slice none 0 0, .int .u64 0, .int .u64 0, .bool false, .slice none 0 0, .slice none 0 0, .int .u64 0]
  cells := fun d => [.int .i64 d.kd, .slice d.ka d.kn d.kc, .int .u64 d.m.v.ts, .int .u64 d.m.v.tx, .bool d.m.v.dd, .slice d.m.va d.m.vn d.m.vc, .slice d.m.ka d.m.kn d.m.kc, .int .u64 d.ts]
  len := fun _ => rfl
  one := by intro x u hu; simp at hu; rcases hu with rfl | rfl | rfl | rfl | rfl | rfl | rfl | rfl <;> rfl
  pos := by decide
  few := by decide
  und := Try.underlying22
  info := by kernel_rfl
  zs := rfl

/-- .. its lists lie in the world at the start; its version is no longer than memory bears -/
structure MD.ok (w0 : World) (d : MD) : Prop where
  key : IsBytes w0 d.ka d.kn d.kc d.key
  m : d.m.ok w0
  fit : ∀ k ∈ d.m.v.ks, k.length ≤ 140737488355328
  ts : 0 ≤ d.ts ∧ d.ts < 18446744073709551616

theorem MD.ok.fitV {w0 : World} {d : MD} (h : d.ok w0) (h1 : d.m.vn ≤ 100) (h2 : d.m.kn ≤ 10) (e1 : d.m.v.val.length = d.m.vn) (e2 : d.m.v.ks.length = d.m.kn) : FitV d.m.v :=
  ⟨by omega, by omega, h.fit⟩

end Go.Proofs.Ytfldiapdfpkdaaa

namespace Go.Proofs.Ytfldiapdfpkdaaa
open Go.RowKit NumMath Go.ChangeShapes Go.WideShapes Go.Deep
set_option linter.unusedVariables false
set_option maxRecDepth 100000

theorem cellsO_u64 : Try.prog.cellsOf 24 = 1 := by kernel_rfl
theorem cellsO_int : Try.prog.cellsOf 3 = 1 := by kernel_rfl
theorem cellsO_bool : Try.prog.cellsOf 4 = 1 := by kernel_rfl
theorem cellsO_bytes : Try.prog.cellsOf 23 = 1 := by kernel_rfl
theorem cellsO_texts : Try.prog.cellsOf 34 = 1 := by kernel_rfl
theorem cellsO_ver : Try.prog.cellsOf 36 = 5 := by kernel_rfl
theorem cellsO_deed : Try.prog.cellsOf 61 = 8 := by kernel_rfl
theorem bytesO_u8 : Try.prog.bytesOf 5 = 1 := by kernel_rfl

theorem listO5 {α : Type} {cs : List α} (h : cs.length = 5) : ∃ c0 c1 c2 c3 c4, cs = [c0, c1, c2, c3, c4] := by
  match cs, h with
  | [c0, c1, c2, c3, c4], _ => exact ⟨c0, c1, c2, c3, c4, rfl⟩

theorem listO8 {α : Type} {cs : List α} (h : cs.length = 8) : ∃ c0 c1 c2 c3 c4 c5 c6 c7, cs = [c0, c1, c2, c3, c4, c5, c6, c7] := by
  match cs, h with
  | [c0, c1, c2, c3, c4, c5, c6, c7], _ => exact ⟨c0, c1, c2, c3, c4, c5, c6, c7, rfl⟩

theorem listO1 {α : Type} {cs : List α} (h : cs.length = 1) : ∃ c0, cs = [c0] := by
  match cs, h with
  | [c0], _ => exact ⟨c0, rfl⟩

theorem open_bytesW {H : Type} {enc : TypeId × Value → H} {w : World} {base : Nat} {spare : Nat → Bool} {held : Bool} {fuel : Nat} {a : Option Addr} {len cap : Nat} {x : DataW H × List MemPlace}
    (h : DataW.trod enc Try.prog w base spare held fuel 23 [.slice a len cap] = some x) (hw : Wt 23 x.1) : ∃ t, IsBytes w a len cap t ∧ t.length ≤ 140737488355328 := by
  obtain ⟨t, ht⟩ := open_bytes h
  have h1 := (wt_slice Try.underlying23 h hw).1
  rw [bytesO_u8] at h1
  have hr : reachBytes ≤ 140737488355328 := by decide
  exact ⟨t, ht, by rw [ht.1]; omega⟩

theorem open_textsW {H : Type} {enc : TypeId × Value → H} {w : World} {base : Nat} {spare : Nat → Bool} {held : Bool} {fuel : Nat} {a : Option Addr} {len cap : Nat} {x : DataW H × List MemPlace}
    (h : DataW.trod enc Try.prog w base spare held fuel 34 [.slice a len cap] = some x) (hw : Wt 34 x.1) : ∃ ts, IsTexts w a len cap ts ∧ ∀ t ∈ ts, t.length ≤ 140737488355328 := by
  obtain ⟨ms, h1, h2⟩ := openY layT ⟨[], none, 0, 0⟩ cellsO_bytes (slice_lens Try.underlying34 h).1 (fun m => m.at w ∧ m.t.length ≤ 140737488355328) (fun i hi => by
    obtain ⟨ad, cs', n, y, e, g1, g2, g3⟩ := (wt_slice Try.underlying34 h hw).2 i hi
    have hl := (World.cells?_some g1).2.1
    rw [cellsO_bytes] at hl
    obtain ⟨v, rfl⟩ := listO1 hl
    obtain ⟨b, n', c', rfl⟩ := slice_of Try.underlying23 g2
    obtain ⟨t, ht, hb⟩ := open_bytesW g2 g3
    exact ⟨ad, _, ⟨t, b, n', c'⟩, e, g1, ⟨ht, hb⟩, rfl⟩)
  refine ⟨ms.map MB.t, texts_of h1 (fun m hm => (h2 m hm).1), fun t ht => ?_⟩
  obtain ⟨m, hm, rfl⟩ := List.mem_map.1 ht
  exact (h2 m hm).2

theorem open_verW {H : Type} {enc : TypeId × Value → H} {w : World} {base : Nat} {spare : Nat → Bool} {held : Bool} {fuel : Nat} {c0 c1 c2 c3 c4 : Value} {x : DataW H × List MemPlace}
    (h : DataW.trod enc Try.prog w base spare held fuel 36 [c0, c1, c2, c3, c4] = some x) (hw : Wt 36 x.1) : ∃ m : MV, [c0, c1, c2, c3, c4] = layV.cells m ∧ m.ok w ∧ (∀ k ∈ m.v.ks, k.length ≤ 140737488355328) ∧ 0 ≤ m.v.ts ∧ m.v.ts < 18446744073709551616 ∧ 0 ≤ m.v.tx ∧ m.v.tx < 18446744073709551616 := by
  obtain ⟨xs, k, _, rfl, hl, hlen, hf⟩ := DataW.trod_struct Try.underlying36 h
  obtain ⟨yg0, g0, eg0⟩ := fldO (show DataW.trod enc Try.prog w base spare held k 24 (([c0, c1, c2, c3, c4].drop 0).take (Try.prog.cellsOf 24)) = xs[0]? from hf 0 _ rfl) (by rw [hlen]; decide)
  rw [cellsO_u64] at g0
  simp only [List.drop, List.take] at g0
  obtain ⟨yg1, g1, eg1⟩ := fldO (show DataW.trod enc Try.prog w base spare held k 24 (([c0, c1, c2, c3, c4].drop 1).take (Try.prog.cellsOf 24)) = xs[1]? from hf 1 _ rfl) (by rw [hlen]; decide)
  rw [cellsO_u64] at g1
  simp only [List.drop, List.take] at g1
  obtain ⟨yg2, g2, eg2⟩ := fldO (show DataW.trod enc Try.prog w base spare held k 4 (([c0, c1, c2, c3, c4].drop 2).take (Try.prog.cellsOf 4)) = xs[2]? from hf 2 _ rfl) (by rw [hlen]; decide)
  rw [cellsO_bool] at g2
  simp only [List.drop, List.take] at g2
  obtain ⟨yg3, g3, eg3⟩ := fldO (show DataW.trod enc Try.prog w base spare held k 23 (([c0, c1, c2, c3, c4].drop 3).take (Try.prog.cellsOf 23)) = xs[3]? from hf 3 _ rfl) (by rw [hlen]; decide)
  rw [cellsO_bytes] at g3
  simp only [List.drop, List.take] at g3
  obtain ⟨yg4, g4, eg4⟩ := fldO (show DataW.trod enc Try.prog w base spare held k 34 (([c0, c1, c2, c3, c4].drop 4).take (Try.prog.cellsOf 34)) = xs[4]? from hf 4 _ rfl) (by rw [hlen]; decide)
  rw [cellsO_texts] at g4
  simp only [List.drop, List.take] at g4
  obtain ⟨n0, e0, _, f0⟩ := DataW.trod_int Try.underlying24 g0
  obtain ⟨n1, e1, _, f1⟩ := DataW.trod_int Try.underlying24 g1
  obtain ⟨b2, e2, _⟩ := DataW.trod_bool Try.underlying4 g2
  obtain ⟨va, vn, vc, rfl⟩ := slice_of Try.underlying23 g3
  obtain ⟨ka, kn, kc, rfl⟩ := slice_of Try.underlying34 g4
  obtain ⟨val, hv, _⟩ := open_bytesW g3 (wt_field Try.underlying36 hw (i := 3) rfl eg3)
  obtain ⟨ks, hk, hkl⟩ := open_textsW g4 (wt_field Try.underlying36 hw (i := 4) rfl eg4)
  simp at e0 e1 e2
  subst e0 e1 e2
  exact ⟨⟨⟨n0, n1, b2, val, ks⟩, va, vn, vc, ka, kn, kc⟩, rfl, ⟨hv, hk⟩, hkl, (wfO_u64 f0).1, (wfO_u64 f0).2, (wfO_u64 f1).1, (wfO_u64 f1).2⟩

theorem open_deedW {H : Type} {enc : TypeId × Value → H} {w : World} {base : Nat} {spare : Nat → Bool} {held : Bool} {fuel : Nat} {c0 c1 c2 c3 c4 c5 c6 c7 : Value} {x : DataW H × List MemPlace}
    (h : DataW.trod enc Try.prog w base spare held fuel 61 [c0, c1, c2, c3, c4, c5, c6, c7] = some x) (hw : Wt 61 x.1) : ∃ d : MD, [c0, c1, c2, c3, c4, c5, c6, c7] = layD.cells d ∧ d.ok w := by
  obtain ⟨xs, k, _, rfl, hl, hlen, hf⟩ := DataW.trod_struct Try.underlying61 h
  obtain ⟨yg0, g0, eg0⟩ := fldO (show DataW.trod enc Try.prog w base spare held k 3 (([c0, c1, c2, c3, c4, c5, c6, c7].drop 0).take (Try.prog.cellsOf 3)) = xs[0]? from hf 0 _ rfl) (by rw [hlen]; decide)
  rw [cellsO_int] at g0
  simp only [List.drop, List.take] at g0
  obtain ⟨yg1, g1, eg1⟩ := fldO (show DataW.trod enc Try.prog w base spare held k 23 (([c0, c1, c2, c3, c4, c5, c6, c7].drop 1).take (Try.prog.cellsOf 23)) = xs[1]? from hf 1 _ rfl) (by rw [hlen]; decide)
  rw [cellsO_bytes] at g1
  simp only [List.drop, List.take] at g1
  obtain ⟨yg2, g2, eg2⟩ := fldO (show DataW.trod enc Try.prog w base spare held k 36 (([c0, c1, c2, c3, c4, c5, c6, c7].drop 2).take (Try.prog.cellsOf 36)) = xs[2]? from hf 2 _ rfl) (by rw [hlen]; decide)
  rw [cellsO_ver] at g2
  simp only [List.drop, List.take] at g2
  obtain ⟨yg3, g3, eg3⟩ := fldO (show DataW.trod enc Try.prog w base spare held k 24 (([c0, c1, c2, c3, c4, c5, c6, c7].drop 7).take (Try.prog.cellsOf 24)) = xs[3]? from hf 3 _ rfl) (by rw [hlen]; decide)
  rw [cellsO_u64] at g3
  simp only [List.drop, List.take] at g3
  obtain ⟨n0, e0, _, f0⟩ := DataW.trod_int Try.underlying3 g0
  obtain ⟨ka, kn, kc, rfl⟩ := slice_of Try.underlying23 g1
  obtain ⟨key, hk, _⟩ := open_bytesW g1 (wt_field Try.underlying61 hw (i := 1) rfl eg1)
  obtain ⟨m, em, hm, hmk, _⟩ := open_verW g2 (wt_field Try.underlying61 hw (i := 2) rfl eg2)
  obtain ⟨n3, e3, _, f3⟩ := DataW.trod_int Try.underlying24 g3
  simp [layV] at e0 em e3
  obtain ⟨rfl, rfl, rfl, rfl, rfl⟩ := em
  subst e0 e3
  exact ⟨⟨n0, key, ka, kn, kc, m, n3⟩, rfl, ⟨hk, hm, hmk, wfO_u64 f3⟩⟩

/-- deeds that a law is handed -/
def IsDeeds12 (w : World) (a : Option Addr) (len cap : Nat) (ds : List MD) : Prop := IsY layD w a len cap ds ∧ ∀ d ∈ ds, d.ok w

theorem open_deeds12 {H : Type} {enc : TypeId × Value → H} {w : World} {base : Nat} {spare : Nat → Bool} {held : Bool} {fuel : Nat} {a : Option Addr} {len cap : Nat} {x : DataW H × List MemPlace}
    (h : DataW.trod enc Try.prog w base spare held fuel 22 [.slice a len cap] = some x) (hw : Wt 22 x.1) : ∃ ds, IsDeeds12 w a len cap ds :=
  openY layD ⟨0, [], none, 0, 0, mv0, 0⟩ cellsO_deed (slice_lens Try.underlying22 h).1 (fun d => d.ok w) (fun i hi => by
    obtain ⟨ad, cs', n, y, e, g1, g2, g3⟩ := (wt_slice Try.underlying22 h hw).2 i hi
    have hl := (World.cells?_some g1).2.1
    rw [cellsO_deed] at hl
    obtain ⟨c0, c1, c2, c3, c4, c5, c6, c7, rfl⟩ := listO8 hl
    obtain ⟨d, ed, hd⟩ := open_deedW g2 g3
    exact ⟨ad, _, d, e, g1, hd, ed⟩)

/-- a version that a law is handed, by value -/
def MV.handed (m : MV) (w : World) : Prop := m.ok w ∧ (∀ k ∈ m.v.ks, k.length ≤ 140737488355328) ∧ 0 ≤ m.v.ts ∧ m.v.ts < 18446744073709551616 ∧ 0 ≤ m.v.tx ∧ m.v.tx < 18446744073709551616

theorem open_ver12 {H : Type} {enc : TypeId × Value → H} {w : World} {base : Nat} {spare : Nat → Bool} {held : Bool} {fuel : Nat} {cs : Array Value} (hz : cs.size = 5) {x : DataW H × List MemPlace}
    (h : DataW.trod enc Try.prog w base spare held fuel 36 cs.toList = some x) (hw : Wt 36 x.1) : ∃ m : MV, cs = #[.int .u64 m.v.ts, .int .u64 m.v.tx, .bool m.v.dd, .slice m.va m.vn m.vc, .slice m.ka m.kn m.kc] ∧ m.handed w := by
  obtain ⟨c0, c1, c2, c3, c4, e⟩ := listO5 (cs := cs.toList) (by simpa using hz)
  rw [e] at h
  obtain ⟨m, em, hm⟩ := open_verW h hw
  exact ⟨m, by rw [← Array.toArray_toList (xs := cs), e, em]; rfl, hm⟩

end Go.Proofs.Ytfldiapdfpkdaaa

namespace Go.Proofs.Ytfldiapdfpkdaaa
open Go.RowKit NumMath Go.ChangeShapes Go.WideShapes Go.Deep
set_option linter.unusedVariables false
set_option maxRecDepth 100000

theorem out_oldB {w0 : World} {a : Option Addr} {n c : Nat} {xs : List Int} (h : IsBytes w0 a n c xs) : Out (fun k => w0.heap.size ≤ k) a n := by
  rcases h.2.2.2.2 with h0 | ⟨g, off, e, hg, _⟩
  · exact .inl h0
  · refine .inr (fun y hy hX => ?_)
    rw [e] at hy
    cases hy
    have : w0.heap.size ≤ g := hX
    omega

theorem foot_ok {w0 : World} {m : MV} (h : m.ok w0) : Foot (fun k => w0.heap.size ≤ k) w0 (fun w => m.at w) := by
  obtain ⟨ms, e, h1, h2⟩ := h.2.mbs
  have ho : Out (fun k => w0.heap.size ≤ k) m.ka m.kn := by
    rcases h1.2.2.2 with h0 | ⟨g, off, e, hg, _⟩
    · exact .inl h0
    · refine .inr (fun y hy hX => ?_)
      rw [e] at hy
      cases hy
      have : w0.heap.size ≤ g := hX
      omega
  have f1 := foot_bytes h.1 (out_oldB h.1)
  have f2 := foot_texts h1 ho (fun b hb => foot_bytes (h2 b hb) (out_oldB (h2 b hb)))
  rw [e] at f2
  exact f1.and f2

/-- a version that was handed in, somebody's blocks that came since -/
theorem foot_old {w0 w : World} {m : MV} (h : m.ok w0) (hb : Below w0.heap.size w0 w) {X : Nat → Prop} (hX : ∀ k, X k → w0.heap.size ≤ k) : Foot X w (fun w => m.at w) :=
  (foot_ok h).step (Below.keeps hb _) (fun k hk => .inl (hX k hk))

/-- the program's blocks -/
def Fp (p mb : Nat) (cs : List PC) (k : Nat) : Prop := k = p ∨ Mut mb cs k

/-- the program's store at p beside the reference's at q -/
structure TwoS (w0 w : World) (p mb z : Nat) (cs : List PC) (q : Nat) (cv : Value) (ms : List MC) : Prop where
  s : IsS (Sp q cv) w0.heap.size w p mb z cs
  x : IsXs (Fp p mb cs) w0 w q cv ms

theorem TwoS.keep {w0 w w' : World} {p mb z : Nat} {cs : List PC} {q : Nat} {cv : Value} {ms : List MC} (h : TwoS w0 w p mb z cs q cv ms) (hb : Below w.heap.size w w') : TwoS w0 w' p mb z cs q cv ms := ⟨h.s.keep hb, h.x.keep hb⟩

theorem TwoS.more {w0 w : World} {p mb z z' : Nat} {cs : List PC} {q : Nat} {cv : Value} {ms : List MC} (h : TwoS w0 w p mb z cs q cv ms) (hz : z ≤ z') : TwoS w0 w p mb z' cs q cv ms := ⟨h.s.more hz, h.x⟩

/-- all blocks of both -/
def Both (p mb : Nat) (cs : List PC) (q : Nat) (cv : Value) (k : Nat) : Prop := Fp p mb cs k ∨ Sp q cv k

theorem TwoS.lt {w0 w : World} {p mb z : Nat} {cs : List PC} {q : Nat} {cv : Value} {ms : List MC} (h : TwoS w0 w p mb z cs q cv ms) {k : Nat} (hk : Both p mb cs q cv k) : k < w.heap.size := by
  rcases hk with hk | hk
  · exact h.x.fl k hk
  · exact h.s.gl k hk

theorem TwoS.prog {w0 w w' : World} {p mb z z' : Nat} {cs : List PC} {q : Nat} {cv : Value} {ms : List MC} {st : List Cel} (h : TwoS w0 w p mb z cs q cv ms) (hp : StPost (Sp q cv) w0.heap.size w p mb z' cs st w') :
    ∃ cs', TwoS w0 w' p mb z' cs' q cv ms ∧ cs'.map PC.c = st ∧ Keeps (Mut mb cs) w w' ∧ ∀ k, Both p mb cs' q cv k → Both p mb cs q cv k ∨ w.heap.size ≤ k := by
  obtain ⟨cs', h1, h2, h3, h4⟩ := hp
  have hF : ∀ k, Fp p mb cs' k → Fp p mb cs k ∨ w.heap.size ≤ k := fun k hk => by
    rcases hk with hk | hk
    · exact .inl (.inl hk)
    · rcases h4 k hk with h5 | h5
      · exact .inl (.inr h5)
      · exact .inr h5
  refine ⟨cs', ⟨h1, h.x.next (Keeps.wider h3 (fun k hk => .inr hk)) (h.x.b.trans (h3.below h.x.b.size (fun k hk => h.s.mlo' hk))) hF (fun k hk => ?_)⟩, h2, h3, fun k hk => ?_⟩
  · rcases hk with rfl | hk
    · exact h1.lt
    · exact h1.mlt hk
  · rcases hk with hk | hk
    · rcases hF k hk with h5 | h5
      · exact .inl (.inl h5)
      · exact .inr h5
    · exact .inl (.inr hk)

theorem TwoS.ref {w0 w w' : World} {p mb z : Nat} {cs : List PC} {q : Nat} {cv cv' : Value} {ms ms' : List MC} {st : List Cel} (h : TwoS w0 w p mb z cs q cv ms) (hx : CellPost (Fp p mb cs) w0 w q cv st w' cv' ms') :
    TwoS w0 w' p mb z cs q cv' ms' ∧ ∀ k, Both p mb cs q cv' k → Both p mb cs q cv k ∨ w.heap.size ≤ k := by
  have hG : ∀ k, Sp q cv' k → Sp q cv k ∨ w.heap.size ≤ k := fun k hk => by
    rcases hk with hk | hk
    · exact .inl (.inl hk)
    · rcases hx.at' with h1 | ⟨g, h1, h2⟩
      · exact .inl (.inr (h1.symm.trans hk))
      · rw [h1] at hk
        cases hk
        exact .inr h2
  refine ⟨⟨h.s.next hx.kp hG (fun k hk => ?_), hx.is⟩, fun k hk => ?_⟩
  · rcases hk with rfl | hk
    · exact hx.is.lt
    · exact (hx.is.own.lt k hk).2
  · rcases hk with hk | hk
    · exact .inl (.inl hk)
    · rcases hG k hk with h5 | h5
      · exact .inl (.inr h5)
      · exact .inr h5

/-- a deed's box -/
structure BxD (w : World) (N : Nat) (d : MD) : Prop where
  c0 : w.cell? ⟨N, 0, none⟩ = some (.int .i64 d.kd)
  c1 : w.cell? ⟨N, 1, none⟩ = some (.slice d.ka d.kn d.kc)
  c2 : w.cell? ⟨N, 2, none⟩ = some (.int .u64 d.m.v.ts)
  c3 : w.cell? ⟨N, 3, none⟩ = some (.int .u64 d.m.v.tx)
  c4 : w.cell? ⟨N, 4, none⟩ = some (.bool d.m.v.dd)
  c5 : w.cell? ⟨N, 5, none⟩ = some (.slice d.m.va d.m.vn d.m.vc)
  c6 : w.cell? ⟨N, 6, none⟩ = some (.slice d.m.ka d.m.kn d.m.kc)
  c7 : w.cell? ⟨N, 7, none⟩ = some (.int .u64 d.ts)
  lt : N < w.heap.size

theorem BxD.same {w w' : World} {N : Nat} {d : MD} (h : BxD w N d) (e : w'.heap[N]? = w.heap[N]?) (hs : w.heap.size ≤ w'.heap.size) : BxD w' N d :=
  ⟨(World.cell?_of_block (a := ⟨N, 0, none⟩) e).trans h.c0, (World.cell?_of_block (a := ⟨N, 1, none⟩) e).trans h.c1, (World.cell?_of_block (a := ⟨N, 2, none⟩) e).trans h.c2, (World.cell?_of_block (a := ⟨N, 3, none⟩) e).trans h.c3, (World.cell?_of_block (a := ⟨N, 4, none⟩) e).trans h.c4, (World.cell?_of_block (a := ⟨N, 5, none⟩) e).trans h.c5, (World.cell?_of_block (a := ⟨N, 6, none⟩) e).trans h.c6, (World.cell?_of_block (a := ⟨N, 7, none⟩) e).trans h.c7, Nat.lt_of_lt_of_le h.lt hs⟩

theorem bxD_new (w : World) (d : MD) (ty : TypeId) : BxD (w.alloc (.cells #[.int .i64 d.kd, .slice d.ka d.kn d.kc, .int .u64 d.m.v.ts, .int .u64 d.m.v.tx, .bool d.m.v.dd, .slice d.m.va d.m.vn d.m.vc, .slice d.m.ka d.m.kn d.m.kc, .int .u64 d.ts] ty)) w.heap.size d :=
  have hr := rangeY_new w w.heap.size #[.int .i64 d.kd, .slice d.ka d.kn d.kc, .int .u64 d.m.v.ts, .int .u64 d.m.v.tx, .bool d.m.v.dd, .slice d.m.va d.m.vn d.m.vc, .slice d.m.ka d.m.kn d.m.kc, .int .u64 d.ts] ty rfl
  ⟨hr 0 _ rfl, hr 1 _ rfl, hr 2 _ rfl, hr 3 _ rfl, hr 4 _ rfl, hr 5 _ rfl, hr 6 _ rfl, hr 7 _ rfl, by simp⟩

/-- both stores, and a deed's box that is none of theirs -/
structure TwoB (w0 w : World) (p mb z : Nat) (cs : List PC) (q : Nat) (cv : Value) (ms : List MC) (N : Nat) (d : MD) : Prop where
  two : TwoS w0 w p mb z cs q cv ms
  box : BxD w N d
  far : ¬ Both p mb cs q cv N

theorem TwoB.keep {w0 w w' : World} {p mb z : Nat} {cs : List PC} {q : Nat} {cv : Value} {ms : List MC} {N : Nat} {d : MD} (h : TwoB w0 w p mb z cs q cv ms N d) (hb : Below w.heap.size w w') : TwoB w0 w' p mb z cs q cv ms N d :=
  ⟨h.two.keep hb, h.box.same (hb.block N h.box.lt) hb.size, h.far⟩

theorem TwoB.prog {w0 w w' : World} {p mb z z' : Nat} {cs : List PC} {q : Nat} {cv : Value} {ms : List MC} {st : List Cel} {N : Nat} {d : MD} (h : TwoB w0 w p mb z cs q cv ms N d) (hp : StPost (Sp q cv) w0.heap.size w p mb z' cs st w') :
    ∃ cs', TwoB w0 w' p mb z' cs' q cv ms N d ∧ cs'.map PC.c = st := by
  obtain ⟨cs', h1, h2, h3, h4⟩ := h.two.prog hp
  refine ⟨cs', ⟨h1, h.box.same (h3.block N h.box.lt (fun e => h.far (.inl (.inr e)))) h3.size, fun e => ?_⟩, h2⟩
  rcases h4 N e with h5 | h5
  · exact h.far h5
  · have := h.box.lt; omega

theorem TwoB.ref {w0 w w' : World} {p mb z : Nat} {cs : List PC} {q : Nat} {cv cv' : Value} {ms ms' : List MC} {st : List Cel} {N : Nat} {d : MD} (h : TwoB w0 w p mb z cs q cv ms N d) (hx : CellPost (Fp p mb cs) w0 w q cv st w' cv' ms') :
    TwoB w0 w' p mb z cs q cv' ms' N d := by
  obtain ⟨h1, h4⟩ := h.two.ref hx
  refine ⟨h1, h.box.same (hx.kp.block N h.box.lt (fun e => h.far (.inr e))) hx.kp.size, fun e => ?_⟩
  rcases h4 N e with h5 | h5
  · exact h.far h5
  · have := h.box.lt; omega

/-- the program's store is the reference's with what is dead struck -/
structure Goes (n : Nat) (cs : List PC) (st : List Cel) : Prop where
  sort : SortC st
  clean : CleanC st
  eq : cs.map PC.c = st.filter liveC
  len : st.length ≤ n
  key : ∀ c ∈ st, c.key.length ≤ 100000

theorem Goes.live {n : Nat} {cs : List PC} {st : List Cel} (h : Goes n cs st) : ∀ c ∈ cs.map PC.c, liveC c = true := by
  rw [h.eq]
  exact fun c hc => (List.mem_filter.1 hc).2

theorem Goes.few {n : Nat} {cs : List PC} {ms : List MC} (h : Goes n cs (ms.map MC.c)) {G : Nat → Prop} {b : Nat} {w : World} {p mb z : Nat} (hs : IsS G b w p mb z cs) : ∀ m ∈ ms, m.vs.length ≤ z := by
  intro m hm
  have hc : m.c ∈ ms.map MC.c := List.mem_map.2 ⟨m, hm, rfl⟩
  by_cases hl : liveC m.c = true
  · have h1 : m.c ∈ cs.map PC.c := by rw [h.eq]; exact List.mem_filter.2 ⟨hc, hl⟩
    obtain ⟨x, hx, e⟩ := List.mem_map.1 h1
    have h2 := (hs.go x hx).few
    have h3 : x.c.vs.length = m.c.vs.length := by rw [e]
    have h4 : x.c.vs.length = x.vs.length := List.length_map ..
    have h5 : m.c.vs.length = m.vs.length := List.length_map ..
    omega
  · have h1 := (dead_eq (c := m.c) (by simpa using hl)).1
    have h5 : m.c.vs.length = m.vs.length := List.length_map ..
    rw [h1] at h5
    simp at h5
    omega

theorem insC_le (st : List Cel) (k : List Int) : (insC st k).length ≤ st.length + 1 := by
  unfold insC
  split
  · omega
  · rw [List.length_append, List.length_cons, List.length_take, List.length_drop]
    omega

theorem up_key (g : Cel → Cel) (hg : ∀ c, (g c).key = c.key) (k : List Int) (hk : k.length ≤ 100000) {st : List Cel} (h : ∀ c ∈ st, c.key.length ≤ 100000) : ∀ c ∈ upC g k st, c.key.length ≤ 100000 := by
  intro y hy
  rcases up_mem g k st y hy with h1 | ⟨c, h1 | h1, rfl⟩
  · exact h y h1
  · rw [hg]; exact h c h1
  · rw [hg, h1]; exact hk

theorem goes_put {n : Nat} {cs cs' : List PC} {st : List Cel} (h : Goes n cs st) {k : List Int} (hk : k.length ≤ 100000) {v : Ver} (e : cs'.map PC.c = putC (cs.map PC.c) k v) : Goes (n + 1) cs' (putC st k v) := by
  refine ⟨sort_put h.sort k v, clean_put h.clean k v, by rw [e, h.eq, live_put h.sort h.clean], ?_, ?_⟩
  · unfold putC
    rw [List.length_modify]
    have := insC_le st k
    have := h.len
    omega
  · unfold putC
    rw [up_eq]
    exact up_key (setVs (putP Ver.ts v)) (fun _ => rfl) k hk h.key

theorem goes_intend {n : Nat} {cs cs' : List PC} {st : List Cel} (h : Goes n cs st) {k : List Int} (hk : k.length ≤ 100000) {v : Ver} (e : cs'.map PC.c = (intendC (cs.map PC.c) k v).1) : Goes (n + 1) cs' (intendC st k v).1 := by
  refine ⟨sort_intend h.sort k v, clean_intend h.clean k v, by rw [e, h.eq, (live_intend h.sort h.clean k v).1], ?_, ?_⟩
  · have := insC_le st k
    have := h.len
    unfold intendC
    split
    · dsimp only; omega
    · split
      · dsimp only; omega
      · dsimp only; rw [List.length_modify]; omega
  · unfold intendC
    split
    · exact h.key
    · split
      · exact h.key
      · dsimp only
        rw [up_eq]
        exact up_key (setIt v) (fun _ => rfl) k hk h.key

theorem key_map {st : List Cel} (h : ∀ c ∈ st, c.key.length ≤ 100000) (f : Cel → Cel) (hf : ∀ c, (f c).key = c.key) : ∀ c ∈ st.map f, c.key.length ≤ 100000 := by
  intro y hy
  obtain ⟨c, hc, rfl⟩ := List.mem_map.1 hy
  rw [hf]
  exact h c hc

theorem goes_drop {n : Nat} {cs cs' : List PC} {st : List Cel} (h : Goes n cs st) {tx : Int} (e : cs'.map PC.c = (stepL (setIt ver0) (intentsC (cs.map PC.c) tx) (intentsC (cs.map PC.c) tx).length (cs.map PC.c)).filter liveC) : Goes (n + 1) cs' (dropK st tx) := by
  refine ⟨sort_drop h.sort tx, clean_drop h.sort h.clean tx, by rw [e, h.eq, live_drop h.sort], ?_, ?_⟩
  · rw [dropK_eq h.sort, List.length_map]; have := h.len; omega
  · rw [dropK_eq h.sort]
    exact key_map h.key _ (fun c => by split <;> rfl)

theorem goes_turn {n : Nat} {cs cs' : List PC} {st : List Cel} (h : Goes n cs st) {tx ts : Int} (e : cs'.map PC.c = (stepL (turnC1 ts) (intentsC (cs.map PC.c) tx) (intentsC (cs.map PC.c) tx).length (cs.map PC.c)).filter liveC) : Goes (n + 1) cs' (turnK st tx ts) := by
  refine ⟨sort_turn h.sort tx ts, clean_turn h.sort h.clean tx ts, by rw [e, h.eq, live_turn h.sort], ?_, ?_⟩
  · rw [turnK_eq h.sort, List.length_map]; have := h.len; omega
  · rw [turnK_eq h.sort]
    exact key_map h.key _ (fun c => by split <;> rfl)

theorem goes_gc {n : Nat} {cs cs' : List PC} {st : List Cel} (h : Goes n cs st) {ts : Int} (e : cs'.map PC.c = (stepL (setVs (gcV ts)) (keysC (cs.map PC.c)) (keysC (cs.map PC.c)).length (cs.map PC.c)).filter liveC) : Goes (n + 1) cs' (gcC ts st) := by
  refine ⟨sort_gc h.sort ts, clean_gc h.clean ts, by rw [e, h.eq, live_gc], ?_, ?_⟩
  · unfold gcC; rw [List.length_map]; have := h.len; omega
  · exact key_map h.key _ (fun c => rfl)

theorem Goes.kn {n : Nat} {cs : List PC} {ms : List MC} (h : Goes n cs (ms.map MC.c)) {F : Nat → Prop} {w0 w : World} {q : Nat} {cv : Value} (hx : IsXs F w0 w q cv ms) : ∀ m ∈ ms, m.kn ≤ 100000 := by
  intro m hm
  have h1 := h.key m.c (List.mem_map.2 ⟨m, hm, rfl⟩)
  have h2 := (hx.ok m hm).key.1
  have h3 : m.c.key = m.key := rfl
  rw [h3, h2] at h1
  exact h1

end Go.Proofs.Ytfldiapdfpkdaaa

namespace Go.Proofs.Ytfldiapdfpkdaaa
open Go.RowKit NumMath Go.ChangeShapes Go.WideShapes Go.Deep
set_option linter.unusedVariables false
set_option maxRecDepth 100000

/-- both stores behind j deeds -/
def Stat (w0 w : World) (p mb q j : Nat) : Prop := ∃ z cs cv ms, z ≤ 2 * j ∧ TwoS w0 w p mb z cs q cv ms ∧ Goes j cs (ms.map MC.c)

/-- .. and a deed's box -/
def StatB (w0 w : World) (p mb q j N : Nat) (d : MD) : Prop := ∃ z cs cv ms, z ≤ 2 * j ∧ TwoB w0 w p mb z cs q cv ms N d ∧ Goes j cs (ms.map MC.c)

/-- .. where the program has done it and the reference has not -/
def Half (w0 w : World) (p mb q j N : Nat) (d : MD) (f : List Cel → List Cel) (g : List Cel → Int) (r : Int) : Prop := ∃ z cs cs' cv ms, z ≤ 2 * (j + 1) ∧ TwoB w0 w p mb z cs' q cv ms N d ∧ Goes j cs (ms.map MC.c) ∧ (∀ m ∈ ms, m.vs.length ≤ 2 * j) ∧ cs'.map PC.c = f (cs.map PC.c) ∧ r = g (cs.map PC.c)

theorem StatB.stat {w0 w : World} {p mb q j N : Nat} {d : MD} (h : StatB w0 w p mb q j N d) : Stat w0 w p mb q j := by
  obtain ⟨z, cs, cv, ms, h1, h2, h3⟩ := h
  exact ⟨z, cs, cv, ms, h1, h2.two, h3⟩

theorem Stat.keep {w0 w w' : World} {p mb q j : Nat} (h : Stat w0 w p mb q j) (hb : Below w.heap.size w w') : Stat w0 w' p mb q j := by
  obtain ⟨z, cs, cv, ms, h1, h2, h3⟩ := h
  exact ⟨z, cs, cv, ms, h1, h2.keep hb, h3⟩

theorem Stat.below {w0 w : World} {p mb q j : Nat} (h : Stat w0 w p mb q j) : Below w0.heap.size w0 w := by
  obtain ⟨z, cs, cv, ms, h1, h2, h3⟩ := h
  exact h2.x.b

theorem StatB.keep {w0 w w' : World} {p mb q j N : Nat} {d : MD} (h : StatB w0 w p mb q j N d) (hb : Below w.heap.size w w') : StatB w0 w' p mb q j N d := by
  obtain ⟨z, cs, cv, ms, h1, h2, h3⟩ := h
  exact ⟨z, cs, cv, ms, h1, h2.keep hb, h3⟩

theorem StatB.box {w0 w : World} {p mb q j N : Nat} {d : MD} (h : StatB w0 w p mb q j N d) : BxD w N d := by
  obtain ⟨z, cs, cv, ms, h1, h2, h3⟩ := h
  exact h2.box

theorem StatB.below {w0 w : World} {p mb q j N : Nat} {d : MD} (h : StatB w0 w p mb q j N d) : Below w0.heap.size w0 w := h.stat.below

theorem Half.box {w0 w : World} {p mb q j N : Nat} {d : MD} {f : List Cel → List Cel} {g : List Cel → Int} {r : Int} (h : Half w0 w p mb q j N d f g r) : BxD w N d := by
  obtain ⟨z, cs, cs', cv, ms, h1, h2, h3⟩ := h
  exact h2.box

theorem Half.keep {w0 w w' : World} {p mb q j N : Nat} {d : MD} {f : List Cel → List Cel} {g : List Cel → Int} {r : Int} (h : Half w0 w p mb q j N d f g r) (hb : Below w.heap.size w w') : Half w0 w' p mb q j N d f g r := by
  obtain ⟨z, cs, cs', cv, ms, h1, h2, h3⟩ := h
  exact ⟨z, cs, cs', cv, ms, h1, h2.keep hb, h3⟩

theorem statB_new {w0 w : World} {p mb q j : Nat} (h : Stat w0 w p mb q j) (d : MD) (ty : TypeId) : StatB w0 (w.alloc (.cells #[.int .i64 d.kd, .slice d.ka d.kn d.kc, .int .u64 d.m.v.ts, .int .u64 d.m.v.tx, .bool d.m.v.dd, .slice d.m.va d.m.vn d.m.vc, .slice d.m.ka d.m.kn d.m.kc, .int .u64 d.ts] ty)) p mb q j w.heap.size d := by
  obtain ⟨z, cs, cv, ms, h1, h2, h3⟩ := h
  exact ⟨z, cs, cv, ms, h1, ⟨h2.keep (new_below _ _), bxD_new w d ty, fun e => by have := h2.lt e; omega⟩, h3⟩

/-- what is asked of a deed's sizes -/
structure MD.fits (w0 : World) (d : MD) : Prop where
  ok : d.ok w0
  k : d.kn ≤ 50
  v : d.m.vn ≤ 100
  ks : d.m.kn ≤ 10

theorem MD.fits.fit {w0 : World} {d : MD} (h : d.fits w0) : FitV d.m.v := by
  have h1 := h.ok.m.1.1
  have h2 := h.ok.m.2.1
  have := h.v
  have := h.ks
  exact ⟨by omega, by omega, h.ok.fit⟩

theorem MD.fits.kl {w0 : World} {d : MD} (h : d.fits w0) : d.key.length ≤ 100000 := by have := h.ok.key.1; have := h.k; omega

theorem put1 {w0 w : World} {p mb q j N : Nat} {d : MD} (h : StatB w0 w p mb q j N d) (hj : j ≤ 1000) (hd : d.fits w0) :
    Calls Try.prog 24 #[.pointer (some ⟨p, 0, none⟩), .slice d.ka d.kn d.kc, .agg #[.int .u64 d.m.v.ts, .int .u64 d.m.v.tx, .bool d.m.v.dd, .slice d.m.va d.m.vn d.m.vc, .slice d.m.ka d.m.kn d.m.kc]] w fun e w' => e = .returned (.tuple #[]) ∧ Half w0 w' p mb q j N d (fun st => putC st d.key d.m.v) (fun _ => 0) 0 := by
  obtain ⟨z, cs, cv, ms, h1, h2, h3⟩ := h
  refine (pPut_any _ _ w p mb z cs h2.two.s (by omega) d.ka d.kn d.kc d.key (hd.ok.key.keep h2.two.x.b) (by have := hd.k; omega) d.m (foot_old hd.ok.m h2.two.x.b (fun k hk => h2.two.s.mlo' hk)) hd.fit).mono ?_
  rintro e w' ⟨rfl, hp⟩
  obtain ⟨cs', h4, h5⟩ := h2.prog hp
  exact ⟨rfl, z + 2, cs, cs', cv, ms, by omega, h4, h3, fun m hm => by have := h3.few h2.two.s m hm; omega, h5, rfl⟩

theorem put2 {w0 w : World} {p mb q j N : Nat} {d : MD} (h : Half w0 w p mb q j N d (fun st => putC st d.key d.m.v) (fun _ => 0) 0) (hj : j ≤ 1000) (hd : d.fits w0) :
    Calls Try.prog 26 #[.pointer (some ⟨q, 0, none⟩), .slice d.ka d.kn d.kc, .agg #[.int .u64 d.m.v.ts, .int .u64 d.m.v.tx, .bool d.m.v.dd, .slice d.m.va d.m.vn d.m.vc, .slice d.m.ka d.m.kn d.m.kc]] w fun e w' => e = .returned (.tuple #[]) ∧ StatB w0 w' p mb q (j + 1) N d := by
  obtain ⟨z, cs, cs', cv, ms, h1, h2, h3, hv, h4, h5⟩ := h
  have hl := h3.len
  rw [List.length_map] at hl
  have hg := goes_put h3 hd.kl h4
  refine (put_any cell_any _ w0 w q cv ms h2.two.x (by omega) (fun m hm => by have := hv m hm; omega) d.ka d.kn d.kc d.key (hd.ok.key.keep h2.two.x.b) (by have := hd.k; omega) d.m hd.ok.m).mono ?_
  rintro e w' ⟨rfl, cv', ms', hx⟩
  refine ⟨rfl, z, cs', cv', ms', h1, h2.ref hx, by rw [hx.eq]; exact hg⟩

theorem int1 {w0 w : World} {p mb q j N : Nat} {d : MD} (h : StatB w0 w p mb q j N d) (hj : j ≤ 1000) (hd : d.fits w0) :
    Calls Try.prog 27 #[.pointer (some ⟨p, 0, none⟩), .slice d.ka d.kn d.kc, .agg #[.int .u64 d.m.v.ts, .int .u64 d.m.v.tx, .bool d.m.v.dd, .slice d.m.va d.m.vn d.m.vc, .slice d.m.ka d.m.kn d.m.kc]] w fun e w' => ∃ r, e = .returned (.int .i64 r) ∧ Half w0 w' p mb q j N d (fun st => (intendC st d.key d.m.v).1) (fun st => (intendC st d.key d.m.v).2) r := by
  obtain ⟨z, cs, cv, ms, h1, h2, h3⟩ := h
  refine (pIntend_any _ _ w p mb z cs h2.two.s (by omega) d.ka d.kn d.kc d.key (hd.ok.key.keep h2.two.x.b) (by have := hd.k; omega) d.m (foot_old hd.ok.m h2.two.x.b (fun k hk => h2.two.s.mlo' hk)) hd.fit).mono ?_
  rintro e w' ⟨rfl, hp⟩
  obtain ⟨cs', h4, h5⟩ := h2.prog hp
  exact ⟨_, rfl, z + 2, cs, cs', cv, ms, by omega, h4, h3, fun m hm => by have := h3.few h2.two.s m hm; omega, h5, rfl⟩

theorem int2 {w0 w : World} {p mb q j N : Nat} {d : MD} (r : Int) (h : Half w0 w p mb q j N d (fun st => (intendC st d.key d.m.v).1) (fun st => (intendC st d.key d.m.v).2) r) (hj : j ≤ 1000) (hd : d.fits w0) :
    Calls Try.prog 28 #[.pointer (some ⟨q, 0, none⟩), .slice d.ka d.kn d.kc, .agg #[.int .u64 d.m.v.ts, .int .u64 d.m.v.tx, .bool d.m.v.dd, .slice d.m.va d.m.vn d.m.vc, .slice d.m.ka d.m.kn d.m.kc]] w fun e w' => e = .returned (.int .i64 r) ∧ StatB w0 w' p mb q (j + 1) N d := by
  obtain ⟨z, cs, cs', cv, ms, h1, h2, h3, hv, h4, h5⟩ := h
  have hl := h3.len
  rw [List.length_map] at hl
  have hg := goes_intend h3 hd.kl h4
  refine (intend_any _ w0 w q cv ms h2.two.x (by omega) d.ka d.kn d.kc d.key (hd.ok.key.keep h2.two.x.b) (by have := hd.k; omega) d.m hd.ok.m).mono ?_
  rintro e w' ⟨rfl, cv', ms', hx⟩
  refine ⟨?_, z, cs', cv', ms', h1, h2.ref hx, by rw [hx.eq]; exact hg⟩
  rw [h5]
  dsimp only
  rw [h3.eq, (live_intend h3.sort h3.clean d.key d.m.v).2]

theorem trn1 {w0 w : World} {p mb q j N : Nat} {d : MD} (h : StatB w0 w p mb q j N d) (hj : j ≤ 1000) (hd : d.fits w0) :
    Calls Try.prog 22 #[.pointer (some ⟨p, 0, none⟩), .int .u64 d.m.v.tx, .int .u64 d.ts] w fun e w' => ∃ r, e = .returned (.int .i64 r) ∧ Half w0 w' p mb q j N d (fun st => (stepL (turnC1 d.ts) (intentsC st d.m.v.tx) (intentsC st d.m.v.tx).length st).filter liveC) (fun st => ((intentsC st d.m.v.tx).length : Int)) r := by
  obtain ⟨z, cs, cv, ms, h1, h2, h3⟩ := h
  refine (pTurn_any _ _ w p mb z cs h2.two.s (by omega) h3.live d.m.v.tx d.ts hd.ok.ts).mono ?_
  rintro e w' ⟨rfl, hp⟩
  obtain ⟨cs', h4, h5⟩ := h2.prog hp
  exact ⟨_, rfl, z + 1, cs, cs', cv, ms, by omega, h4, h3, fun m hm => by have := h3.few h2.two.s m hm; omega, h5, rfl⟩

theorem trn2 {w0 w : World} {p mb q j N : Nat} {d : MD} (r : Int) (h : Half w0 w p mb q j N d (fun st => (stepL (turnC1 d.ts) (intentsC st d.m.v.tx) (intentsC st d.m.v.tx).length st).filter liveC) (fun st => ((intentsC st d.m.v.tx).length : Int)) r) (hj : j ≤ 1000) (hd : d.fits w0) :
    Calls Try.prog 29 #[.pointer (some ⟨q, 0, none⟩), .int .u64 d.m.v.tx, .int .u64 d.ts] w fun e w' => e = .returned (.int .i64 r) ∧ StatB w0 w' p mb q (j + 1) N d := by
  obtain ⟨z, cs, cs', cv, ms, h1, h2, h3, hv, h4, h5⟩ := h
  have hl := h3.len
  rw [List.length_map] at hl
  have hg := goes_turn h3 h4
  refine (turn_any _ w0 w q cv ms h2.two.x h3.sort (by omega) (fun m hm => by have := hv m hm; omega) (h3.kn h2.two.x) d.m.v.tx d.ts).mono ?_
  rintro e w' ⟨rfl, cv', ms', hx⟩
  refine ⟨?_, z, cs', cv', ms', h1, h2.ref hx, by rw [hx.eq]; exact hg⟩
  rw [h5]
  dsimp only
  rw [h3.eq, live_intents]

theorem drp1 {w0 w : World} {p mb q j N : Nat} {d : MD} (h : StatB w0 w p mb q j N d) (hj : j ≤ 1000) (hd : d.fits w0) :
    Calls Try.prog 30 #[.pointer (some ⟨p, 0, none⟩), .int .u64 d.m.v.tx] w fun e w' => ∃ r, e = .returned (.int .i64 r) ∧ Half w0 w' p mb q j N d (fun st => (stepL (setIt ver0) (intentsC st d.m.v.tx) (intentsC st d.m.v.tx).length st).filter liveC) (fun st => ((intentsC st d.m.v.tx).length : Int)) r := by
  obtain ⟨z, cs, cv, ms, h1, h2, h3⟩ := h
  refine (pDrop_any _ _ w p mb z cs h2.two.s (by omega) h3.live d.m.v.tx).mono ?_
  rintro e w' ⟨rfl, hp⟩
  obtain ⟨cs', h4, h5⟩ := h2.prog hp
  exact ⟨_, rfl, z, cs, cs', cv, ms, by omega, h4, h3, fun m hm => by have := h3.few h2.two.s m hm; omega, h5, rfl⟩

theorem drp2 {w0 w : World} {p mb q j N : Nat} {d : MD} (r : Int) (h : Half w0 w p mb q j N d (fun st => (stepL (setIt ver0) (intentsC st d.m.v.tx) (intentsC st d.m.v.tx).length st).filter liveC) (fun st => ((intentsC st d.m.v.tx).length : Int)) r) (hj : j ≤ 1000) (hd : d.fits w0) :
    Calls Try.prog 31 #[.pointer (some ⟨q, 0, none⟩), .int .u64 d.m.v.tx] w fun e w' => e = .returned (.int .i64 r) ∧ StatB w0 w' p mb q (j + 1) N d := by
  obtain ⟨z, cs, cs', cv, ms, h1, h2, h3, hv, h4, h5⟩ := h
  have hl := h3.len
  rw [List.length_map] at hl
  have hg := goes_drop h3 h4
  refine (drop_any _ w0 w q cv ms h2.two.x h3.sort (by omega) (h3.kn h2.two.x) d.m.v.tx).mono ?_
  rintro e w' ⟨rfl, cv', ms', hx⟩
  refine ⟨?_, z, cs', cv', ms', h1, h2.ref hx, by rw [hx.eq]; exact hg⟩
  rw [h5]
  dsimp only
  rw [h3.eq, live_intents]

theorem gcl1 {w0 w : World} {p mb q j N : Nat} {d : MD} (h : StatB w0 w p mb q j N d) (hj : j ≤ 1000) (hd : d.fits w0) :
    Calls Try.prog 21 #[.pointer (some ⟨p, 0, none⟩), .int .u64 d.ts] w fun e w' => ∃ r, e = .returned (.int .i64 r) ∧ Half w0 w' p mb q j N d (fun st => (stepL (setVs (gcV d.ts)) (keysC st) (keysC st).length st).filter liveC) (fun st => (gcCn d.ts st : Int)) r := by
  obtain ⟨z, cs, cv, ms, h1, h2, h3⟩ := h
  refine (pGc_any _ _ w p mb z cs h2.two.s (by omega) h3.live d.ts).mono ?_
  rintro e w' ⟨rfl, hp⟩
  obtain ⟨cs', h4, h5⟩ := h2.prog hp
  exact ⟨_, rfl, z, cs, cs', cv, ms, by omega, h4, h3, fun m hm => by have := h3.few h2.two.s m hm; omega, h5, rfl⟩

theorem gcl2 {w0 w : World} {p mb q j N : Nat} {d : MD} (r : Int) (h : Half w0 w p mb q j N d (fun st => (stepL (setVs (gcV d.ts)) (keysC st) (keysC st).length st).filter liveC) (fun st => (gcCn d.ts st : Int)) r) (hj : j ≤ 1000) (hd : d.fits w0) :
    Calls Try.prog 32 #[.pointer (some ⟨q, 0, none⟩), .int .u64 d.ts] w fun e w' => e = .returned (.int .i64 r) ∧ StatB w0 w' p mb q (j + 1) N d := by
  obtain ⟨z, cs, cs', cv, ms, h1, h2, h3, hv, h4, h5⟩ := h
  have hl := h3.len
  rw [List.length_map] at hl
  have hg := goes_gc h3 h4
  refine (gc_any _ w0 w q cv ms h2.two.x (by omega) (fun m hm => by have := hv m hm; omega) d.ts).mono ?_
  rintro e w' ⟨rfl, cv', ms', hx⟩
  refine ⟨?_, z, cs', cv', ms', h1, h2.ref hx, by rw [hx.eq]; exact hg⟩
  rw [h5]
  dsimp only
  rw [h3.eq, live_gcn]

end Go.Proofs.Ytfldiapdfpkdaaa

namespace Go.Proofs.Ytfldiapdfpkdaaa
open Go.RowKit NumMath Go.ChangeShapes Go.WideShapes Go.Deep
set_option linter.unusedVariables false
set_option maxRecDepth 100000

theorem results_tmp4 {fn : Func} {t u v x : Tmp} (h : fn.results = #[.tmp t, .tmp u, .tmp v, .tmp x]) (tmps : Array Value) (P : Program) (w : World) :
    (results fn tmps).run P w = .ok (.tuple #[tmps.getD t undef, tmps.getD u undef, tmps.getD v undef, tmps.getD x undef]) w := by
  simp [results, h]

def smallD (d : MD) : Bool := decide (d.kn ≤ 50 ∧ d.m.vn ≤ 100 ∧ d.m.kn ≤ 10)

/-- too many deeds, or one that is too great -/
def greatD (ds : List MD) : Bool := decide (40 < ds.length) || ds.any (fun d => !smallD d)

theorem great_at {ds : List MD} {j : Nat} {d : MD} (h : ds[j]? = some d) (hd : smallD d = false) : greatD ds = true := by
  unfold greatD
  rw [Bool.or_eq_true]
  right
  exact List.any_eq_true.2 ⟨d, List.mem_of_getElem? h, by rw [hd]; rfl⟩

theorem great_not {ds : List MD} (hl : ds.length ≤ 40) (h : ∀ i d, i < ds.length → ds[i]? = some d → smallD d = true) : greatD ds = false := by
  unfold greatD
  rw [Bool.or_eq_false_iff]
  refine ⟨by simpa using hl, ?_⟩
  cases e : ds.any (fun d => !smallD d) with
  | false => rfl
  | true =>
    obtain ⟨d, hd, h1⟩ := List.any_eq_true.1 e
    obtain ⟨i, hi, h2⟩ := List.getElem_of_mem hd
    rw [h i d hi (by rw [List.getElem?_eq_getElem hi, h2])] at h1
    cases h1

theorem stat_new {w0 w : World} {p mb : Nat} (h : IsS (fun _ => False) w0.heap.size w p mb 0 []) (hb : Below w0.heap.size w0 w) (ty : TypeId) : Stat w0 (w.alloc (.cells #[.slice none 0 0] ty)) p mb w.heap.size 0 := by
  have hr := rangeY_new w w.heap.size #[.slice none 0 0] ty rfl
  have hb1 := new_below w (.cells #[.slice none 0 0] ty)
  have hsz := hb.size
  refine ⟨0, [], .slice none 0 0, [], Nat.le_refl _, ⟨h.next (Below.keeps hb1 _) (fun k hk => ?_) (fun k hk => ?_), ⟨hr 0 _ rfl, ?_, hsz, by simp, ownY_nil _ _, by simp [Value.ownBlock], hb.trans (hb1.mono hsz), fun m hm => (by cases hm), fun k hk => ?_, fun hk => ?_, fun g hg => (by simp [Value.ownBlock] at hg)⟩⟩, ⟨List.Pairwise.nil, fun c hc => (by cases hc), rfl, Nat.le_refl _, fun c hc => (by cases hc)⟩⟩
  · rcases hk with rfl | hk
    · exact .inr (Nat.le_refl _)
    · simp [Value.ownBlock] at hk
  · rcases hk with rfl | hk
    · simp
    · simp [Value.ownBlock] at hk
  · have e := World.ownsRow.frozenAt (ownY_one (L := layT) (w := w) w.heap.size #[.slice none 0 0] ⟨[], none, 0, 0⟩ (Nat.le_refl _) rfl) 0
    rw [frozen?_alloc_cells] at e ⊢
    exact e
  · have := h.lt
    have := fun hk => h.mlt (k := k) hk
    rcases hk with rfl | hk
    · simp; omega
    · have := this hk; simp; omega
  · rcases hk with hk | hk
    · have := h.lt; omega
    · have := h.mlt hk; omega

theorem fitsD {w0 : World} {d : MD} (h : d.ok w0) (h1 : d.kn ≤ 50) (h2 : d.m.vn ≤ 100 ∧ d.m.kn ≤ 10) : d.fits w0 := ⟨h, h1, h2.1, h2.2⟩

theorem cellsD {w : World} {g off : Nat} {l : List MD} (h : CellsY layD w g off l) {i : Nat} {d : MD} (hx : l[i]? = some d) : w.rangeAt g (off + i * 8) (layD.cells d) := h i d hx

/-- what is told of both -/
def BothP (w : World) (ds : List MD) (e : Ending) (w' : World) : Prop := ∃ p mb q j, e = .returned (.tuple #[.pointer (some ⟨p, 0, none⟩), .pointer (some ⟨q, 0, none⟩), .bool true, .bool (greatD ds)]) ∧ (greatD ds = false → j ≤ 40 ∧ Stat w w' p mb q j) ∧ Below w.heap.size w w'

set_option maxHeartbeats 8000000 in
theorem both_any (a : Option Addr) (len cap : Nat) (ds : List MD) (w : World) (h : IsDeeds12 w a len cap ds) :
    Calls Try.prog 9 #[.slice a len cap] w fun e w' => BothP w ds e w' := by
  have HD := hide h.2
  have hI := h.1
  have H := hide hI
  have HL := hide hI.1
  have hlc := hI.2.1
  have hm : (cap : Int) ≤ 9223372036854775807 := by have := hI.2.2.1; unfold maxLen at this; omega
  clear h hI
  have HN := hide (pnew_any (fun _ => False) w.heap.size w (Nat.le_refl _) (fun _ h => h.elim))
  go_enter Try.func9, Try.ntmps9
  by_cases hl40 : 40 < len
  · have hl40' : (40 : Int) < (len : Int) := by omega
    go_wp2_with (first
      | (go_at_call 25; refine HN.out.mono ?_; rintro e w1 ⟨p, mb, rfl, hS1, hb1, -, -⟩; have HS1 := hide hS1; have HB1 := hide hb1; clear hS1 hb1))
    (try simp only [Exit.inBlock, Exit.then]); refine bodyPost_ret (results_tmp4 rfl _ _ _) rfl ?_
    have hg : greatD ds = true := by unfold greatD; rw [HL.out]; simp [hl40]
    unfold BothP
    exact ⟨p, mb, w1.heap.size, 0, by rw [hg]; rfl, (fun h => by rw [hg] at h; cases h), HB1.out.trans ((new_below _ _).mono HB1.out.size)⟩
  have hl40' : ¬ (40 : Int) < (len : Int) := by omega
  go_wp2_with (first
    | (go_at_call 25; refine HN.out.mono ?_; rintro e w1 ⟨p, mb, rfl, hS1, hb1, -, -⟩; have HS0 := hide (stat_new hS1 hb1 59); clear hS1 hb1))
  obtain ⟨q, hq⟩ : ∃ q, q = w1.heap.size := ⟨_, rfl⟩
  rw [← hq] at HS0 ⊢
  clear hq
  go_loopg [20] len (fun gk i wr => ∃ (j : Nat), gk = len - j ∧ i = .int .i64 j ∧ j ≤ len ∧ j ≤ 40 ∧ Stat w wr p mb q j ∧ ∀ i d, i < j → ds[i]? = some d → smallD d = true)
  case atStart => exact ⟨0, rfl, rfl, Nat.zero_le _, Nat.zero_le _, HS0.out, fun i d hi => by omega⟩
  case round =>
    obtain ⟨j, rfl, rfl, hj, hj0, hS, hsm⟩ := hrel
    have HS := hide hS
    have HSo := hide hsm
    clear hS hsm
    by_cases hlt : j < len
    · have hlt' : (j : Int) < (len : Int) := by omega
      have hj40 : j + 1 ≤ 40 := by omega
      obtain ⟨d, hd⟩ : ∃ d, ds[j]? = some d := ⟨_, List.getElem?_eq_getElem (by rw [HL.out]; exact hlt)⟩
      obtain ⟨g0, off0, rfl, hg0, hC0⟩ := H.out.at hlt
      have HCe := hide (rangeY_same (cellsD hC0 hd) (HS.out.below.block g0 hg0))
      have HOk := hide (HD.out d (List.mem_of_getElem? hd))
      have HSB := hide (statB_new HS.out d 61)
      have HDj := hide hd
      clear hC0 hd
      by_cases hk : ¬ d.kn ≤ 50
      · have hk' : (50 : Int) < (d.kn : Int) := by omega
        go_wp2_with (first
          | (refine wp_loadY layD _ _ Try.underlying61 rfl rfl (.tmp 22) rfl g0 (off0 + j * 8) d #[.int .i64 d.kd, .slice d.ka d.kn d.kc, .int .u64 d.m.v.ts, .int .u64 d.m.v.tx, .bool d.m.v.dd, .slice d.m.va d.m.vn d.m.vc, .slice d.m.ka d.m.kn d.m.kc, .int .u64 d.ts] rfl rfl HCe.out ?_))
        (try simp only [Exit.inBlock, Exit.then]); refine bodyPost_ret (results_tmp4 rfl _ _ _) rfl ?_
        have hg := great_at HDj.out (by unfold smallD; simp; omega)
        unfold BothP
        exact ⟨p, mb, q, 0, by rw [hg]; rfl, (fun h => by rw [hg] at h; cases h), HSB.out.below⟩
      have hk := Classical.not_not.1 hk
      have hk' : ¬ (50 : Int) < (d.kn : Int) := by omega
      by_cases hv : ¬ (d.m.vn ≤ 100 ∧ d.m.kn ≤ 10)
      · have HSmv : Hid (decide (d.m.vn ≤ 100 ∧ d.m.kn ≤ 10) = false) := decide_eq_false hv
        go_wp2_with (first
          | (go_at_call 23; refine (smallV_any d.m _).mono ?_; rintro e ws ⟨rfl, hbs⟩; rw [HSmv.out]; have HB1 := hide (HSB.out.keep hbs); obtain ⟨b0, b1, b2, b3, b4, b5, b6, b7, blt⟩ := HB1.out.box; clear hbs)
          | (refine wp_loadY layD _ _ Try.underlying61 rfl rfl (.tmp 22) rfl g0 (off0 + j * 8) d #[.int .i64 d.kd, .slice d.ka d.kn d.kc, .int .u64 d.m.v.ts, .int .u64 d.m.v.tx, .bool d.m.v.dd, .slice d.m.va d.m.vn d.m.vc, .slice d.m.ka d.m.kn d.m.kc, .int .u64 d.ts] rfl rfl HCe.out ?_))
        (try simp only [Exit.inBlock, Exit.then]); refine bodyPost_ret (results_tmp4 rfl _ _ _) rfl ?_
        have hg := great_at HDj.out (by unfold smallD; rw [decide_eq_false]; exact fun e => hv e.2)
        unfold BothP
        exact ⟨p, mb, q, 0, by rw [hg]; rfl, (fun h => by rw [hg] at h; cases h), HB1.out.below⟩
      have hv := Classical.not_not.1 hv
      have HSmv : Hid (decide (d.m.vn ≤ 100 ∧ d.m.kn ≤ 10) = true) := decide_eq_true hv
      have HFi := hide (fitsD HOk.out hk hv)
      have HSm : Hid (∀ i d, i < j + 1 → ds[i]? = some d → smallD d = true) := by
        intro i x hi hx
        by_cases e : i = j
        · subst e
          rw [HDj.out] at hx
          cases hx
          exact decide_eq_true ⟨hk, hv⟩
        · exact HSo.out i x (by omega) hx
      clear hv hk
      by_cases k0 : d.kd = 0
      · have k0' : (d.kd == 0) = true := by simp [k0]
        clear k0
        go_wp2_with (first
          | (go_at_call 26; refine (put2 HH.out (by omega) HFi.out).mono ?_; rintro e w3 ⟨rfl, h3⟩; have H3 := hide h3; clear h3)
          | (go_at_call 24; refine (put1 HB1.out (by omega) HFi.out).mono ?_; rintro e w2 ⟨rfl, hh⟩; have HH := hide hh; obtain ⟨m0, m1, m2, m3, m4, m5, m6, m7, -⟩ := hh.box; clear hh)
          | (go_at_call 23; refine (smallV_any d.m _).mono ?_; rintro e ws ⟨rfl, hbs⟩; rw [HSmv.out]; have HB1 := hide (HSB.out.keep hbs); obtain ⟨b0, b1, b2, b3, b4, b5, b6, b7, blt⟩ := HB1.out.box; clear hbs)
          | (refine wp_loadY layD _ _ Try.underlying61 rfl rfl (.tmp 22) rfl g0 (off0 + j * 8) d #[.int .i64 d.kd, .slice d.ka d.kn d.kc, .int .u64 d.m.v.ts, .int .u64 d.m.v.tx, .bool d.m.v.dd, .slice d.m.va d.m.vn d.m.vc, .slice d.m.ka d.m.kn d.m.kc, .int .u64 d.ts] rfl rfl HCe.out ?_))
        go_roundg (len - (j + 1))
        case measure => omega
        case rel => exact ⟨j + 1, rfl, by go_num, by omega, hj40, H3.out.stat, HSm.out⟩
      have k0' : (d.kd == 0) = false := by simp [k0]
      clear k0
      by_cases k1 : d.kd = 1
      · have k1' : (d.kd == 1) = true := by simp [k1]
        clear k1
        go_wp2_with (first
          | (go_at_call 23; refine (smallV_any d.m _).mono ?_; rintro e ws ⟨rfl, hbs⟩; rw [HSmv.out]; have HB1 := hide (HSB.out.keep hbs); obtain ⟨b0, b1, b2, b3, b4, b5, b6, b7, blt⟩ := HB1.out.box; clear hbs)
          | (refine wp_loadY layD _ _ Try.underlying61 rfl rfl (.tmp 22) rfl g0 (off0 + j * 8) d #[.int .i64 d.kd, .slice d.ka d.kn d.kc, .int .u64 d.m.v.ts, .int .u64 d.m.v.tx, .bool d.m.v.dd, .slice d.m.va d.m.vn d.m.vc, .slice d.m.ka d.m.kn d.m.kc, .int .u64 d.ts] rfl rfl HCe.out ?_))
        have n1 : ws.drew.cell? ⟨wr.heap.size, 1, none⟩ = some (.slice d.ka d.kn d.kc) := b1
        have n2 : ws.drew.cell? ⟨wr.heap.size, 2, none⟩ = some (.int .u64 d.m.v.ts) := b2
        have n3 : ws.drew.cell? ⟨wr.heap.size, 3, none⟩ = some (.int .u64 d.m.v.tx) := b3
        have n4 : ws.drew.cell? ⟨wr.heap.size, 4, none⟩ = some (.bool d.m.v.dd) := b4
        have n5 : ws.drew.cell? ⟨wr.heap.size, 5, none⟩ = some (.slice d.m.va d.m.vn d.m.vc) := b5
        have n6 : ws.drew.cell? ⟨wr.heap.size, 6, none⟩ = some (.slice d.m.ka d.m.kn d.m.kc) := b6
        go_region_held3 (fun W => W.cell? ⟨wr.heap.size, 1, none⟩ = some (.slice d.ka d.kn d.kc) ∧ W.cell? ⟨wr.heap.size, 2, none⟩ = some (.int .u64 d.m.v.ts) ∧ W.cell? ⟨wr.heap.size, 3, none⟩ = some (.int .u64 d.m.v.tx) ∧ W.cell? ⟨wr.heap.size, 4, none⟩ = some (.bool d.m.v.dd) ∧ W.cell? ⟨wr.heap.size, 5, none⟩ = some (.slice d.m.va d.m.vn d.m.vc) ∧ W.cell? ⟨wr.heap.size, 6, none⟩ = some (.slice d.m.ka d.m.kn d.m.kc)) (first | with_reducible exact ⟨n1, n2, n3, n4, n5, n6⟩) (first
          | (go_at_call 28; refine (int2 r HH.out (by omega) HFi.out).mono ?_; rintro e w3 ⟨rfl, h3⟩; have H3 := hide h3; obtain ⟨m0, m1, m2, m3, m4, m5, m6, m7, -⟩ := h3.box; have n1 := m1; have n2 := m2; have n3 := m3; have n4 := m4; have n5 := m5; have n6 := m6; clear h3)
          | (go_at_call 27; refine (int1 (HB1.out.keep (Below.refl _ ws).drew) (by omega) HFi.out).mono ?_; rintro e w2 ⟨r, rfl, hh⟩; have HH := hide hh; obtain ⟨m0, m1, m2, m3, m4, m5, m6, m7, -⟩ := hh.box; have n1 := m1; have n2 := m2; have n3 := m3; have n4 := m4; have n5 := m5; have n6 := m6; clear hh))
        all_goals
          go_wp2
          go_roundg (len - (j + 1))
          case measure => omega
          case rel => exact ⟨j + 1, rfl, by go_num, by omega, hj40, H3.out.stat, HSm.out⟩
      have k1' : (d.kd == 1) = false := by simp [k1]
      clear k1
      by_cases k2 : d.kd = 2
      · have k2' : (d.kd == 2) = true := by simp [k2]
        clear k2
        go_wp2_with (first
          | (go_at_call 23; refine (smallV_any d.m _).mono ?_; rintro e ws ⟨rfl, hbs⟩; rw [HSmv.out]; have HB1 := hide (HSB.out.keep hbs); obtain ⟨b0, b1, b2, b3, b4, b5, b6, b7, blt⟩ := HB1.out.box; clear hbs)
          | (refine wp_loadY layD _ _ Try.underlying61 rfl rfl (.tmp 22) rfl g0 (off0 + j * 8) d #[.int .i64 d.kd, .slice d.ka d.kn d.kc, .int .u64 d.m.v.ts, .int .u64 d.m.v.tx, .bool d.m.v.dd, .slice d.m.va d.m.vn d.m.vc, .slice d.m.ka d.m.kn d.m.kc, .int .u64 d.ts] rfl rfl HCe.out ?_))
        have n3 : ws.drew.cell? ⟨wr.heap.size, 3, none⟩ = some (.int .u64 d.m.v.tx) := b3
        have n7 : ws.drew.cell? ⟨wr.heap.size, 7, none⟩ = some (.int .u64 d.ts) := b7
        go_region_held3 (fun W => W.cell? ⟨wr.heap.size, 3, none⟩ = some (.int .u64 d.m.v.tx) ∧ W.cell? ⟨wr.heap.size, 7, none⟩ = some (.int .u64 d.ts)) (first | with_reducible exact ⟨n3, n7⟩) (first
          | (go_at_call 29; refine (trn2 r HH.out (by omega) HFi.out).mono ?_; rintro e w3 ⟨rfl, h3⟩; have H3 := hide h3; obtain ⟨m0, m1, m2, m3, m4, m5, m6, m7, -⟩ := h3.box; have n3 := m3; have n7 := m7; clear h3)
          | (go_at_call 22; refine (trn1 (HB1.out.keep (Below.refl _ ws).drew) (by omega) HFi.out).mono ?_; rintro e w2 ⟨r, rfl, hh⟩; have HH := hide hh; obtain ⟨m0, m1, m2, m3, m4, m5, m6, m7, -⟩ := hh.box; have n3 := m3; have n7 := m7; clear hh))
        all_goals
          go_wp2
          go_roundg (len - (j + 1))
          case measure => omega
          case rel => exact ⟨j + 1, rfl, by go_num, by omega, hj40, H3.out.stat, HSm.out⟩
      have k2' : (d.kd == 2) = false := by simp [k2]
      clear k2
      by_cases k3 : d.kd = 3
      · have k3' : (d.kd == 3) = true := by simp [k3]
        clear k3
        go_wp2_with (first
          | (go_at_call 23; refine (smallV_any d.m _).mono ?_; rintro e ws ⟨rfl, hbs⟩; rw [HSmv.out]; have HB1 := hide (HSB.out.keep hbs); obtain ⟨b0, b1, b2, b3, b4, b5, b6, b7, blt⟩ := HB1.out.box; clear hbs)
          | (refine wp_loadY layD _ _ Try.underlying61 rfl rfl (.tmp 22) rfl g0 (off0 + j * 8) d #[.int .i64 d.kd, .slice d.ka d.kn d.kc, .int .u64 d.m.v.ts, .int .u64 d.m.v.tx, .bool d.m.v.dd, .slice d.m.va d.m.vn d.m.vc, .slice d.m.ka d.m.kn d.m.kc, .int .u64 d.ts] rfl rfl HCe.out ?_))
        have n3 : ws.drew.cell? ⟨wr.heap.size, 3, none⟩ = some (.int .u64 d.m.v.tx) := b3
        go_region_held3 (fun W => W.cell? ⟨wr.heap.size, 3, none⟩ = some (.int .u64 d.m.v.tx)) (first | with_reducible exact n3) (first
          | (go_at_call 31; refine (drp2 r HH.out (by omega) HFi.out).mono ?_; rintro e w3 ⟨rfl, h3⟩; have H3 := hide h3; obtain ⟨m0, m1, m2, m3, m4, m5, m6, m7, -⟩ := h3.box; have n3 := m3; clear h3)
          | (go_at_call 30; refine (drp1 (HB1.out.keep (Below.refl _ ws).drew) (by omega) HFi.out).mono ?_; rintro e w2 ⟨r, rfl, hh⟩; have HH := hide hh; obtain ⟨m0, m1, m2, m3, m4, m5, m6, m7, -⟩ := hh.box; have n3 := m3; clear hh))
        all_goals
          go_wp2
          go_roundg (len - (j + 1))
          case measure => omega
          case rel => exact ⟨j + 1, rfl, by go_num, by omega, hj40, H3.out.stat, HSm.out⟩
      have k3' : (d.kd == 3) = false := by simp [k3]
      clear k3
      go_wp2_with (first
        | (go_at_call 23; refine (smallV_any d.m _).mono ?_; rintro e ws ⟨rfl, hbs⟩; rw [HSmv.out]; have HB1 := hide (HSB.out.keep hbs); obtain ⟨b0, b1, b2, b3, b4, b5, b6, b7, blt⟩ := HB1.out.box; clear hbs)
        | (refine wp_loadY layD _ _ Try.underlying61 rfl rfl (.tmp 22) rfl g0 (off0 + j * 8) d #[.int .i64 d.kd, .slice d.ka d.kn d.kc, .int .u64 d.m.v.ts, .int .u64 d.m.v.tx, .bool d.m.v.dd, .slice d.m.va d.m.vn d.m.vc, .slice d.m.ka d.m.kn d.m.kc, .int .u64 d.ts] rfl rfl HCe.out ?_))
      have n7 : ws.drew.cell? ⟨wr.heap.size, 7, none⟩ = some (.int .u64 d.ts) := b7
      go_region_held3 (fun W => W.cell? ⟨wr.heap.size, 7, none⟩ = some (.int .u64 d.ts)) (first | with_reducible exact n7) (first
        | (go_at_call 32; refine (gcl2 r HH.out (by omega) HFi.out).mono ?_; rintro e w3 ⟨rfl, h3⟩; have H3 := hide h3; obtain ⟨m0, m1, m2, m3, m4, m5, m6, m7, -⟩ := h3.box; have n7 := m7; clear h3)
        | (go_at_call 21; refine (gcl1 (HB1.out.keep (Below.refl _ ws).drew) (by omega) HFi.out).mono ?_; rintro e w2 ⟨r, rfl, hh⟩; have HH := hide hh; obtain ⟨m0, m1, m2, m3, m4, m5, m6, m7, -⟩ := hh.box; have n7 := m7; clear hh))
      all_goals
        go_wp2
        go_roundg (len - (j + 1))
        case measure => omega
        case rel => exact ⟨j + 1, rfl, by go_num, by omega, hj40, H3.out.stat, HSm.out⟩
    · have hlt' : ¬ (j : Int) < (len : Int) := by omega
      go_wp2
      (try simp only [Exit.inBlock, Exit.then]); refine bodyPost_ret (results_tmp4 rfl _ _ _) rfl ?_
      have hg := great_not (ds := ds) (by rw [HL.out]; omega) (fun i d hi hd => HSo.out i d (by rw [HL.out] at hi; omega) hd)
      unfold BothP
      exact ⟨p, mb, q, j, by rw [hg]; rfl, fun _ => ⟨hj0, HS.out⟩, HS.out.below⟩

end Go.Proofs.Ytfldiapdfpkdaaa

namespace Go.Proofs.Ytfldiapdfpkdaaa
open Go.RowKit NumMath Go.ChangeShapes Go.WideShapes Go.Deep
set_option linter.unusedVariables false
set_option maxRecDepth 100000

theorem MD.ok.keep {w w' : World} {d : MD} (h : d.ok w) (hb : Below w.heap.size w w') : d.ok w' := ⟨h.key.keep hb, ⟨h.m.1.keep hb, h.m.2.keep hb⟩, h.fit, h.ts⟩

theorem IsDeeds12.keep {w w' : World} {a : Option Addr} {len cap : Nat} {ds : List MD} (h : IsDeeds12 w a len cap ds) (hb : Below w.heap.size w w') : IsDeeds12 w' a len cap ds := ⟨h.1.keep hb, fun d hd => (h.2 d hd).keep hb⟩

/-- the program's store at p holds st -/
def SolS (w0 w : World) (p n : Nat) (st : List Cel) : Prop := ∃ mb z cs, z ≤ n ∧ IsS (fun _ => False) w0.heap.size w p mb z cs ∧ cs.map PC.c = st ∧ Below w0.heap.size w0 w

/-- what holds of st -/
structure GoodP (st : List Cel) : Prop where
  sort : SortC st
  live : ∀ c ∈ st, liveC c = true
  desc : ∀ c ∈ st, Desc Ver.ts c.vs

theorem SolS.keep {w0 w w' : World} {p n : Nat} {st : List Cel} (h : SolS w0 w p n st) (hb : Below w.heap.size w w') : SolS w0 w' p n st := by
  obtain ⟨mb, z, cs, h1, h2, h3, h4⟩ := h
  exact ⟨mb, z, cs, h1, h2.keep hb, h3, h4.trans (hb.mono h4.size)⟩

theorem SolS.below {w0 w : World} {p n : Nat} {st : List Cel} (h : SolS w0 w p n st) : Below w0.heap.size w0 w := by
  obtain ⟨mb, z, cs, h1, h2, h3, h4⟩ := h
  exact h4

theorem desc_pc {G : Nat → Prop} {base : Nat} {w : World} {p mb z : Nat} {cs : List PC} (h : IsS G base w p mb z cs) : ∀ c ∈ cs.map PC.c, Desc Ver.ts c.vs := by
  intro c hc
  obtain ⟨m, hm, rfl⟩ := List.mem_map.1 hc
  exact desc_map (h.go m hm).desc

theorem Stat.sol {w0 w : World} {p mb q j : Nat} (h : Stat w0 w p mb q j) (hj : j ≤ 40) : ∃ st, SolS w0 w p 80 st ∧ GoodP st := by
  obtain ⟨z, cs, cv, ms, h1, h2, h3⟩ := h
  exact ⟨_, ⟨mb, z, cs, by omega, h2.s.less (fun _ h => h.elim), rfl, h2.x.b⟩, h2.s.sort, h3.live, desc_pc h2.s⟩

theorem sol_put {w0 w : World} {p N : Nat} {st : List Cel} (h : SolS w0 w p N st) (hN : N ≤ 5000) (a : Option Addr) (n c : Nat) (key : List Int) (hk : IsBytes w a n c key) (hn : n ≤ 100000) (mv : MV) (hm : mv.ok w0) (hf : FitV mv.v) :
    Calls Try.prog 24 #[.pointer (some ⟨p, 0, none⟩), .slice a n c, .agg #[.int .u64 mv.v.ts, .int .u64 mv.v.tx, .bool mv.v.dd, .slice mv.va mv.vn mv.vc, .slice mv.ka mv.kn mv.kc]] w fun e w' => e = .returned (.tuple #[]) ∧ SolS w0 w' p (N + 2) (putC st key mv.v) := by
  obtain ⟨mb, z, cs, h1, h2, h3, h4⟩ := h
  refine (pPut_any _ _ w p mb z cs h2 (by omega) a n c key hk hn mv (foot_old hm h4 (fun k hk => h2.mlo' hk)) hf).mono ?_
  rintro e w' ⟨rfl, cs', h5, h6, h7, h8⟩
  exact ⟨rfl, mb, z + 2, cs', by omega, h5, by rw [h6, h3], h4.trans (h7.below h4.size (fun k hk => h2.mlo' hk))⟩

theorem sol_gc {w0 w : World} {p N : Nat} {st : List Cel} (h : SolS w0 w p N st) (hN : N ≤ 5000) (hg : GoodP st) (ts : Int) :
    Calls Try.prog 21 #[.pointer (some ⟨p, 0, none⟩), .int .u64 ts] w fun e w' => e = .returned (.int .i64 (gcCn ts st)) ∧ SolS w0 w' p N ((stepL (setVs (gcV ts)) (keysC st) (keysC st).length st).filter liveC) := by
  obtain ⟨mb, z, cs, h1, h2, h3, h4⟩ := h
  subst h3
  refine (pGc_any _ _ w p mb z cs h2 (by omega) hg.live ts).mono ?_
  rintro e w' ⟨rfl, cs', h5, h6, h7, h8⟩
  exact ⟨rfl, mb, z, cs', by omega, h5, h6, h4.trans (h7.below h4.size (fun k hk => h2.mlo' hk))⟩

theorem sol_at {w0 w : World} {p N : Nat} {st : List Cel} (h : SolS w0 w p N st) (hN : N ≤ 5000) (a : Option Addr) (n c : Nat) (key : List Int) (hk : IsBytes w a n c key) (hn : n ≤ 100000) (ts : Int) :
    Calls Try.prog 13 #[.pointer (some ⟨p, 0, none⟩), .slice a n c, .int .u64 ts] w fun e w' => PAtPost w (atC st key ts) e w' := by
  obtain ⟨mb, z, cs, h1, h2, h3, h4⟩ := h
  subst h3
  exact pAt_any _ _ w p mb z cs h2 (by omega) a n c key hk hn ts

end Go.Proofs.Ytfldiapdfpkdaaa
