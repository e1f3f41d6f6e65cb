/- Commands as plain values, and as bytes: what is put is read again. Commands in memory: where their lists lie. Commands that a law is handed: tables, writes, columns, whole. Printed in part by part/gen_open.py. A command's bytes, laid piece by piece: what the reference's N, i, t, flag make of them. -/
import Derived.Test.YtcgiicmmfleinaaGreatDoorLkM
import Derived.Test.YtcgiicmmfleinaaGreatDoorRwA
import Derived.Test.YtcgiicmmfleinaaGreatDoorLyT
import Derived.Test.YtcgiicmmfleinaaGreatDoorWtL
import Derived.Test.YtcgiicmmfleinaaGreatDoorOpK
namespace Go.Proofs.YtcgiicmmfleinaaGreatDoor
open Go.RowKit NumMath
set_option linter.unusedVariables false
set_option maxRecDepth 100000

structure Wrt where
  k : List Int
  d : Bool
  v : List Int
deriving DecidableEq

/-- a column: its name as bytes -/
structure Colm where
  n : List Int
  k : Int
  nn : Bool
deriving DecidableEq

structure Tbl where
  id : Int
  nm : List Int
  cs : List Colm
  ky : Int
  ix : List Int
deriving DecidableEq

structure Cmd where
  cl : Int
  sq : Int
  kd : Int
  tx : Int
  ts : Int
  fl : Bool
  lk : Lck
  lo : List Int
  hi : List Int
  txs : List Int
  ws : List Wrt
  ks : List (List Int)
  tb : Tbl
deriving DecidableEq

def flB (b : Bool) : List Int := numL (if b then 1 else 0)
def inB (i : Int) : List Int := numL (zigV i)
def txB (d : List Int) : List Int := numL (d.length : Int) ++ d
def lsB {α : Type} (f : α → List Int) (l : List α) : List Int := numL (l.length : Int) ++ l.flatMap f
def wrB (w : Wrt) : List Int := txB w.k ++ (flB w.d ++ txB w.v)
def coB (c : Colm) : List Int := txB c.n ++ (inB c.k ++ flB c.nn)
def lkB (l : Lck) : List Int := numL l.tx ++ (inB l.lv ++ (inB l.md ++ (txB l.lo ++ txB l.hi)))
def tbB (t : Tbl) : List Int := inB t.id ++ (txB t.nm ++ (lsB coB t.cs ++ (inB t.ky ++ lsB inB t.ix)))
def cmdB (c : Cmd) : List Int := numL c.cl ++ (numL c.sq ++ (inB c.kd ++ (numL c.tx ++ (numL c.ts ++ (flB c.fl ++ (lkB c.lk ++ (txB c.lo ++ (txB c.hi ++ (lsB numL c.txs ++ (lsB wrB c.ws ++ (lsB txB c.ks ++ tbB c.tb)))))))))))

def inRange (i : Int) : Prop := -9223372036854775808 ≤ i ∧ i ≤ 9223372036854775807
def u64Range (n : Int) : Prop := 0 ≤ n ∧ n ≤ 18446744073709551615

end Go.Proofs.YtcgiicmmfleinaaGreatDoor

namespace Go.Proofs.YtcgiicmmfleinaaGreatDoor
open Go.RowKit NumMath Go.ChangeShapes Go.WideShapes Go.Deep
set_option linter.unusedVariables false
set_option maxRecDepth 100000

/-- a list in memory, and what it holds -/
structure Sl (α : Type) where
  a : Option Addr
  n : Nat
  c : Nat
  xs : List α

structure MWr where
  k : MB
  d : Bool
  v : MB

def layWr : Lay MWr where
  e := 71
  t := 43
  k := 3
  bys := 56
  z := .agg #[.slice none 0 0, .bool false, .slice none 0 0]
  cells := fun m => [.slice m.k.a m.k.n m.k.c, .bool m.d, .slice m.v.a m.v.n m.v.c]
  len := fun _ => rfl
  one := by intro x u hu; simp at hu; rcases hu with rfl | rfl | rfl <;> rfl
  pos := by decide
  few := by decide
  und := Tryz.underlying43
  info := by kernel_rfl
  zs := rfl

def layCo : Lay Colm where
  e := 73
  t := 45
  k := 3
  bys := 32
  z := .agg #[.string ⟨#[]⟩, .int .i64 0, .bool false]
  cells := fun m => [.string (strB m.n), .int .i64 m.k, .bool m.nn]
  len := fun _ => rfl
  one := by intro x u hu; simp at hu; rcases hu with rfl | rfl | rfl <;> rfl
  pos := by decide
  few := by decide
  und := Tryz.underlying45
  info := by kernel_rfl
  zs := rfl

def layIx : Lay Int where
  e := 3
  t := 46
  k := 1
  bys := 8
  z := .int .i64 0
  cells := fun n => [.int .i64 n]
  len := fun _ => rfl
  one := by intro x u hu; simp at hu; subst hu; rfl
  pos := by decide
  few := by decide
  und := Tryz.underlying46
  info := by kernel_rfl
  zs := rfl

/-- a table's columns and places, where they lie -/
structure MTb where
  id : Int
  nm : List Int
  cs : Sl Colm
  ky : Int
  ix : Sl Int

def MTb.t (m : MTb) : Tbl := ⟨m.id, m.nm, m.cs.xs, m.ky, m.ix.xs⟩

def layTb : Lay MTb where
  e := 48
  t := 36
  k := 5
  bys := 80
  z := .agg #[.int .i64 0, .string ⟨#[]⟩, .slice none 0 0, .int .i64 0, .slice none 0 0]
  cells := fun m => [.int .i64 m.id, .string (strB m.nm), .slice m.cs.a m.cs.n m.cs.c, .int .i64 m.ky, .slice m.ix.a m.ix.n m.ix.c]
  len := fun _ => rfl
  one := by intro x u hu; simp at hu; rcases hu with rfl | rfl | rfl | rfl | rfl <;> rfl
  pos := by decide
  few := by decide
  und := Tryz.underlying36
  info := by kernel_rfl
  zs := rfl

/-- a command, and where its lists lie -/
structure MCmd where
  cl : Int
  sq : Int
  kd : Int
  tx : Int
  ts : Int
  fl : Bool
  lk : ML
  lo : MB
  hi : MB
  txs : Sl Int
  ws : Sl MWr
  ks : Sl MB
  tb : MTb

def MWr.w (m : MWr) : Wrt := ⟨m.k.t, m.d, m.v.t⟩
def MCmd.c (m : MCmd) : Cmd := ⟨m.cl, m.sq, m.kd, m.tx, m.ts, m.fl, m.lk.l, m.lo.t, m.hi.t, m.txs.xs, m.ws.xs.map MWr.w, m.ks.xs.map MB.t, m.tb.t⟩

def layCm : Lay MCmd where
  e := 50
  t := 22
  k := 21
  bys := 320
  z := .agg #[.int .u64 0, .int .u64 0, .int .i64 0, .int .u64 0, .int .u64 0, .bool false, .int .u64 0, .int .i64 0, .int .i64 0, .slice none 0 0, .slice none 0 0, .slice none 0 0, .slice none 0 0, .slice none 0 0, .slice none 0 0, .slice none 0 0, .int .i64 0, .string ⟨#[]⟩, .slice none 0 0, .int .i64 0, .slice none 0 0]
  cells := fun m => [.int .u64 m.cl, .int .u64 m.sq, .int .i64 m.kd, .int .u64 m.tx, .int .u64 m.ts, .bool m.fl, .int .u64 m.lk.l.tx, .int .i64 m.lk.l.lv, .int .i64 m.lk.l.md, .slice m.lk.la m.lk.ln m.lk.lc, .slice m.lk.ha m.lk.hn m.lk.hc, .slice m.lo.a m.lo.n m.lo.c, .slice m.hi.a m.hi.n m.hi.c, .slice m.txs.a m.txs.n m.txs.c, .slice m.ws.a m.ws.n m.ws.c, .slice m.ks.a m.ks.n m.ks.c, .int .i64 m.tb.id, .string (strB m.tb.nm), .slice m.tb.cs.a m.tb.cs.n m.tb.cs.c, .int .i64 m.tb.ky, .slice m.tb.ix.a m.tb.ix.n m.tb.ix.c]
  len := fun _ => rfl
  one := by intro x u hu; simp at hu; rcases hu with rfl | rfl | rfl | rfl | rfl | rfl | rfl | rfl | rfl | rfl | rfl | rfl | rfl | rfl | rfl | rfl | rfl | rfl | rfl | rfl | rfl <;> rfl
  pos := by decide
  few := by decide
  und := Tryz.underlying22
  info := by kernel_rfl
  zs := rfl

def MB.is (w : World) (m : MB) : Prop := IsBytes w m.a m.n m.c m.t
theorem MB.is.keep {w w' : World} {m : MB} (h : m.is w) (hb : Below w.heap.size w w') : m.is w' := IsBytes.keep h hb

structure MWr.ok (w : World) (m : MWr) : Prop where
  k : m.k.is w
  v : m.v.is w

theorem MWr.ok.keep {w w' : World} {m : MWr} (h : m.ok w) (hb : Below w.heap.size w w') : m.ok w' := ⟨h.k.keep hb, h.v.keep hb⟩

structure MTb.ok (w : World) (m : MTb) : Prop where
  cs : IsY layCo w m.cs.a m.cs.n m.cs.c m.cs.xs
  ix : IsY layIx w m.ix.a m.ix.n m.ix.c m.ix.xs

theorem MTb.ok.keep {w w' : World} {m : MTb} (h : m.ok w) (hb : Below w.heap.size w w') : m.ok w' := ⟨h.cs.keep hb, h.ix.keep hb⟩

structure MCmd.ok (w : World) (m : MCmd) : Prop where
  lk : m.lk.ok w
  lo : m.lo.is w
  hi : m.hi.is w
  txs : IsY layU w m.txs.a m.txs.n m.txs.c m.txs.xs
  ws : IsY layWr w m.ws.a m.ws.n m.ws.c m.ws.xs
  wok : ∀ x ∈ m.ws.xs, x.ok w
  ks : IsY layT w m.ks.a m.ks.n m.ks.c m.ks.xs
  kok : ∀ x ∈ m.ks.xs, x.is w
  tb : m.tb.ok w

theorem MCmd.ok.keep {w w' : World} {m : MCmd} (h : m.ok w) (hb : Below w.heap.size w w') : m.ok w' :=
  ⟨h.lk.keep hb, h.lo.keep hb, h.hi.keep hb, h.txs.keep hb, h.ws.keep hb, fun x hx => (h.wok x hx).keep hb, h.ks.keep hb, fun x hx => (h.kok x hx).keep hb, h.tb.keep hb⟩

end Go.Proofs.YtcgiicmmfleinaaGreatDoor

namespace Go.Proofs.YtcgiicmmfleinaaGreatDoor
open Go.RowKit NumMath Go.ChangeShapes Go.WideShapes Go.Deep
set_option linter.unusedVariables false
set_option maxRecDepth 100000

theorem i64_wf {x : Int} (h : (Lit.int .i64 x).wf = true) : inRange x := wf_i64 h

/-- a text no longer than a call can be handed -/
def MB.handed (m : MB) (w : World) : Prop := m.is w ∧ m.n ≤ 140737488355328

theorem cellsH {w : World} {base k : Nat} {ad : Addr} {t : TypeId} {cs' : List Value} (h : w.cells? base (ad.add k) (Tryz.prog.cellsOf t) = some cs') : cs'.length = Tryz.prog.cellsOf t := (World.cells?_some h).2.1

theorem list_1 {α : Type} {cs : List α} (h : cs.length = 1) : ∃ c0, cs = [c0] := by
  match cs, h with
  | [c0], _ => exact ⟨c0, rfl⟩

theorem list_3 {α : Type} {cs : List α} (h : cs.length = 3) : ∃ c0 c1 c2, cs = [c0, c1, c2] := by
  match cs, h with
  | [c0, c1, c2], _ => exact ⟨c0, c1, c2, rfl⟩

theorem list_5 {α : Type} {cs : List α} (h : cs.length = 5) : ∃ c0 c1 c2 c3 c4, cs = [c0, c1, c2, c3, c4] := by
  match cs, h with
  | [c0, c1, c2, c3, c4], _ => exact ⟨c0, c1, c2, c3, c4, rfl⟩

theorem list_21 {α : Type} {cs : List α} (h : cs.length = 21) : ∃ c0 c1 c2 c3 c4 c5 c6 c7 c8 c9 c10 c11 c12 c13 c14 c15 c16 c17 c18 c19 c20, cs = [c0, c1, c2, c3, c4, c5, c6, c7, c8, c9, c10, c11, c12, c13, c14, c15, c16, c17, c18, c19, c20] := by
  match cs, h with
  | [c0, c1, c2, c3, c4, c5, c6, c7, c8, c9, c10, c11, c12, c13, c14, c15, c16, c17, c18, c19, c20], _ => exact ⟨c0, c1, c2, c3, c4, c5, c6, c7, c8, c9, c10, c11, c12, c13, c14, c15, c16, c17, c18, c19, c20, rfl⟩

theorem open_u64L {H : Type} {enc : TypeId × Value → H} {w : World} {base : Nat} {spare : Nat → Bool} {held : Bool} {fuel : Nat} {a : Option Addr} {len cap : Nat} {x : DataW H × List MemPlace}
    (h : DataW.trod enc Tryz.prog w base spare held fuel 42 [.slice a len cap] = some x) (hw : Wt 42 x.1) : ∃ ms, IsY layU w a len cap ms ∧ (∀ m ∈ ms, U64 m) ∧ len * 8 ≤ 140737488355328 := by
  have hr : len * Tryz.prog.bytesOf 31 ≤ reachBytes := (wt_slice Tryz.underlying42 h hw).1
  rw [show Tryz.prog.bytesOf 31 = 8 by kernel_rfl] at hr
  have hq : reachBytes ≤ 140737488355328 := by decide
  obtain ⟨ms, h1, h2⟩ := openY layU 0 (show Tryz.prog.cellsOf layU.e = 1 by kernel_rfl) (slice_lens Tryz.underlying42 h).1 (fun m => U64 m) (fun i hi => by
    obtain ⟨ad, cs', n, y, e, g1, g2, g3⟩ := (wt_slice Tryz.underlying42 h hw).2 i hi
    have hl := cellsH g1
    rw [show Tryz.prog.cellsOf 31 = 1 by kernel_rfl] at hl
    obtain ⟨c0, rfl⟩ := list_1 hl
    obtain ⟨n0, e0, _, f0⟩ := DataW.trod_int Tryz.underlying31 g2
    simp at e0
    subst e0
    exact ⟨ad, _, n0, e, g1, u64_wf f0, rfl⟩)
  exact ⟨ms, h1, h2, by omega⟩

theorem open_ixL {H : Type} {enc : TypeId × Value → H} {w : World} {base : Nat} {spare : Nat → Bool} {held : Bool} {fuel : Nat} {a : Option Addr} {len cap : Nat} {x : DataW H × List MemPlace}
    (h : DataW.trod enc Tryz.prog w base spare held fuel 46 [.slice a len cap] = some x) (hw : Wt 46 x.1) : ∃ ms, IsY layIx w a len cap ms ∧ (∀ m ∈ ms, inRange m) ∧ len * 8 ≤ 140737488355328 := by
  have hr : len * Tryz.prog.bytesOf 3 ≤ reachBytes := (wt_slice Tryz.underlying46 h hw).1
  rw [show Tryz.prog.bytesOf 3 = 8 by kernel_rfl] at hr
  have hq : reachBytes ≤ 140737488355328 := by decide
  obtain ⟨ms, h1, h2⟩ := openY layIx 0 (show Tryz.prog.cellsOf layIx.e = 1 by kernel_rfl) (slice_lens Tryz.underlying46 h).1 (fun m => inRange m) (fun i hi => by
    obtain ⟨ad, cs', n, y, e, g1, g2, g3⟩ := (wt_slice Tryz.underlying46 h hw).2 i hi
    have hl := cellsH g1
    rw [show Tryz.prog.cellsOf 3 = 1 by kernel_rfl] at hl
    obtain ⟨c0, rfl⟩ := list_1 hl
    obtain ⟨n0, e0, _, f0⟩ := DataW.trod_int Tryz.underlying3 g2
    simp at e0
    subst e0
    exact ⟨ad, _, n0, e, g1, i64_wf f0, rfl⟩)
  exact ⟨ms, h1, h2, by omega⟩

theorem open_txL {H : Type} {enc : TypeId × Value → H} {w : World} {base : Nat} {spare : Nat → Bool} {held : Bool} {fuel : Nat} {a : Option Addr} {len cap : Nat} {x : DataW H × List MemPlace}
    (h : DataW.trod enc Tryz.prog w base spare held fuel 44 [.slice a len cap] = some x) (hw : Wt 44 x.1) : ∃ ms, IsY layT w a len cap ms ∧ (∀ m ∈ ms, m.handed w) ∧ len * 24 ≤ 140737488355328 := by
  have hr : len * Tryz.prog.bytesOf 39 ≤ reachBytes := (wt_slice Tryz.underlying44 h hw).1
  rw [show Tryz.prog.bytesOf 39 = 24 by kernel_rfl] at hr
  have hq : reachBytes ≤ 140737488355328 := by decide
  obtain ⟨ms, h1, h2⟩ := openY layT ⟨[], none, 0, 0⟩ (show Tryz.prog.cellsOf layT.e = 1 by kernel_rfl) (slice_lens Tryz.underlying44 h).1 (fun m => m.handed w) (fun i hi => by
    obtain ⟨ad, cs', n, y, e, g1, g2, g3⟩ := (wt_slice Tryz.underlying44 h hw).2 i hi
    have hl := cellsH g1
    rw [show Tryz.prog.cellsOf 39 = 1 by kernel_rfl] at hl
    obtain ⟨c0, rfl⟩ := list_1 hl
    obtain ⟨b, n', c', rfl⟩ := slice_of Tryz.underlying39 g2
    obtain ⟨t, ht, hb⟩ := open_bytesK g2 g3
    exact ⟨ad, _, ⟨t, b, n', c'⟩, e, g1, ⟨ht, hb⟩, rfl⟩)
  exact ⟨ms, h1, h2, by omega⟩

def MWr.handed (m : MWr) (w : World) : Prop := m.k.handed w ∧ m.v.handed w

theorem open_wrW {H : Type} {enc : TypeId × Value → H} {w : World} {base : Nat} {spare : Nat → Bool} {held : Bool} {fuel : Nat} {c0 c1 c2 : Value} {x : DataW H × List MemPlace}
    (h : DataW.trod enc Tryz.prog w base spare held fuel 71 [c0, c1, c2] = some x) (hw : Wt 71 x.1) : ∃ m : MWr, [c0, c1, c2] = layWr.cells m ∧ m.handed w := by
  obtain ⟨xs, k, _, rfl, hl, hlen, hf⟩ := DataW.trod_struct Tryz.underlying71 h
  obtain ⟨yg0, g0, eg0⟩ := fldO (show DataW.trod enc Tryz.prog w base spare held k 39 (([c0, c1, c2].drop 0).take (Tryz.prog.cellsOf 39)) = xs[0]? from hf 0 _ rfl) (by rw [hlen]; decide)
  rw [show Tryz.prog.cellsOf 39 = 1 by kernel_rfl] at g0
  simp only [List.drop, List.take] at g0
  obtain ⟨yg1, g1, eg1⟩ := fldO (show DataW.trod enc Tryz.prog w base spare held k 4 (([c0, c1, c2].drop 1).take (Tryz.prog.cellsOf 4)) = xs[1]? from hf 1 _ rfl) (by rw [hlen]; decide)
  rw [show Tryz.prog.cellsOf 4 = 1 by kernel_rfl] at g1
  simp only [List.drop, List.take] at g1
  obtain ⟨yg2, g2, eg2⟩ := fldO (show DataW.trod enc Tryz.prog w base spare held k 39 (([c0, c1, c2].drop 2).take (Tryz.prog.cellsOf 39)) = xs[2]? from hf 2 _ rfl) (by rw [hlen]; decide)
  rw [show Tryz.prog.cellsOf 39 = 1 by kernel_rfl] at g2
  simp only [List.drop, List.take] at g2
  obtain ⟨a0, l0, p0, rfl⟩ := slice_of Tryz.underlying39 g0
  obtain ⟨t0, ht0, hl0⟩ := open_bytesK g0 (wt_field Tryz.underlying71 hw (i := 0) rfl eg0)
  obtain ⟨n1, e1, _⟩ := DataW.trod_bool Tryz.underlying4 g1
  obtain ⟨a2, l2, p2, rfl⟩ := slice_of Tryz.underlying39 g2
  obtain ⟨t2, ht2, hl2⟩ := open_bytesK g2 (wt_field Tryz.underlying71 hw (i := 2) rfl eg2)
  simp at e1
  subst e1
  refine ⟨⟨⟨t0, a0, l0, p0⟩, n1, ⟨t2, a2, l2, p2⟩⟩, ?_, ⟨ht0, hl0⟩, ⟨ht2, hl2⟩⟩
  rfl

theorem open_wrL {H : Type} {enc : TypeId × Value → H} {w : World} {base : Nat} {spare : Nat → Bool} {held : Bool} {fuel : Nat} {a : Option Addr} {len cap : Nat} {x : DataW H × List MemPlace}
    (h : DataW.trod enc Tryz.prog w base spare held fuel 43 [.slice a len cap] = some x) (hw : Wt 43 x.1) : ∃ ms, IsY layWr w a len cap ms ∧ (∀ m ∈ ms, m.handed w) ∧ len * 56 ≤ 140737488355328 := by
  have hr : len * Tryz.prog.bytesOf 71 ≤ reachBytes := (wt_slice Tryz.underlying43 h hw).1
  rw [show Tryz.prog.bytesOf 71 = 56 by kernel_rfl] at hr
  have hq : reachBytes ≤ 140737488355328 := by decide
  obtain ⟨ms, h1, h2⟩ := openY layWr ⟨⟨[], none, 0, 0⟩, false, ⟨[], none, 0, 0⟩⟩ (show Tryz.prog.cellsOf layWr.e = 3 by kernel_rfl) (slice_lens Tryz.underlying43 h).1 (fun m => m.handed w) (fun i hi => by
    obtain ⟨ad, cs', n, y, e, g1, g2, g3⟩ := (wt_slice Tryz.underlying43 h hw).2 i hi
    have hl := cellsH g1
    rw [show Tryz.prog.cellsOf 71 = 3 by kernel_rfl] at hl
    obtain ⟨c0, c1, c2, rfl⟩ := list_3 hl
    obtain ⟨m, em, hm⟩ := open_wrW g2 g3
    exact ⟨ad, _, m, e, g1, hm, em⟩)
  exact ⟨ms, h1, h2, by omega⟩

/-- a column: its name is bytes, no longer than a text may be -/
def Colm.handed (m : Colm) (w : World) : Prop := (∀ c ∈ m.n, isB c) ∧ m.n.length ≤ maxLen ∧ inRange m.k

theorem open_coW {H : Type} {enc : TypeId × Value → H} {w : World} {base : Nat} {spare : Nat → Bool} {held : Bool} {fuel : Nat} {c0 c1 c2 : Value} {x : DataW H × List MemPlace}
    (h : DataW.trod enc Tryz.prog w base spare held fuel 73 [c0, c1, c2] = some x) (hw : Wt 73 x.1) : ∃ m : Colm, [c0, c1, c2] = layCo.cells m ∧ m.handed w := by
  obtain ⟨xs, k, _, rfl, hl, hlen, hf⟩ := DataW.trod_struct Tryz.underlying73 h
  obtain ⟨yg0, g0, eg0⟩ := fldO (show DataW.trod enc Tryz.prog w base spare held k 9 (([c0, c1, c2].drop 0).take (Tryz.prog.cellsOf 9)) = xs[0]? from hf 0 _ rfl) (by rw [hlen]; decide)
  rw [show Tryz.prog.cellsOf 9 = 1 by kernel_rfl] at g0
  simp only [List.drop, List.take] at g0
  obtain ⟨yg1, g1, eg1⟩ := fldO (show DataW.trod enc Tryz.prog w base spare held k 3 (([c0, c1, c2].drop 1).take (Tryz.prog.cellsOf 3)) = xs[1]? from hf 1 _ rfl) (by rw [hlen]; decide)
  rw [show Tryz.prog.cellsOf 3 = 1 by kernel_rfl] at g1
  simp only [List.drop, List.take] at g1
  obtain ⟨yg2, g2, eg2⟩ := fldO (show DataW.trod enc Tryz.prog w base spare held k 4 (([c0, c1, c2].drop 2).take (Tryz.prog.cellsOf 4)) = xs[2]? from hf 2 _ rfl) (by rw [hlen]; decide)
  rw [show Tryz.prog.cellsOf 4 = 1 by kernel_rfl] at g2
  simp only [List.drop, List.take] at g2
  obtain ⟨n0, e0, _, f0⟩ := DataW.trod_string Tryz.underlying9 g0
  obtain ⟨n1, e1, _, f1⟩ := DataW.trod_int Tryz.underlying3 g1
  obtain ⟨n2, e2, _⟩ := DataW.trod_bool Tryz.underlying4 g2
  simp at e0 e1 e2
  subst e0 e1 e2
  refine ⟨⟨sb n0, n1, n2⟩, ?_, sb_range n0, (by rw [sb_length]; exact f0), i64_wf f1⟩
  simp [layCo, strB_sb]

theorem open_coL {H : Type} {enc : TypeId × Value → H} {w : World} {base : Nat} {spare : Nat → Bool} {held : Bool} {fuel : Nat} {a : Option Addr} {len cap : Nat} {x : DataW H × List MemPlace}
    (h : DataW.trod enc Tryz.prog w base spare held fuel 45 [.slice a len cap] = some x) (hw : Wt 45 x.1) : ∃ ms, IsY layCo w a len cap ms ∧ (∀ m ∈ ms, m.handed w) ∧ len * 32 ≤ 140737488355328 := by
  have hr : len * Tryz.prog.bytesOf 73 ≤ reachBytes := (wt_slice Tryz.underlying45 h hw).1
  rw [show Tryz.prog.bytesOf 73 = 32 by kernel_rfl] at hr
  have hq : reachBytes ≤ 140737488355328 := by decide
  obtain ⟨ms, h1, h2⟩ := openY layCo ⟨[], 0, false⟩ (show Tryz.prog.cellsOf layCo.e = 3 by kernel_rfl) (slice_lens Tryz.underlying45 h).1 (fun m => m.handed w) (fun i hi => by
    obtain ⟨ad, cs', n, y, e, g1, g2, g3⟩ := (wt_slice Tryz.underlying45 h hw).2 i hi
    have hl := cellsH g1
    rw [show Tryz.prog.cellsOf 73 = 3 by kernel_rfl] at hl
    obtain ⟨c0, c1, c2, rfl⟩ := list_3 hl
    obtain ⟨m, em, hm⟩ := open_coW g2 g3
    exact ⟨ad, _, m, e, g1, hm, em⟩)
  exact ⟨ms, h1, h2, by omega⟩

def MTb.handed (m : MTb) (w : World) : Prop := m.ok w ∧ inRange m.id ∧ inRange m.ky ∧ (∀ c ∈ m.nm, isB c) ∧ m.nm.length ≤ maxLen ∧ (∀ c ∈ m.cs.xs, c.handed w) ∧ (∀ i ∈ m.ix.xs, inRange i) ∧ m.cs.n * 32 ≤ 140737488355328 ∧ m.ix.n * 8 ≤ 140737488355328

theorem open_tbW {H : Type} {enc : TypeId × Value → H} {w : World} {base : Nat} {spare : Nat → Bool} {held : Bool} {fuel : Nat} {c0 c1 c2 c3 c4 : Value} {x : DataW H × List MemPlace}
    (h : DataW.trod enc Tryz.prog w base spare held fuel 48 [c0, c1, c2, c3, c4] = some x) (hw : Wt 48 x.1) : ∃ m : MTb, [c0, c1, c2, c3, c4] = layTb.cells m ∧ m.handed w := by
  obtain ⟨xs, k, _, rfl, hl, hlen, hf⟩ := DataW.trod_struct Tryz.underlying48 h
  obtain ⟨yg0, g0, eg0⟩ := fldO (show DataW.trod enc Tryz.prog w base spare held k 2 (([c0, c1, c2, c3, c4].drop 0).take (Tryz.prog.cellsOf 2)) = xs[0]? from hf 0 _ rfl) (by rw [hlen]; decide)
  rw [show Tryz.prog.cellsOf 2 = 1 by kernel_rfl] at g0
  simp only [List.drop, List.take] at g0
  obtain ⟨yg1, g1, eg1⟩ := fldO (show DataW.trod enc Tryz.prog w base spare held k 9 (([c0, c1, c2, c3, c4].drop 1).take (Tryz.prog.cellsOf 9)) = xs[1]? from hf 1 _ rfl) (by rw [hlen]; decide)
  rw [show Tryz.prog.cellsOf 9 = 1 by kernel_rfl] at g1
  simp only [List.drop, List.take] at g1
  obtain ⟨yg2, g2, eg2⟩ := fldO (show DataW.trod enc Tryz.prog w base spare held k 45 (([c0, c1, c2, c3, c4].drop 2).take (Tryz.prog.cellsOf 45)) = xs[2]? from hf 2 _ rfl) (by rw [hlen]; decide)
  rw [show Tryz.prog.cellsOf 45 = 1 by kernel_rfl] at g2
  simp only [List.drop, List.take] at g2
  obtain ⟨yg3, g3, eg3⟩ := fldO (show DataW.trod enc Tryz.prog w base spare held k 3 (([c0, c1, c2, c3, c4].drop 3).take (Tryz.prog.cellsOf 3)) = xs[3]? from hf 3 _ rfl) (by rw [hlen]; decide)
  rw [show Tryz.prog.cellsOf 3 = 1 by kernel_rfl] at g3
  simp only [List.drop, List.take] at g3
  obtain ⟨yg4, g4, eg4⟩ := fldO (show DataW.trod enc Tryz.prog w base spare held k 46 (([c0, c1, c2, c3, c4].drop 4).take (Tryz.prog.cellsOf 46)) = xs[4]? from hf 4 _ rfl) (by rw [hlen]; decide)
  rw [show Tryz.prog.cellsOf 46 = 1 by kernel_rfl] at g4
  simp only [List.drop, List.take] at g4
  obtain ⟨n0, e0, _, f0⟩ := DataW.trod_int Tryz.underlying2 g0
  obtain ⟨n1, e1, _, f1⟩ := DataW.trod_string Tryz.underlying9 g1
  obtain ⟨a2, l2, p2, rfl⟩ := slice_of Tryz.underlying45 g2
  obtain ⟨t2, ht2, hl2, hb2⟩ := open_coL g2 (wt_field Tryz.underlying48 hw (i := 2) rfl eg2)
  obtain ⟨n3, e3, _, f3⟩ := DataW.trod_int Tryz.underlying3 g3
  obtain ⟨a4, l4, p4, rfl⟩ := slice_of Tryz.underlying46 g4
  obtain ⟨t4, ht4, hl4, hb4⟩ := open_ixL g4 (wt_field Tryz.underlying48 hw (i := 4) rfl eg4)
  simp at e0 e1 e3
  subst e0 e1 e3
  refine ⟨⟨n0, sb n1, ⟨a2, l2, p2, t2⟩, n3, ⟨a4, l4, p4, t4⟩⟩, ?_, ⟨ht2, ht4⟩, i64_wf f0, i64_wf f3, sb_range n1, (by rw [sb_length]; exact f1), hl2, hl4, hb2, hb4⟩
  simp [layTb, strB_sb]

theorem open_tbL {H : Type} {enc : TypeId × Value → H} {w : World} {base : Nat} {spare : Nat → Bool} {held : Bool} {fuel : Nat} {a : Option Addr} {len cap : Nat} {x : DataW H × List MemPlace}
    (h : DataW.trod enc Tryz.prog w base spare held fuel 36 [.slice a len cap] = some x) (hw : Wt 36 x.1) : ∃ ms, IsY layTb w a len cap ms ∧ (∀ m ∈ ms, m.handed w) ∧ len * 80 ≤ 140737488355328 := by
  have hr : len * Tryz.prog.bytesOf 48 ≤ reachBytes := (wt_slice Tryz.underlying36 h hw).1
  rw [show Tryz.prog.bytesOf 48 = 80 by kernel_rfl] at hr
  have hq : reachBytes ≤ 140737488355328 := by decide
  obtain ⟨ms, h1, h2⟩ := openY layTb ⟨0, [], ⟨none, 0, 0, []⟩, 0, ⟨none, 0, 0, []⟩⟩ (show Tryz.prog.cellsOf layTb.e = 5 by kernel_rfl) (slice_lens Tryz.underlying36 h).1 (fun m => m.handed w) (fun i hi => by
    obtain ⟨ad, cs', n, y, e, g1, g2, g3⟩ := (wt_slice Tryz.underlying36 h hw).2 i hi
    have hl := cellsH g1
    rw [show Tryz.prog.cellsOf 48 = 5 by kernel_rfl] at hl
    obtain ⟨c0, c1, c2, c3, c4, rfl⟩ := list_5 hl
    obtain ⟨m, em, hm⟩ := open_tbW g2 g3
    exact ⟨ad, _, m, e, g1, hm, em⟩)
  exact ⟨ms, h1, h2, by omega⟩

def ML.hand2 (m : ML) (w : World) : Prop := m.handed w ∧ inRange m.l.lv ∧ inRange m.l.md

theorem open_lkW {H : Type} {enc : TypeId × Value → H} {w : World} {base : Nat} {spare : Nat → Bool} {held : Bool} {fuel : Nat} {c0 c1 c2 c3 c4 : Value} {x : DataW H × List MemPlace}
    (h : DataW.trod enc Tryz.prog w base spare held fuel 41 [c0, c1, c2, c3, c4] = some x) (hw : Wt 41 x.1) : ∃ m : ML, [c0, c1, c2, c3, c4] = layK.cells m ∧ m.hand2 w := by
  obtain ⟨xs, k, _, rfl, hl, hlen, hf⟩ := DataW.trod_struct Tryz.underlying41 h
  obtain ⟨yg0, g0, eg0⟩ := fldO (show DataW.trod enc Tryz.prog w base spare held k 31 (([c0, c1, c2, c3, c4].drop 0).take (Tryz.prog.cellsOf 31)) = xs[0]? from hf 0 _ rfl) (by rw [hlen]; decide)
  rw [show Tryz.prog.cellsOf 31 = 1 by kernel_rfl] at g0
  simp only [List.drop, List.take] at g0
  obtain ⟨yg1, g1, eg1⟩ := fldO (show DataW.trod enc Tryz.prog w base spare held k 3 (([c0, c1, c2, c3, c4].drop 1).take (Tryz.prog.cellsOf 3)) = xs[1]? from hf 1 _ rfl) (by rw [hlen]; decide)
  rw [show Tryz.prog.cellsOf 3 = 1 by kernel_rfl] at g1
  simp only [List.drop, List.take] at g1
  obtain ⟨yg2, g2, eg2⟩ := fldO (show DataW.trod enc Tryz.prog w base spare held k 3 (([c0, c1, c2, c3, c4].drop 2).take (Tryz.prog.cellsOf 3)) = xs[2]? from hf 2 _ rfl) (by rw [hlen]; decide)
  rw [show Tryz.prog.cellsOf 3 = 1 by kernel_rfl] at g2
  simp only [List.drop, List.take] at g2
  obtain ⟨yg3, g3, eg3⟩ := fldO (show DataW.trod enc Tryz.prog w base spare held k 39 (([c0, c1, c2, c3, c4].drop 3).take (Tryz.prog.cellsOf 39)) = xs[3]? from hf 3 _ rfl) (by rw [hlen]; decide)
  rw [show Tryz.prog.cellsOf 39 = 1 by kernel_rfl] at g3
  simp only [List.drop, List.take] at g3
  obtain ⟨yg4, g4, eg4⟩ := fldO (show DataW.trod enc Tryz.prog w base spare held k 39 (([c0, c1, c2, c3, c4].drop 4).take (Tryz.prog.cellsOf 39)) = xs[4]? from hf 4 _ rfl) (by rw [hlen]; decide)
  rw [show Tryz.prog.cellsOf 39 = 1 by kernel_rfl] at g4
  simp only [List.drop, List.take] at g4
  obtain ⟨n0, e0, _, f0⟩ := DataW.trod_int Tryz.underlying31 g0
  obtain ⟨n1, e1, _, f1⟩ := DataW.trod_int Tryz.underlying3 g1
  obtain ⟨n2, e2, _, f2⟩ := DataW.trod_int Tryz.underlying3 g2
  obtain ⟨a3, l3, p3, rfl⟩ := slice_of Tryz.underlying39 g3
  obtain ⟨t3, ht3, hl3⟩ := open_bytesK g3 (wt_field Tryz.underlying41 hw (i := 3) rfl eg3)
  obtain ⟨a4, l4, p4, rfl⟩ := slice_of Tryz.underlying39 g4
  obtain ⟨t4, ht4, hl4⟩ := open_bytesK g4 (wt_field Tryz.underlying41 hw (i := 4) rfl eg4)
  simp at e0 e1 e2
  subst e0 e1 e2
  refine ⟨⟨⟨n0, n1, n2, t3, t4⟩, a3, l3, p3, a4, l4, p4⟩, ?_, ⟨⟨ht3, ht4⟩, u64_wf f0, hl3, hl4⟩, i64_wf f1, i64_wf f2⟩
  rfl

/-- a command that a law is handed -/
structure MCmd.handed (m : MCmd) (w : World) : Prop where
  cl : U64 m.cl
  sq : U64 m.sq
  kd : inRange m.kd
  tx : U64 m.tx
  ts : U64 m.ts
  lk : m.lk.hand2 w
  lo : m.lo.handed w
  hi : m.hi.handed w
  txs : IsY layU w m.txs.a m.txs.n m.txs.c m.txs.xs
  txr : ∀ n ∈ m.txs.xs, U64 n
  ws : IsY layWr w m.ws.a m.ws.n m.ws.c m.ws.xs
  wok : ∀ x ∈ m.ws.xs, x.handed w
  ks : IsY layT w m.ks.a m.ks.n m.ks.c m.ks.xs
  kok : ∀ x ∈ m.ks.xs, x.handed w
  tb : m.tb.handed w

theorem open_cmW {H : Type} {enc : TypeId × Value → H} {w : World} {base : Nat} {spare : Nat → Bool} {held : Bool} {fuel : Nat} {c0 c1 c2 c3 c4 c5 c6 c7 c8 c9 c10 c11 c12 c13 c14 c15 c16 c17 c18 c19 c20 : Value} {x : DataW H × List MemPlace}
    (h : DataW.trod enc Tryz.prog w base spare held fuel 50 [c0, c1, c2, c3, c4, c5, c6, c7, c8, c9, c10, c11, c12, c13, c14, c15, c16, c17, c18, c19, c20] = some x) (hw : Wt 50 x.1) : ∃ m : MCmd, [c0, c1, c2, c3, c4, c5, c6, c7, c8, c9, c10, c11, c12, c13, c14, c15, c16, c17, c18, c19, c20] = layCm.cells m ∧ m.handed w := by
  obtain ⟨xs, k, _, rfl, hl, hlen, hf⟩ := DataW.trod_struct Tryz.underlying50 h
  obtain ⟨yg0, g0, eg0⟩ := fldO (show DataW.trod enc Tryz.prog w base spare held k 31 (([c0, c1, c2, c3, c4, c5, c6, c7, c8, c9, c10, c11, c12, c13, c14, c15, c16, c17, c18, c19, c20].drop 0).take (Tryz.prog.cellsOf 31)) = xs[0]? from hf 0 _ rfl) (by rw [hlen]; decide)
  rw [show Tryz.prog.cellsOf 31 = 1 by kernel_rfl] at g0
  simp only [List.drop, List.take] at g0
  obtain ⟨yg1, g1, eg1⟩ := fldO (show DataW.trod enc Tryz.prog w base spare held k 31 (([c0, c1, c2, c3, c4, c5, c6, c7, c8, c9, c10, c11, c12, c13, c14, c15, c16, c17, c18, c19, c20].drop 1).take (Tryz.prog.cellsOf 31)) = xs[1]? from hf 1 _ rfl) (by rw [hlen]; decide)
  rw [show Tryz.prog.cellsOf 31 = 1 by kernel_rfl] at g1
  simp only [List.drop, List.take] at g1
  obtain ⟨yg2, g2, eg2⟩ := fldO (show DataW.trod enc Tryz.prog w base spare held k 3 (([c0, c1, c2, c3, c4, c5, c6, c7, c8, c9, c10, c11, c12, c13, c14, c15, c16, c17, c18, c19, c20].drop 2).take (Tryz.prog.cellsOf 3)) = xs[2]? from hf 2 _ rfl) (by rw [hlen]; decide)
  rw [show Tryz.prog.cellsOf 3 = 1 by kernel_rfl] at g2
  simp only [List.drop, List.take] at g2
  obtain ⟨yg3, g3, eg3⟩ := fldO (show DataW.trod enc Tryz.prog w base spare held k 31 (([c0, c1, c2, c3, c4, c5, c6, c7, c8, c9, c10, c11, c12, c13, c14, c15, c16, c17, c18, c19, c20].drop 3).take (Tryz.prog.cellsOf 31)) = xs[3]? from hf 3 _ rfl) (by rw [hlen]; decide)
  rw [show Tryz.prog.cellsOf 31 = 1 by kernel_rfl] at g3
  simp only [List.drop, List.take] at g3
  obtain ⟨yg4, g4, eg4⟩ := fldO (show DataW.trod enc Tryz.prog w base spare held k 31 (([c0, c1, c2, c3, c4, c5, c6, c7, c8, c9, c10, c11, c12, c13, c14, c15, c16, c17, c18, c19, c20].drop 4).take (Tryz.prog.cellsOf 31)) = xs[4]? from hf 4 _ rfl) (by rw [hlen]; decide)
  rw [show Tryz.prog.cellsOf 31 = 1 by kernel_rfl] at g4
  simp only [List.drop, List.take] at g4
  obtain ⟨yg5, g5, eg5⟩ := fldO (show DataW.trod enc Tryz.prog w base spare held k 4 (([c0, c1, c2, c3, c4, c5, c6, c7, c8, c9, c10, c11, c12, c13, c14, c15, c16, c17, c18, c19, c20].drop 5).take (Tryz.prog.cellsOf 4)) = xs[5]? from hf 5 _ rfl) (by rw [hlen]; decide)
  rw [show Tryz.prog.cellsOf 4 = 1 by kernel_rfl] at g5
  simp only [List.drop, List.take] at g5
  obtain ⟨yg6, g6, eg6⟩ := fldO (show DataW.trod enc Tryz.prog w base spare held k 41 (([c0, c1, c2, c3, c4, c5, c6, c7, c8, c9, c10, c11, c12, c13, c14, c15, c16, c17, c18, c19, c20].drop 6).take (Tryz.prog.cellsOf 41)) = xs[6]? from hf 6 _ rfl) (by rw [hlen]; decide)
  rw [show Tryz.prog.cellsOf 41 = 5 by kernel_rfl] at g6
  simp only [List.drop, List.take] at g6
  obtain ⟨yg7, g7, eg7⟩ := fldO (show DataW.trod enc Tryz.prog w base spare held k 39 (([c0, c1, c2, c3, c4, c5, c6, c7, c8, c9, c10, c11, c12, c13, c14, c15, c16, c17, c18, c19, c20].drop 11).take (Tryz.prog.cellsOf 39)) = xs[7]? from hf 7 _ rfl) (by rw [hlen]; decide)
  rw [show Tryz.prog.cellsOf 39 = 1 by kernel_rfl] at g7
  simp only [List.drop, List.take] at g7
  obtain ⟨yg8, g8, eg8⟩ := fldO (show DataW.trod enc Tryz.prog w base spare held k 39 (([c0, c1, c2, c3, c4, c5, c6, c7, c8, c9, c10, c11, c12, c13, c14, c15, c16, c17, c18, c19, c20].drop 12).take (Tryz.prog.cellsOf 39)) = xs[8]? from hf 8 _ rfl) (by rw [hlen]; decide)
  rw [show Tryz.prog.cellsOf 39 = 1 by kernel_rfl] at g8
  simp only [List.drop, List.take] at g8
  obtain ⟨yg9, g9, eg9⟩ := fldO (show DataW.trod enc Tryz.prog w base spare held k 42 (([c0, c1, c2, c3, c4, c5, c6, c7, c8, c9, c10, c11, c12, c13, c14, c15, c16, c17, c18, c19, c20].drop 13).take (Tryz.prog.cellsOf 42)) = xs[9]? from hf 9 _ rfl) (by rw [hlen]; decide)
  rw [show Tryz.prog.cellsOf 42 = 1 by kernel_rfl] at g9
  simp only [List.drop, List.take] at g9
  obtain ⟨yg10, g10, eg10⟩ := fldO (show DataW.trod enc Tryz.prog w base spare held k 43 (([c0, c1, c2, c3, c4, c5, c6, c7, c8, c9, c10, c11, c12, c13, c14, c15, c16, c17, c18, c19, c20].drop 14).take (Tryz.prog.cellsOf 43)) = xs[10]? from hf 10 _ rfl) (by rw [hlen]; decide)
  rw [show Tryz.prog.cellsOf 43 = 1 by kernel_rfl] at g10
  simp only [List.drop, List.take] at g10
  obtain ⟨yg11, g11, eg11⟩ := fldO (show DataW.trod enc Tryz.prog w base spare held k 44 (([c0, c1, c2, c3, c4, c5, c6, c7, c8, c9, c10, c11, c12, c13, c14, c15, c16, c17, c18, c19, c20].drop 15).take (Tryz.prog.cellsOf 44)) = xs[11]? from hf 11 _ rfl) (by rw [hlen]; decide)
  rw [show Tryz.prog.cellsOf 44 = 1 by kernel_rfl] at g11
  simp only [List.drop, List.take] at g11
  obtain ⟨yg12, g12, eg12⟩ := fldO (show DataW.trod enc Tryz.prog w base spare held k 48 (([c0, c1, c2, c3, c4, c5, c6, c7, c8, c9, c10, c11, c12, c13, c14, c15, c16, c17, c18, c19, c20].drop 16).take (Tryz.prog.cellsOf 48)) = xs[12]? from hf 12 _ rfl) (by rw [hlen]; decide)
  rw [show Tryz.prog.cellsOf 48 = 5 by kernel_rfl] at g12
  simp only [List.drop, List.take] at g12
  obtain ⟨n0, e0, _, f0⟩ := DataW.trod_int Tryz.underlying31 g0
  obtain ⟨n1, e1, _, f1⟩ := DataW.trod_int Tryz.underlying31 g1
  obtain ⟨n2, e2, _, f2⟩ := DataW.trod_int Tryz.underlying3 g2
  obtain ⟨n3, e3, _, f3⟩ := DataW.trod_int Tryz.underlying31 g3
  obtain ⟨n4, e4, _, f4⟩ := DataW.trod_int Tryz.underlying31 g4
  obtain ⟨n5, e5, _⟩ := DataW.trod_bool Tryz.underlying4 g5
  obtain ⟨m6, em6, hm6⟩ := open_lkW g6 (wt_field Tryz.underlying50 hw (i := 6) rfl eg6)
  obtain ⟨a7, l7, p7, rfl⟩ := slice_of Tryz.underlying39 g7
  obtain ⟨t7, ht7, hl7⟩ := open_bytesK g7 (wt_field Tryz.underlying50 hw (i := 7) rfl eg7)
  obtain ⟨a8, l8, p8, rfl⟩ := slice_of Tryz.underlying39 g8
  obtain ⟨t8, ht8, hl8⟩ := open_bytesK g8 (wt_field Tryz.underlying50 hw (i := 8) rfl eg8)
  obtain ⟨a9, l9, p9, rfl⟩ := slice_of Tryz.underlying42 g9
  obtain ⟨t9, ht9, hl9, hb9⟩ := open_u64L g9 (wt_field Tryz.underlying50 hw (i := 9) rfl eg9)
  obtain ⟨a10, l10, p10, rfl⟩ := slice_of Tryz.underlying43 g10
  obtain ⟨t10, ht10, hl10, hb10⟩ := open_wrL g10 (wt_field Tryz.underlying50 hw (i := 10) rfl eg10)
  obtain ⟨a11, l11, p11, rfl⟩ := slice_of Tryz.underlying44 g11
  obtain ⟨t11, ht11, hl11, hb11⟩ := open_txL g11 (wt_field Tryz.underlying50 hw (i := 11) rfl eg11)
  obtain ⟨m12, em12, hm12⟩ := open_tbW g12 (wt_field Tryz.underlying50 hw (i := 12) rfl eg12)
  simp [layK] at em6
  simp [layTb] at em12
  simp at e0 e1 e2 e3 e4 e5
  obtain ⟨rfl, rfl, rfl, rfl, rfl⟩ := em6
  obtain ⟨rfl, rfl, rfl, rfl, rfl⟩ := em12
  subst e0 e1 e2 e3 e4 e5
  refine ⟨⟨n0, n1, n2, n3, n4, n5, m6, ⟨t7, a7, l7, p7⟩, ⟨t8, a8, l8, p8⟩, ⟨a9, l9, p9, t9⟩, ⟨a10, l10, p10, t10⟩, ⟨a11, l11, p11, t11⟩, m12⟩, ?_, ⟨u64_wf f0, u64_wf f1, i64_wf f2, u64_wf f3, u64_wf f4, hm6, ⟨ht7, hl7⟩, ⟨ht8, hl8⟩, ht9, hl9, ht10, hl10, ht11, hl11, hm12⟩⟩
  rfl

theorem open_cmL {H : Type} {enc : TypeId × Value → H} {w : World} {base : Nat} {spare : Nat → Bool} {held : Bool} {fuel : Nat} {a : Option Addr} {len cap : Nat} {x : DataW H × List MemPlace}
    (h : DataW.trod enc Tryz.prog w base spare held fuel 22 [.slice a len cap] = some x) (hw : Wt 22 x.1) : ∃ ms, IsY layCm w a len cap ms ∧ (∀ m ∈ ms, m.handed w) ∧ len * 320 ≤ 140737488355328 := by
  have hr : len * Tryz.prog.bytesOf 50 ≤ reachBytes := (wt_slice Tryz.underlying22 h hw).1
  rw [show Tryz.prog.bytesOf 50 = 320 by kernel_rfl] at hr
  have hq : reachBytes ≤ 140737488355328 := by decide
  obtain ⟨ms, h1, h2⟩ := openY layCm ⟨0, 0, 0, 0, 0, false, ⟨lck0, none, 0, 0, none, 0, 0⟩, ⟨[], none, 0, 0⟩, ⟨[], none, 0, 0⟩, ⟨none, 0, 0, []⟩, ⟨none, 0, 0, []⟩, ⟨none, 0, 0, []⟩, ⟨0, [], ⟨none, 0, 0, []⟩, 0, ⟨none, 0, 0, []⟩⟩⟩ (show Tryz.prog.cellsOf layCm.e = 21 by kernel_rfl) (slice_lens Tryz.underlying22 h).1 (fun m => m.handed w) (fun i hi => by
    obtain ⟨ad, cs', n, y, e, g1, g2, g3⟩ := (wt_slice Tryz.underlying22 h hw).2 i hi
    have hl := cellsH g1
    rw [show Tryz.prog.cellsOf 50 = 21 by kernel_rfl] at hl
    obtain ⟨c0, c1, c2, c3, c4, c5, c6, c7, c8, c9, c10, c11, c12, c13, c14, c15, c16, c17, c18, c19, c20, rfl⟩ := list_21 hl
    obtain ⟨m, em, hm⟩ := open_cmW g2 g3
    exact ⟨ad, _, m, e, g1, hm, em⟩)
  exact ⟨ms, h1, h2, by omega⟩

end Go.Proofs.YtcgiicmmfleinaaGreatDoor

namespace Go.Proofs.YtcgiicmmfleinaaGreatDoor
open Go.RowKit NumMath Go.ChangeShapes Go.WideShapes Go.Deep
set_option linter.unusedVariables false
set_option maxRecDepth 100000

/-- bytes of the call's own, and what is still wanted of all of them -/
def Stg (w W : World) (v : Value) (rest all : List Int) : Prop := ∃ bs, OwnB W w.heap.size v bs ∧ bs ++ rest = all ∧ Below w.heap.size w W

theorem Stg.keep {w W W' : World} {v : Value} {rest all : List Int} (h : Stg w W v rest all) (hb : Below W.heap.size W W') : Stg w W' v rest all := by
  obtain ⟨bs, hO, hE, hB⟩ := h
  exact ⟨bs, hO.keep hb, hE, hB.trans (hb.mono hB.size)⟩

theorem Stg.below {w W : World} {v : Value} {rest all : List Int} (h : Stg w W v rest all) : Below w.heap.size w W := by
  obtain ⟨_, _, _, hB⟩ := h
  exact hB

/-- a command's cells in a block -/
structure Box21 (V : World) (b : Nat) (m : MCmd) : Prop where
  c0 : V.cell? ⟨b, 0, none⟩ = some (.int .u64 m.cl)
  c1 : V.cell? ⟨b, 1, none⟩ = some (.int .u64 m.sq)
  c2 : V.cell? ⟨b, 2, none⟩ = some (.int .i64 m.kd)
  c3 : V.cell? ⟨b, 3, none⟩ = some (.int .u64 m.tx)
  c4 : V.cell? ⟨b, 4, none⟩ = some (.int .u64 m.ts)
  c5 : V.cell? ⟨b, 5, none⟩ = some (.bool m.fl)
  c6 : V.cell? ⟨b, 6, none⟩ = some (.int .u64 m.lk.l.tx)
  c7 : V.cell? ⟨b, 7, none⟩ = some (.int .i64 m.lk.l.lv)
  c8 : V.cell? ⟨b, 8, none⟩ = some (.int .i64 m.lk.l.md)
  c9 : V.cell? ⟨b, 9, none⟩ = some (.slice m.lk.la m.lk.ln m.lk.lc)
  c10 : V.cell? ⟨b, 10, none⟩ = some (.slice m.lk.ha m.lk.hn m.lk.hc)
  c11 : V.cell? ⟨b, 11, none⟩ = some (.slice m.lo.a m.lo.n m.lo.c)
  c12 : V.cell? ⟨b, 12, none⟩ = some (.slice m.hi.a m.hi.n m.hi.c)
  c13 : V.cell? ⟨b, 13, none⟩ = some (.slice m.txs.a m.txs.n m.txs.c)
  c14 : V.cell? ⟨b, 14, none⟩ = some (.slice m.ws.a m.ws.n m.ws.c)
  c15 : V.cell? ⟨b, 15, none⟩ = some (.slice m.ks.a m.ks.n m.ks.c)
  c16 : V.cell? ⟨b, 16, none⟩ = some (.int .i64 m.tb.id)
  c17 : V.cell? ⟨b, 17, none⟩ = some (.string (strB m.tb.nm))
  c18 : V.cell? ⟨b, 18, none⟩ = some (.slice m.tb.cs.a m.tb.cs.n m.tb.cs.c)
  c19 : V.cell? ⟨b, 19, none⟩ = some (.int .i64 m.tb.ky)
  c20 : V.cell? ⟨b, 20, none⟩ = some (.slice m.tb.ix.a m.tb.ix.n m.tb.ix.c)

theorem box21_new (w : World) (m : MCmd) (ty : TypeId) (V : World) (hV : Below (w.alloc (.cells #[.int .u64 m.cl, .int .u64 m.sq, .int .i64 m.kd, .int .u64 m.tx, .int .u64 m.ts, .bool m.fl, .int .u64 m.lk.l.tx, .int .i64 m.lk.l.lv, .int .i64 m.lk.l.md, .slice m.lk.la m.lk.ln m.lk.lc, .slice m.lk.ha m.lk.hn m.lk.hc, .slice m.lo.a m.lo.n m.lo.c, .slice m.hi.a m.hi.n m.hi.c, .slice m.txs.a m.txs.n m.txs.c, .slice m.ws.a m.ws.n m.ws.c, .slice m.ks.a m.ks.n m.ks.c, .int .i64 m.tb.id, .string (strB m.tb.nm), .slice m.tb.cs.a m.tb.cs.n m.tb.cs.c, .int .i64 m.tb.ky, .slice m.tb.ix.a m.tb.ix.n m.tb.ix.c] ty)).heap.size (w.alloc (.cells #[.int .u64 m.cl, .int .u64 m.sq, .int .i64 m.kd, .int .u64 m.tx, .int .u64 m.ts, .bool m.fl, .int .u64 m.lk.l.tx, .int .i64 m.lk.l.lv, .int .i64 m.lk.l.md, .slice m.lk.la m.lk.ln m.lk.lc, .slice m.lk.ha m.lk.hn m.lk.hc, .slice m.lo.a m.lo.n m.lo.c, .slice m.hi.a m.hi.n m.hi.c, .slice m.txs.a m.txs.n m.txs.c, .slice m.ws.a m.ws.n m.ws.c, .slice m.ks.a m.ks.n m.ks.c, .int .i64 m.tb.id, .string (strB m.tb.nm), .slice m.tb.cs.a m.tb.cs.n m.tb.cs.c, .int .i64 m.tb.ky, .slice m.tb.ix.a m.tb.ix.n m.tb.ix.c] ty)) V) : Box21 V w.heap.size m :=
  ⟨(hV.cell (by simp)).trans (by simp), (hV.cell (by simp)).trans (by simp), (hV.cell (by simp)).trans (by simp), (hV.cell (by simp)).trans (by simp), (hV.cell (by simp)).trans (by simp), (hV.cell (by simp)).trans (by simp), (hV.cell (by simp)).trans (by simp), (hV.cell (by simp)).trans (by simp), (hV.cell (by simp)).trans (by simp), (hV.cell (by simp)).trans (by simp), (hV.cell (by simp)).trans (by simp), (hV.cell (by simp)).trans (by simp), (hV.cell (by simp)).trans (by simp), (hV.cell (by simp)).trans (by simp), (hV.cell (by simp)).trans (by simp), (hV.cell (by simp)).trans (by simp), (hV.cell (by simp)).trans (by simp), (hV.cell (by simp)).trans (by simp), (hV.cell (by simp)).trans (by simp), (hV.cell (by simp)).trans (by simp), (hV.cell (by simp)).trans (by simp)⟩

theorem u64wrap {n : Nat} (h : (n : Int) ≤ 9223372036854775807) : IntKind.u64.wrap (n : Int) = n := by
  have hb : IntKind.u64.bits = 64 := rfl
  unfold IntKind.wrap
  simp [hb]
  omega

end Go.Proofs.YtcgiicmmfleinaaGreatDoor
