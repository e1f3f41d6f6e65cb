/- slices.EqualFunc of texts, versions, cells, tables. Printed by part/gen_mqb.py. slices.Equal of statuses, columns, numbers. Printed by part/gen_mqa.py. The program's sameVersion, sameCell, sameTable, SameResult: plain values held against each other. Printed by part/gen_mqc.py. The reference's SameTexts, SameVersion: plain values held against each other. Printed by part/gen_mqd.py. -/
import Derived.Test.YtepaflofbcokaaaGreatDoorPkN
import Derived.Test.YtepaflofbcokaaaGreatDoorCm6
import Derived.Test.YtepaflofbcokaaaGreatDoorCmA
import Derived.Deep.QuietTactic
import Derived.BigQuiet
import Derived.Test.YtepaflofbcokaaaGreatDoorMfL
import Derived.Test.YtepaflofbcokaaaGreatDoorByC
namespace Go.Proofs.YtepaflofbcokaaaGreatDoor
open Go.RowKit NumMath Go.ChangeShapes Go.WideShapes Go.Deep
set_option linter.unusedVariables false
set_option maxRecDepth 100000

/-- a version in a result -/
structure MVe where
  ts : Int
  tx : Int
  dd : Bool
  vl : MB
  ks : Sl MB

def VeP : Type := Int × Int × Bool × List Int × List (List Int)

instance : DecidableEq VeP := inferInstanceAs (DecidableEq (Int × Int × Bool × List Int × List (List Int)))

def MVe.p (m : MVe) : VeP := (m.ts, m.tx, m.dd, m.vl.t, m.ks.xs.map MB.t)

structure MVe.ok (w : World) (m : MVe) : Prop where
  vl : m.vl.is w
  ks : IsY layT w m.ks.a m.ks.n m.ks.c m.ks.xs
  ko : ∀ x ∈ m.ks.xs, x.is w

theorem MVe.ok.keep {w w' : World} {m : MVe} (h : m.ok w) (hb : Below w.heap.size w w') : m.ok w' := ⟨h.vl.keep hb, h.ks.keep hb, fun x hx => (h.ko x hx).keep hb⟩

def layVe : Lay MVe where
  e := 133
  t := 131
  k := 5
  bys := 72
  z := .agg #[.int .u64 0, .int .u64 0, .bool false, .slice none 0 0, .slice none 0 0]
  cells := fun m => [.int .u64 m.ts, .int .u64 m.tx, .bool m.dd, .slice m.vl.a m.vl.n m.vl.c, .slice m.ks.a m.ks.n m.ks.c]
  len := fun _ => rfl
  one := by intro x u hu; simp at hu; rcases hu with rfl | rfl | rfl | rfl | rfl <;> rfl
  pos := by decide
  few := by decide
  und := Tryz.underlying131
  info := by kernel_rfl
  zs := rfl

/-- a key with its versions in a result -/
structure MCe where
  key : MB
  vs : Sl MVe
  it : MVe

def CeP : Type := List Int × List VeP × VeP

instance : DecidableEq CeP := inferInstanceAs (DecidableEq (List Int × List VeP × VeP))

def MCe.p (m : MCe) : CeP := (m.key.t, m.vs.xs.map MVe.p, m.it.p)

structure MCe.ok (w : World) (m : MCe) : Prop where
  key : m.key.is w
  vs : IsY layVe w m.vs.a m.vs.n m.vs.c m.vs.xs
  vo : ∀ x ∈ m.vs.xs, x.ok w
  io : m.it.ok w

theorem MCe.ok.keep {w w' : World} {m : MCe} (h : m.ok w) (hb : Below w.heap.size w w') : m.ok w' := ⟨h.key.keep hb, h.vs.keep hb, fun x hx => (h.vo x hx).keep hb, h.io.keep hb⟩

def layCe : Lay MCe where
  e := 135
  t := 53
  k := 7
  bys := 120
  z := .agg #[.slice none 0 0, .slice none 0 0, .int .u64 0, .int .u64 0, .bool false, .slice none 0 0, .slice none 0 0]
  cells := fun m => [.slice m.key.a m.key.n m.key.c, .slice m.vs.a m.vs.n m.vs.c, .int .u64 m.it.ts, .int .u64 m.it.tx, .bool m.it.dd, .slice m.it.vl.a m.it.vl.n m.it.vl.c, .slice m.it.ks.a m.it.ks.n m.it.ks.c]
  len := fun _ => rfl
  one := by intro x u hu; simp at hu; rcases hu with rfl | rfl | rfl | rfl | rfl | rfl | rfl <;> rfl
  pos := by decide
  few := by decide
  und := Tryz.underlying53
  info := by kernel_rfl
  zs := rfl

theorem take_at {α : Type} {xs ys : List α} {k : Nat} {x y : α} (h : xs.take k = ys.take k) (hx : xs[k]? = some x) (hy : ys[k]? = some y) (e : x = y) : xs.take (k + 1) = ys.take (k + 1) := by
  rw [List.take_add_one, List.take_add_one, hx, hy, h, e]

theorem no_at {α : Type} {xs ys : List α} {k : Nat} {x y : α} (hx : xs[k]? = some x) (hy : ys[k]? = some y) (e : x ≠ y) : xs ≠ ys := by
  rintro rfl
  exact e (Option.some.inj (hx.symm.trans hy))

theorem take_all {α : Type} {xs ys : List α} {k : Nat} (h : xs.take k = ys.take k) (hx : xs.length = k) (hy : ys.length = k) : xs = ys := by
  rwa [List.take_of_length_le (by omega), List.take_of_length_le (by omega)] at h

theorem at_map {α β : Type} {φ : α → β} {xs : List α} {k : Nat} {x : α} (h : xs[k]? = some x) : (xs.map φ)[k]? = some (φ x) := by rw [List.getElem?_map, h]; rfl

end Go.Proofs.YtepaflofbcokaaaGreatDoor

namespace Go.Proofs.YtepaflofbcokaaaGreatDoor
open Go.RowKit NumMath Go.ChangeShapes Go.WideShapes Go.Deep
set_option linter.unusedVariables false
set_option maxRecDepth 100000

theorem neSt2 (x y : Sta) (w : World) : (binOp .neq 77 (.agg #[.int .u64 x.tx, .int .i64 x.st, .int .u64 x.ts]) (.agg #[.int .u64 y.tx, .int .i64 y.st, .int .u64 y.ts])).run Tryz.prog w = .ok (.bool (!decide (x = y))) w := by
  rw [neSt]
  have e : (x.tx == y.tx && (x.st == y.st && x.ts == y.ts)) = decide (x = y) := by
    obtain ⟨a, b, c⟩ := x
    obtain ⟨a', b', c'⟩ := y
    rw [Bool.eq_iff_iff]
    simp [Sta.mk.injEq]
  rw [e]

theorem neCo (s : List Int) (b : Int) (c : Bool) (s' : List Int) (b' : Int) (c' : Bool) (w : World) : (binOp .neq 72 (.agg #[.string (strB s), .int .i64 b, .bool c]) (.agg #[.string (strB s'), .int .i64 b', .bool c'])).run Tryz.prog w = .ok (.bool (!((strB s).toList == (strB s').toList && (b == b' && c == c')))) w := by
  have u3 := Tryz.underlying3
  have a3 := Tryz.isAgg3
  have z3 := Tryz.sizeOf3
  have u4 := Tryz.underlying9
  have a4 := Tryz.isAgg9
  have z4 := Tryz.sizeOf9
  have u5 := Tryz.underlying4
  have a5 := Tryz.isAgg4
  have z5 := Tryz.sizeOf4
  have hS : Tryz.prog.underlying 72 = some (.struct (Tryz.prog.fieldsOf 72)) := by kernel_rfl
  have hp : Tryz.prog.stoodInHeld 72 = false := by kernel_rfl
  rw [run_neq_struct, show (10000 : Nat) = 9999 + 1 from rfl, run_equalIn_agg w 9999 72 _ _ hS hp]
  simp only [Program.fieldsOf, Tryz.underlying72]
  go_simp
  by_cases h1 : (strB s).toList = (strB s').toList <;> by_cases h2 : b = b' <;> by_cases h3 : c = c' <;> simp [h1, h2, h3]

/-- a column as the program holds it against another -/
def Colm.b (c : Colm) : List UInt8 × Int × Bool := ((strB c.n).toList, c.k, c.nn)

theorem neCo2 (x y : Colm) (w : World) : (binOp .neq 72 (.agg #[.string (strB x.n), .int .i64 x.k, .bool x.nn]) (.agg #[.string (strB y.n), .int .i64 y.k, .bool y.nn])).run Tryz.prog w = .ok (.bool (!decide (x.b = y.b))) w := by
  rw [neCo]
  have e : ((strB x.n).toList == (strB y.n).toList && (x.k == y.k && x.nn == y.nn)) = decide (x.b = y.b) := by
    unfold Colm.b
    rw [Bool.eq_iff_iff]
    simp
  rw [e]

end Go.Proofs.YtepaflofbcokaaaGreatDoor

namespace Go.Proofs.YtepaflofbcokaaaGreatDoor
open Go.RowKit NumMath Go.ChangeShapes Go.WideShapes Go.Deep
set_option linter.unusedVariables false
set_option maxRecDepth 100000

theorem two_boxes (w : World) (cx cy : Array Value) (tx ty : TypeId) (V : World) (hb : Below ((w.alloc (.cells cx tx)).alloc (.cells cy ty)).heap.size ((w.alloc (.cells cx tx)).alloc (.cells cy ty)) V) :
    V.rangeAt w.heap.size 0 cx.toList ∧ V.rangeAt (w.heap.size + 1) 0 cy.toList := by
  have l1 : w.heap.size < (w.alloc (.cells cx tx)).heap.size := (Array.getElem?_eq_some_iff.1 (heap_alloc_new _ _)).1
  have e1 : (w.alloc (.cells cx tx)).heap.size = w.heap.size + 1 := by simp
  have l2 : (w.alloc (.cells cx tx)).heap.size < ((w.alloc (.cells cx tx)).alloc (.cells cy ty)).heap.size := (Array.getElem?_eq_some_iff.1 (heap_alloc_new _ _)).1
  exact ⟨rangeY_same (rangeY_same (rangeY_new w _ cx tx rfl) ((new_below _ _).block _ l1)) (hb.block _ (by omega)), rangeY_same (rangeY_new (w.alloc (.cells cx tx)) (w.heap.size + 1) cy ty e1) (hb.block _ (by omega))⟩

set_option synthInstance.maxSize 4096
set_option synthInstance.maxHeartbeats 400000

/-- a table as the program holds it against another -/
def TbP : Type := Int × List UInt8 × List (List UInt8 × Int × Bool) × Int × List Int

instance : DecidableEq TbP := inferInstanceAs (DecidableEq (Int × List UInt8 × List (List UInt8 × Int × Bool) × Int × List Int))

def MTb.b (m : MTb) : TbP := (m.id, (strB m.nm).toList, m.cs.xs.map Colm.b, m.ky, m.ix.xs)

/-- a result that a law is handed -/
structure MRr where
  er : Int
  tx : Int
  ts : Int
  fl : Bool
  ss : Sl Sta
  ce : Sl MCe
  tb : Sl MTb

def ReP : Type := Int × Int × Int × Bool × List Sta × List CeP × List TbP

instance : DecidableEq ReP := inferInstanceAs (DecidableEq (Int × Int × Int × Bool × List Sta × List CeP × List TbP))

def MRr.p (m : MRr) : ReP :=
  (m.er, m.tx, m.ts, m.fl, m.ss.xs, m.ce.xs.map MCe.p, m.tb.xs.map MTb.b)

structure MRr.ok (w : World) (m : MRr) : Prop where
  ss : IsY laySt w m.ss.a m.ss.n m.ss.c m.ss.xs
  ce : IsY layCe w m.ce.a m.ce.n m.ce.c m.ce.xs
  tb : IsY layTb w m.tb.a m.tb.n m.tb.c m.tb.xs
  co : ∀ x ∈ m.ce.xs, x.ok w
  tok : ∀ x ∈ m.tb.xs, x.ok w

theorem MRr.ok.keep {w w' : World} {m : MRr} (h : m.ok w) (hb : Below w.heap.size w w') : m.ok w' := ⟨h.ss.keep hb, h.ce.keep hb, h.tb.keep hb, fun x hx => (h.co x hx).keep hb, fun x hx => (h.tok x hx).keep hb⟩

end Go.Proofs.YtepaflofbcokaaaGreatDoor

namespace Go.Proofs.YtepaflofbcokaaaGreatDoor
open Go.RowKit NumMath Go.ChangeShapes Go.WideShapes Go.Deep
set_option linter.unusedVariables false
set_option maxRecDepth 100000

set_option maxHeartbeats 2000000 in
theorem xsameTx_any (xs ys : List MB) (a b : Option Addr) (n c n' c' : Nat) (w : World) (hx : IsY layT w a n c xs) (hy : IsY layT w b n' c' ys) (hxo : ∀ x ∈ xs, x.is w) (hyo : ∀ x ∈ ys, x.is w) :
    Calls Tryz.prog 97 #[.slice a n c, .slice b n' c'] w fun e w' => e = .returned (.bool (decide ((xs.map MB.t) = (ys.map MB.t)))) ∧ Below w.heap.size w w' := by
  have HX := hide hx
  have HY := hide hy
  have hm : (n : Int) ≤ 9223372036854775807 := by have := hx.2.1; have := hx.2.2.1; unfold maxLen at this; omega
  have HXO := hide hxo
  have HYO := hide hyo
  clear hx hy hxo hyo
  by_cases hl : n = n'
  · subst hl
    go_enter Tryz.func97, Tryz.ntmps97
    go_wp2
    go_loopg [13] n (fun gk ix wr => ∃ k : Nat, gk = n - k ∧ ix = .int .i64 k ∧ k ≤ n ∧ (xs.map MB.t).take k = (ys.map MB.t).take k ∧ Below w.heap.size w wr)
    case atStart => exact ⟨0, rfl, rfl, Nat.zero_le _, rfl, Below.refl _ _⟩
    case round =>
      obtain ⟨k, rfl, rfl, hk, hT, hB⟩ := hrel
      have HT := hide hT
      have HB := hide hB
      clear hT hB
      by_cases hlt : k < n
      · have hlt' : (k : Int) < (n : Int) := by omega
        obtain ⟨x, hx⟩ := at_of HX.out.1 hlt
        obtain ⟨y, hy⟩ := at_of HY.out.1 hlt
        obtain ⟨g1, o1, rfl, hg1, hC1⟩ := (HX.out.keep HB.out).at hlt
        obtain ⟨g2, o2, rfl, hg2, hC2⟩ := (HY.out.keep HB.out).at hlt
        have e0 : wr.cell? ⟨g1, o1 + k, none⟩ = some (.slice x.a x.n x.c) := by simpa [layT] using hC1 k x hx 0 _ rfl
        have f0 : wr.cell? ⟨g2, o2 + k, none⟩ = some (.slice y.a y.n y.c) := by simpa [layT] using hC2 k y hy 0 _ rfl
        have hxb : IsBytes wr x.a x.n x.c x.t := MB.is.keep (HXO.out x (List.mem_of_getElem? hx)) HB.out
        have hyb : IsBytes wr y.a y.n y.c y.t := MB.is.keep (HYO.out y (List.mem_of_getElem? hy)) HB.out
        have q1 := fun nd => (hxb.keep (below_drewN (Below.refl _ wr) nd)).conv
        have q2 := fun nd => (hyb.keep (below_drewN (Below.refl _ wr) nd)).conv
        have hq := strB_eq x.t y.t hxb.2.2.2.1 hyb.2.2.2.1
        clear hxb hyb
        have HAx : Hid ((xs.map MB.t)[k]? = some x.t) := by show _ = _; rw [List.getElem?_map, hx]; rfl
        have HAy : Hid ((ys.map MB.t)[k]? = some y.t) := by show _ = _; rw [List.getElem?_map, hy]; rfl
        clear hx hy hC1 hC2
        by_cases hxy : x.t = y.t
        · rw [decide_eq_true hxy] at hq
          have HXY := hide hxy
          clear hxy
          go_wp2
          go_quiet (fail)
          go_wp2
          go_roundg (n - (k + 1))
          case measure => omega
          case rel => exact ⟨k + 1, rfl, by go_num, hlt, take_at HT.out HAx.out HAy.out HXY.out, below_drewN HB.out _⟩
        · have HR : Hid (decide ((xs.map MB.t) = (ys.map MB.t)) = false) := decide_eq_false (no_at HAx.out HAy.out hxy)
          rw [decide_eq_false hxy] at hq
          have HXY := hide hxy
          clear hxy
          go_wp2
          go_quiet (fail)
          go_wp2
          refine bodyPost_ret (v := .bool false) (by simp [results, Tryz.results97, go_sem]) rfl ⟨by rw [HR.out], below_drewN HB.out _⟩
      · obtain rfl : k = n := by omega
        have HR : Hid (decide ((xs.map MB.t) = (ys.map MB.t)) = true) := decide_eq_true (take_all HT.out ((List.length_map MB.t).trans HX.out.1) ((List.length_map MB.t).trans HY.out.1))
        go_wp2
        go_ret
        exact ⟨by rw [HR.out]; rfl, HB.out⟩
  · have hl' : ¬ (n : Int) = (n' : Int) := by omega
    have HR : Hid (decide ((xs.map MB.t) = (ys.map MB.t)) = false) := decide_eq_false (fun e => hl (by have h1 := ((List.length_map MB.t).trans HX.out.1); have h2 := ((List.length_map MB.t).trans HY.out.1); rw [e] at h1; omega))
    go_enter Tryz.func97, Tryz.ntmps97
    go_wp2
    go_ret
    exact ⟨by rw [HR.out]; rfl, Below.refl _ _⟩

set_option maxHeartbeats 8000000 in
theorem xsameV_any (x y : MVe) (w : World) (h : x.ok w) (k : y.ok w) :
    Calls Tryz.prog 66 #[.agg #[.int .u64 x.ts, .int .u64 x.tx, .bool x.dd, .slice x.vl.a x.vl.n x.vl.c, .slice x.ks.a x.ks.n x.ks.c], .agg #[.int .u64 y.ts, .int .u64 y.tx, .bool y.dd, .slice y.vl.a y.vl.n y.vl.c, .slice y.ks.a y.ks.n y.ks.c]] w fun e w' => e = .returned (.bool (decide (x.p = y.p))) ∧ Below w.heap.size w w' := by
  have HBn : Hid (Below w.heap.size w ((w.alloc (.cells #[.int .u64 x.ts, .int .u64 x.tx, .bool x.dd, .slice x.vl.a x.vl.n x.vl.c, .slice x.ks.a x.ks.n x.ks.c] 133)).alloc (.cells #[.int .u64 y.ts, .int .u64 y.tx, .bool y.dd, .slice y.vl.a y.vl.n y.vl.c, .slice y.ks.a y.ks.n y.ks.c] 133))) := (new_below w _).trans ((new_below _ _).mono (new_below w _).size)
  have HC4 := hide (fun W (hb : Below w.heap.size w W) => xsameTx_any x.ks.xs y.ks.xs x.ks.a y.ks.a x.ks.n x.ks.c y.ks.n y.ks.c W (h.ks.keep hb) (k.ks.keep hb) (fun p hp => (h.ko p hp).keep hb) (fun q hq => (k.ko q hq).keep hb))
  have q3x := (IsBytes.keep h.vl HBn.out).conv
  have q3y := (IsBytes.keep k.vl HBn.out).conv
  have hq3 := strB_eq x.vl.t y.vl.t (IsBytes.keep h.vl HBn.out).2.2.2.1 (IsBytes.keep k.vl HBn.out).2.2.2.1
  have HBW : Hid (Below ((w.alloc (.cells #[.int .u64 x.ts, .int .u64 x.tx, .bool x.dd, .slice x.vl.a x.vl.n x.vl.c, .slice x.ks.a x.ks.n x.ks.c] 133)).alloc (.cells #[.int .u64 y.ts, .int .u64 y.tx, .bool y.dd, .slice y.vl.a y.vl.n y.vl.c, .slice y.ks.a y.ks.n y.ks.c] 133)).heap.size ((w.alloc (.cells #[.int .u64 x.ts, .int .u64 x.tx, .bool x.dd, .slice x.vl.a x.vl.n x.vl.c, .slice x.ks.a x.ks.n x.ks.c] 133)).alloc (.cells #[.int .u64 y.ts, .int .u64 y.tx, .bool y.dd, .slice y.vl.a y.vl.n y.vl.c, .slice y.ks.a y.ks.n y.ks.c] 133)) ((w.alloc (.cells #[.int .u64 x.ts, .int .u64 x.tx, .bool x.dd, .slice x.vl.a x.vl.n x.vl.c, .slice x.ks.a x.ks.n x.ks.c] 133)).alloc (.cells #[.int .u64 y.ts, .int .u64 y.tx, .bool y.dd, .slice y.vl.a y.vl.n y.vl.c, .slice y.ks.a y.ks.n y.ks.c] 133))) := Below.refl _ _
  clear h k
  by_cases h0 : x.ts = y.ts
  · have d0 : (x.ts == y.ts) = true := by simpa using h0
    have c0 : decide (x.ts = y.ts) = true := by simpa using h0
    have Hh0 := hide h0
    clear h0
    by_cases h1 : x.tx = y.tx
    · have d1 : (x.tx == y.tx) = true := by simpa using h1
      have c1 : decide (x.tx = y.tx) = true := by simpa using h1
      have Hh1 := hide h1
      clear h1
      by_cases h2 : x.dd = y.dd
      · have d2 : (x.dd == y.dd) = true := by simpa using h2
        have c2 : decide (x.dd = y.dd) = true := by simpa using h2
        have Hh2 := hide h2
        clear h2
        by_cases h3 : x.vl.t = y.vl.t
        · rw [decide_eq_true h3] at hq3
          have Hh3 := hide h3
          clear h3
          by_cases h4 : x.ks.xs.map MB.t = y.ks.xs.map MB.t
          · rw [show decide (x.ks.xs.map MB.t = y.ks.xs.map MB.t) = true from decide_eq_true h4] at HC4
            have Hh4 := hide h4
            clear h4
            have HR : Hid (decide (x.p = y.p) = true) := decide_eq_true (by show ((x.ts, x.tx, x.dd, x.vl.t, x.ks.xs.map MB.t)) = ((y.ts, y.tx, y.dd, y.vl.t, y.ks.xs.map MB.t)); rw [Hh0.out, Hh1.out, Hh2.out, Hh3.out, Hh4.out])
            go_enter Tryz.func66, Tryz.ntmps66
            go_wp2_with (first
              | (go_at_call 97; go_must (refine (HC4.out _ HBn.out).mono ?_ <;> skip); rintro e w7 ⟨rfl, hb⟩; have HBn := hide (HBn.out.trans (hb.mono HBn.out.size)); have HBW := hide (HBW.out.trans (hb.mono HBW.out.size)); clear hb; have hq := two_boxes w #[.int .u64 x.ts, .int .u64 x.tx, .bool x.dd, .slice x.vl.a x.vl.n x.vl.c, .slice x.ks.a x.ks.n x.ks.c] #[.int .u64 y.ts, .int .u64 y.tx, .bool y.dd, .slice y.vl.a y.vl.n y.vl.c, .slice y.ks.a y.ks.n y.ks.c] 133 133 _ HBW.out; have x0w7 : w7.cell? ⟨w.heap.size, 0, none⟩ = some (.int .u64 x.ts) := hq.1 0 _ rfl; have y0w7 : w7.cell? ⟨w.heap.size + 1, 0, none⟩ = some (.int .u64 y.ts) := hq.2 0 _ rfl; have x1w7 : w7.cell? ⟨w.heap.size, 1, none⟩ = some (.int .u64 x.tx) := hq.1 1 _ rfl; have y1w7 : w7.cell? ⟨w.heap.size + 1, 1, none⟩ = some (.int .u64 y.tx) := hq.2 1 _ rfl; have x2w7 : w7.cell? ⟨w.heap.size, 2, none⟩ = some (.bool x.dd) := hq.1 2 _ rfl; have y2w7 : w7.cell? ⟨w.heap.size + 1, 2, none⟩ = some (.bool y.dd) := hq.2 2 _ rfl; have x3w7 : w7.cell? ⟨w.heap.size, 3, none⟩ = some (.slice x.vl.a x.vl.n x.vl.c) := hq.1 3 _ rfl; have y3w7 : w7.cell? ⟨w.heap.size + 1, 3, none⟩ = some (.slice y.vl.a y.vl.n y.vl.c) := hq.2 3 _ rfl; have x4w7 : w7.cell? ⟨w.heap.size, 4, none⟩ = some (.slice x.ks.a x.ks.n x.ks.c) := hq.1 4 _ rfl; have y4w7 : w7.cell? ⟨w.heap.size + 1, 4, none⟩ = some (.slice y.ks.a y.ks.n y.ks.c) := hq.2 4 _ rfl; clear hq))
            go_ret
            exact ⟨by rw [HR.out]; rfl, HBn.out⟩
          · rw [show decide (x.ks.xs.map MB.t = y.ks.xs.map MB.t) = false from decide_eq_false h4] at HC4
            have Hn := hide h4
            clear h4
            have HR : Hid (decide (x.p = y.p) = false) := decide_eq_false (fun e => Hn.out (congrArg (fun t => t.2.2.2.2) (show ((x.ts, x.tx, x.dd, x.vl.t, x.ks.xs.map MB.t)) = ((y.ts, y.tx, y.dd, y.vl.t, y.ks.xs.map MB.t)) from e)))
            go_enter Tryz.func66, Tryz.ntmps66
            go_wp2_with (first
              | (go_at_call 97; go_must (refine (HC4.out _ HBn.out).mono ?_ <;> skip); rintro e w7 ⟨rfl, hb⟩; have HBn := hide (HBn.out.trans (hb.mono HBn.out.size)); have HBW := hide (HBW.out.trans (hb.mono HBW.out.size)); clear hb; have hq := two_boxes w #[.int .u64 x.ts, .int .u64 x.tx, .bool x.dd, .slice x.vl.a x.vl.n x.vl.c, .slice x.ks.a x.ks.n x.ks.c] #[.int .u64 y.ts, .int .u64 y.tx, .bool y.dd, .slice y.vl.a y.vl.n y.vl.c, .slice y.ks.a y.ks.n y.ks.c] 133 133 _ HBW.out; have x0w7 : w7.cell? ⟨w.heap.size, 0, none⟩ = some (.int .u64 x.ts) := hq.1 0 _ rfl; have y0w7 : w7.cell? ⟨w.heap.size + 1, 0, none⟩ = some (.int .u64 y.ts) := hq.2 0 _ rfl; have x1w7 : w7.cell? ⟨w.heap.size, 1, none⟩ = some (.int .u64 x.tx) := hq.1 1 _ rfl; have y1w7 : w7.cell? ⟨w.heap.size + 1, 1, none⟩ = some (.int .u64 y.tx) := hq.2 1 _ rfl; have x2w7 : w7.cell? ⟨w.heap.size, 2, none⟩ = some (.bool x.dd) := hq.1 2 _ rfl; have y2w7 : w7.cell? ⟨w.heap.size + 1, 2, none⟩ = some (.bool y.dd) := hq.2 2 _ rfl; have x3w7 : w7.cell? ⟨w.heap.size, 3, none⟩ = some (.slice x.vl.a x.vl.n x.vl.c) := hq.1 3 _ rfl; have y3w7 : w7.cell? ⟨w.heap.size + 1, 3, none⟩ = some (.slice y.vl.a y.vl.n y.vl.c) := hq.2 3 _ rfl; have x4w7 : w7.cell? ⟨w.heap.size, 4, none⟩ = some (.slice x.ks.a x.ks.n x.ks.c) := hq.1 4 _ rfl; have y4w7 : w7.cell? ⟨w.heap.size + 1, 4, none⟩ = some (.slice y.ks.a y.ks.n y.ks.c) := hq.2 4 _ rfl; clear hq))
            go_ret
            exact ⟨by rw [HR.out]; rfl, HBn.out⟩
        · rw [decide_eq_false h3] at hq3
          have Hn := hide h3
          clear h3
          have HR : Hid (decide (x.p = y.p) = false) := decide_eq_false (fun e => Hn.out (congrArg (fun t => t.2.2.2.1) (show ((x.ts, x.tx, x.dd, x.vl.t, x.ks.xs.map MB.t)) = ((y.ts, y.tx, y.dd, y.vl.t, y.ks.xs.map MB.t)) from e)))
          go_enter Tryz.func66, Tryz.ntmps66
          go_wp2_with (first
            | (go_at_call 97; go_must (refine (HC4.out _ HBn.out).mono ?_ <;> skip); rintro e w7 ⟨rfl, hb⟩; have HBn := hide (HBn.out.trans (hb.mono HBn.out.size)); have HBW := hide (HBW.out.trans (hb.mono HBW.out.size)); clear hb; have hq := two_boxes w #[.int .u64 x.ts, .int .u64 x.tx, .bool x.dd, .slice x.vl.a x.vl.n x.vl.c, .slice x.ks.a x.ks.n x.ks.c] #[.int .u64 y.ts, .int .u64 y.tx, .bool y.dd, .slice y.vl.a y.vl.n y.vl.c, .slice y.ks.a y.ks.n y.ks.c] 133 133 _ HBW.out; have x0w7 : w7.cell? ⟨w.heap.size, 0, none⟩ = some (.int .u64 x.ts) := hq.1 0 _ rfl; have y0w7 : w7.cell? ⟨w.heap.size + 1, 0, none⟩ = some (.int .u64 y.ts) := hq.2 0 _ rfl; have x1w7 : w7.cell? ⟨w.heap.size, 1, none⟩ = some (.int .u64 x.tx) := hq.1 1 _ rfl; have y1w7 : w7.cell? ⟨w.heap.size + 1, 1, none⟩ = some (.int .u64 y.tx) := hq.2 1 _ rfl; have x2w7 : w7.cell? ⟨w.heap.size, 2, none⟩ = some (.bool x.dd) := hq.1 2 _ rfl; have y2w7 : w7.cell? ⟨w.heap.size + 1, 2, none⟩ = some (.bool y.dd) := hq.2 2 _ rfl; have x3w7 : w7.cell? ⟨w.heap.size, 3, none⟩ = some (.slice x.vl.a x.vl.n x.vl.c) := hq.1 3 _ rfl; have y3w7 : w7.cell? ⟨w.heap.size + 1, 3, none⟩ = some (.slice y.vl.a y.vl.n y.vl.c) := hq.2 3 _ rfl; have x4w7 : w7.cell? ⟨w.heap.size, 4, none⟩ = some (.slice x.ks.a x.ks.n x.ks.c) := hq.1 4 _ rfl; have y4w7 : w7.cell? ⟨w.heap.size + 1, 4, none⟩ = some (.slice y.ks.a y.ks.n y.ks.c) := hq.2 4 _ rfl; clear hq))
          go_ret
          exact ⟨by rw [HR.out]; rfl, HBn.out⟩
      · have d2 : (x.dd == y.dd) = false := by simpa using h2
        have c2 : decide (x.dd = y.dd) = false := by simpa using h2
        have Hn := hide h2
        clear h2
        have HR : Hid (decide (x.p = y.p) = false) := decide_eq_false (fun e => Hn.out (congrArg (fun t => t.2.2.1) (show ((x.ts, x.tx, x.dd, x.vl.t, x.ks.xs.map MB.t)) = ((y.ts, y.tx, y.dd, y.vl.t, y.ks.xs.map MB.t)) from e)))
        go_enter Tryz.func66, Tryz.ntmps66
        go_wp2_with (first
          | (go_at_call 97; go_must (refine (HC4.out _ HBn.out).mono ?_ <;> skip); rintro e w7 ⟨rfl, hb⟩; have HBn := hide (HBn.out.trans (hb.mono HBn.out.size)); have HBW := hide (HBW.out.trans (hb.mono HBW.out.size)); clear hb; have hq := two_boxes w #[.int .u64 x.ts, .int .u64 x.tx, .bool x.dd, .slice x.vl.a x.vl.n x.vl.c, .slice x.ks.a x.ks.n x.ks.c] #[.int .u64 y.ts, .int .u64 y.tx, .bool y.dd, .slice y.vl.a y.vl.n y.vl.c, .slice y.ks.a y.ks.n y.ks.c] 133 133 _ HBW.out; have x0w7 : w7.cell? ⟨w.heap.size, 0, none⟩ = some (.int .u64 x.ts) := hq.1 0 _ rfl; have y0w7 : w7.cell? ⟨w.heap.size + 1, 0, none⟩ = some (.int .u64 y.ts) := hq.2 0 _ rfl; have x1w7 : w7.cell? ⟨w.heap.size, 1, none⟩ = some (.int .u64 x.tx) := hq.1 1 _ rfl; have y1w7 : w7.cell? ⟨w.heap.size + 1, 1, none⟩ = some (.int .u64 y.tx) := hq.2 1 _ rfl; have x2w7 : w7.cell? ⟨w.heap.size, 2, none⟩ = some (.bool x.dd) := hq.1 2 _ rfl; have y2w7 : w7.cell? ⟨w.heap.size + 1, 2, none⟩ = some (.bool y.dd) := hq.2 2 _ rfl; have x3w7 : w7.cell? ⟨w.heap.size, 3, none⟩ = some (.slice x.vl.a x.vl.n x.vl.c) := hq.1 3 _ rfl; have y3w7 : w7.cell? ⟨w.heap.size + 1, 3, none⟩ = some (.slice y.vl.a y.vl.n y.vl.c) := hq.2 3 _ rfl; have x4w7 : w7.cell? ⟨w.heap.size, 4, none⟩ = some (.slice x.ks.a x.ks.n x.ks.c) := hq.1 4 _ rfl; have y4w7 : w7.cell? ⟨w.heap.size + 1, 4, none⟩ = some (.slice y.ks.a y.ks.n y.ks.c) := hq.2 4 _ rfl; clear hq))
        go_ret
        exact ⟨by rw [HR.out]; rfl, HBn.out⟩
    · have d1 : (x.tx == y.tx) = false := by simpa using h1
      have c1 : decide (x.tx = y.tx) = false := by simpa using h1
      have Hn := hide h1
      clear h1
      have HR : Hid (decide (x.p = y.p) = false) := decide_eq_false (fun e => Hn.out (congrArg (fun t => t.2.1) (show ((x.ts, x.tx, x.dd, x.vl.t, x.ks.xs.map MB.t)) = ((y.ts, y.tx, y.dd, y.vl.t, y.ks.xs.map MB.t)) from e)))
      go_enter Tryz.func66, Tryz.ntmps66
      go_wp2_with (first
        | (go_at_call 97; go_must (refine (HC4.out _ HBn.out).mono ?_ <;> skip); rintro e w7 ⟨rfl, hb⟩; have HBn := hide (HBn.out.trans (hb.mono HBn.out.size)); have HBW := hide (HBW.out.trans (hb.mono HBW.out.size)); clear hb; have hq := two_boxes w #[.int .u64 x.ts, .int .u64 x.tx, .bool x.dd, .slice x.vl.a x.vl.n x.vl.c, .slice x.ks.a x.ks.n x.ks.c] #[.int .u64 y.ts, .int .u64 y.tx, .bool y.dd, .slice y.vl.a y.vl.n y.vl.c, .slice y.ks.a y.ks.n y.ks.c] 133 133 _ HBW.out; have x0w7 : w7.cell? ⟨w.heap.size, 0, none⟩ = some (.int .u64 x.ts) := hq.1 0 _ rfl; have y0w7 : w7.cell? ⟨w.heap.size + 1, 0, none⟩ = some (.int .u64 y.ts) := hq.2 0 _ rfl; have x1w7 : w7.cell? ⟨w.heap.size, 1, none⟩ = some (.int .u64 x.tx) := hq.1 1 _ rfl; have y1w7 : w7.cell? ⟨w.heap.size + 1, 1, none⟩ = some (.int .u64 y.tx) := hq.2 1 _ rfl; have x2w7 : w7.cell? ⟨w.heap.size, 2, none⟩ = some (.bool x.dd) := hq.1 2 _ rfl; have y2w7 : w7.cell? ⟨w.heap.size + 1, 2, none⟩ = some (.bool y.dd) := hq.2 2 _ rfl; have x3w7 : w7.cell? ⟨w.heap.size, 3, none⟩ = some (.slice x.vl.a x.vl.n x.vl.c) := hq.1 3 _ rfl; have y3w7 : w7.cell? ⟨w.heap.size + 1, 3, none⟩ = some (.slice y.vl.a y.vl.n y.vl.c) := hq.2 3 _ rfl; have x4w7 : w7.cell? ⟨w.heap.size, 4, none⟩ = some (.slice x.ks.a x.ks.n x.ks.c) := hq.1 4 _ rfl; have y4w7 : w7.cell? ⟨w.heap.size + 1, 4, none⟩ = some (.slice y.ks.a y.ks.n y.ks.c) := hq.2 4 _ rfl; clear hq))
      go_ret
      exact ⟨by rw [HR.out]; rfl, HBn.out⟩
  · have d0 : (x.ts == y.ts) = false := by simpa using h0
    have c0 : decide (x.ts = y.ts) = false := by simpa using h0
    have Hn := hide h0
    clear h0
    have HR : Hid (decide (x.p = y.p) = false) := decide_eq_false (fun e => Hn.out (congrArg (fun t => t.1) (show ((x.ts, x.tx, x.dd, x.vl.t, x.ks.xs.map MB.t)) = ((y.ts, y.tx, y.dd, y.vl.t, y.ks.xs.map MB.t)) from e)))
    go_enter Tryz.func66, Tryz.ntmps66
    go_wp2_with (first
      | (go_at_call 97; go_must (refine (HC4.out _ HBn.out).mono ?_ <;> skip); rintro e w7 ⟨rfl, hb⟩; have HBn := hide (HBn.out.trans (hb.mono HBn.out.size)); have HBW := hide (HBW.out.trans (hb.mono HBW.out.size)); clear hb; have hq := two_boxes w #[.int .u64 x.ts, .int .u64 x.tx, .bool x.dd, .slice x.vl.a x.vl.n x.vl.c, .slice x.ks.a x.ks.n x.ks.c] #[.int .u64 y.ts, .int .u64 y.tx, .bool y.dd, .slice y.vl.a y.vl.n y.vl.c, .slice y.ks.a y.ks.n y.ks.c] 133 133 _ HBW.out; have x0w7 : w7.cell? ⟨w.heap.size, 0, none⟩ = some (.int .u64 x.ts) := hq.1 0 _ rfl; have y0w7 : w7.cell? ⟨w.heap.size + 1, 0, none⟩ = some (.int .u64 y.ts) := hq.2 0 _ rfl; have x1w7 : w7.cell? ⟨w.heap.size, 1, none⟩ = some (.int .u64 x.tx) := hq.1 1 _ rfl; have y1w7 : w7.cell? ⟨w.heap.size + 1, 1, none⟩ = some (.int .u64 y.tx) := hq.2 1 _ rfl; have x2w7 : w7.cell? ⟨w.heap.size, 2, none⟩ = some (.bool x.dd) := hq.1 2 _ rfl; have y2w7 : w7.cell? ⟨w.heap.size + 1, 2, none⟩ = some (.bool y.dd) := hq.2 2 _ rfl; have x3w7 : w7.cell? ⟨w.heap.size, 3, none⟩ = some (.slice x.vl.a x.vl.n x.vl.c) := hq.1 3 _ rfl; have y3w7 : w7.cell? ⟨w.heap.size + 1, 3, none⟩ = some (.slice y.vl.a y.vl.n y.vl.c) := hq.2 3 _ rfl; have x4w7 : w7.cell? ⟨w.heap.size, 4, none⟩ = some (.slice x.ks.a x.ks.n x.ks.c) := hq.1 4 _ rfl; have y4w7 : w7.cell? ⟨w.heap.size + 1, 4, none⟩ = some (.slice y.ks.a y.ks.n y.ks.c) := hq.2 4 _ rfl; clear hq))
    go_ret
    exact ⟨by rw [HR.out]; rfl, HBn.out⟩

end Go.Proofs.YtepaflofbcokaaaGreatDoor
