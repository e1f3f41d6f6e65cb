/- slices.EqualFunc of texts, versions, cells, tables. Printed by part/gen_mqb.py. slices.Equal of statuses, columns, numbers. Printed by part/gen_mqa.py. The program's sameVersion, sameCell, sameTable, SameResult: plain values held against each other. Printed by part/gen_mqc.py. The reference's SameTexts, SameVersion: plain values held against each other. Printed by part/gen_mqd.py. -/
import Derived.Test.YtcgiicmmfleinaaGreatDoorPkN
import Derived.Test.YtcgiicmmfleinaaGreatDoorCm6
import Derived.Test.YtcgiicmmfleinaaGreatDoorCmA
import Derived.Deep.QuietTactic
import Derived.BigQuiet
import Derived.Test.YtcgiicmmfleinaaGreatDoorMfL
import Derived.Test.YtcgiicmmfleinaaGreatDoorByC
namespace Go.Proofs.YtcgiicmmfleinaaGreatDoor
open Go.RowKit NumMath Go.ChangeShapes Go.WideShapes Go.Deep
set_option linter.unusedVariables false
set_option maxRecDepth 100000

/-- a version in a result -/
structure MVe where
  ts : Int
  tx : Int
  dd : Bool
  vl : MB
  ks : Sl MB

def VeP : Type := Int × Int × Bool × List Int × List (List Int)

instance : DecidableEq VeP := inferInstanceAs (DecidableEq (Int × Int × Bool × List Int × List (List Int)))

def MVe.p (m : MVe) : VeP := (m.ts, m.tx, m.dd, m.vl.t, m.ks.xs.map MB.t)

structure MVe.ok (w : World) (m : MVe) : Prop where
  vl : m.vl.is w
  ks : IsY layT w m.ks.a m.ks.n m.ks.c m.ks.xs
  ko : ∀ x ∈ m.ks.xs, x.is w

theorem MVe.ok.keep {w w' : World} {m : MVe} (h : m.ok w) (hb : Below w.heap.size w w') : m.ok w' := ⟨h.vl.keep hb, h.ks.keep hb, fun x hx => (h.ko x hx).keep hb⟩

def layVe : Lay MVe where
  e := 135
  t := 133
  k := 5
  bys := 72
  z := .agg #[.int .u64 0, .int .u64 0, .bool false, .slice none 0 0, .slice none 0 0]
  cells := fun m => [.int .u64 m.ts, .int .u64 m.tx, .bool m.dd, .slice m.vl.a m.vl.n m.vl.c, .slice m.ks.a m.ks.n m.ks.c]
  len := fun _ => rfl
  one := by intro x u hu; simp at hu; rcases hu with rfl | rfl | rfl | rfl | rfl <;> rfl
  pos := by decide
  few := by decide
  und := Tryz.underlying133
  info := by kernel_rfl
  zs := rfl

/-- a key with its versions in a result -/
structure MCe where
  key : MB
  vs : Sl MVe
  it : MVe

def CeP : Type := List Int × List VeP × VeP

instance : DecidableEq CeP := inferInstanceAs (DecidableEq (List Int × List VeP × VeP))

def MCe.p (m : MCe) : CeP := (m.key.t, m.vs.xs.map MVe.p, m.it.p)

structure MCe.ok (w : World) (m : MCe) : Prop where
  key : m.key.is w
  vs : IsY layVe w m.vs.a m.vs.n m.vs.c m.vs.xs
  vo : ∀ x ∈ m.vs.xs, x.ok w
  io : m.it.ok w

theorem MCe.ok.keep {w w' : World} {m : MCe} (h : m.ok w) (hb : Below w.heap.size w w') : m.ok w' := ⟨h.key.keep hb, h.vs.keep hb, fun x hx => (h.vo x hx).keep hb, h.io.keep hb⟩

def layCe : Lay MCe where
  e := 137
  t := 53
  k := 7
  bys := 120
  z := .agg #[.slice none 0 0, .slice none 0 0, .int .u64 0, .int .u64 0, .bool false, .slice none 0 0, .slice none 0 0]
  cells := fun m => [.slice m.key.a m.key.n m.key.c, .slice m.vs.a m.vs.n m.vs.c, .int .u64 m.it.ts, .int .u64 m.it.tx, .bool m.it.dd, .slice m.it.vl.a m.it.vl.n m.it.vl.c, .slice m.it.ks.a m.it.ks.n m.it.ks.c]
  len := fun _ => rfl
  one := by intro x u hu; simp at hu; rcases hu with rfl | rfl | rfl | rfl | rfl | rfl | rfl <;> rfl
  pos := by decide
  few := by decide
  und := Tryz.underlying53
  info := by kernel_rfl
  zs := rfl

theorem take_at {α : Type} {xs ys : List α} {k : Nat} {x y : α} (h : xs.take k = ys.take k) (hx : xs[k]? = some x) (hy : ys[k]? = some y) (e : x = y) : xs.take (k + 1) = ys.take (k + 1) := by
  rw [List.take_add_one, List.take_add_one, hx, hy, h, e]

theorem no_at {α : Type} {xs ys : List α} {k : Nat} {x y : α} (hx : xs[k]? = some x) (hy : ys[k]? = some y) (e : x ≠ y) : xs ≠ ys := by
  rintro rfl
  exact e (Option.some.inj (hx.symm.trans hy))

theorem take_all {α : Type} {xs ys : List α} {k : Nat} (h : xs.take k = ys.take k) (hx : xs.length = k) (hy : ys.length = k) : xs = ys := by
  rwa [List.take_of_length_le (by omega), List.take_of_length_le (by omega)] at h

theorem at_map {α β : Type} {φ : α → β} {xs : List α} {k : Nat} {x : α} (h : xs[k]? = some x) : (xs.map φ)[k]? = some (φ x) := by rw [List.getElem?_map, h]; rfl

set_option maxHeartbeats 4000000 in
theorem efVe_any {β : Type} [DecidableEq β] (φ : MVe → β) (xs ys : List MVe) (a b : Option Addr) (n c n' c' : Nat) (w : World) (hx : IsY layVe w a n c xs) (hy : IsY layVe w b n' c' ys)
    (he : ∀ x ∈ xs, ∀ y ∈ ys, ∀ V, Below w.heap.size w V → Calls Tryz.prog 106 #[.agg #[.int .u64 x.ts, .int .u64 x.tx, .bool x.dd, .slice x.vl.a x.vl.n x.vl.c, .slice x.ks.a x.ks.n x.ks.c], .agg #[.int .u64 y.ts, .int .u64 y.tx, .bool y.dd, .slice y.vl.a y.vl.n y.vl.c, .slice y.ks.a y.ks.n y.ks.c]] V fun e w' => e = .returned (.bool (decide (φ x = φ y))) ∧ Below V.heap.size V w') :
    Calls Tryz.prog 105 #[.slice a n c, .slice b n' c', .func (.func 106) #[] #[]] w fun e w' => e = .returned (.bool (decide (xs.map φ = ys.map φ))) ∧ Below w.heap.size w w' := by
  have HX := hide hx
  have HY := hide hy
  have HE := hide he
  have hm : (n : Int) ≤ 9223372036854775807 := by have := hx.2.1; have := hx.2.2.1; unfold maxLen at this; omega
  clear hx hy he
  by_cases hl : n = n'
  · subst hl
    go_enter Tryz.func105, Tryz.ntmps105
    go_wp2
    go_loopg [17] n (fun gk ix wr => ∃ k : Nat, gk = n - k ∧ ix = .int .i64 k ∧ k ≤ n ∧ (xs.map φ).take k = (ys.map φ).take k ∧ Below w.heap.size w wr)
    case atStart => exact ⟨0, rfl, rfl, Nat.zero_le _, rfl, Below.refl _ _⟩
    case round =>
      obtain ⟨k, rfl, rfl, hk, hT, hB⟩ := hrel
      have HT := hide hT
      have HB := hide hB
      clear hT hB
      by_cases hlt : k < n
      · have hlt' : (k : Int) < (n : Int) := by omega
        obtain ⟨x, hx⟩ := at_of HX.out.1 hlt
        obtain ⟨y, hy⟩ := at_of HY.out.1 hlt
        obtain ⟨g1, o1, rfl, hg1, hC1⟩ := (HX.out.keep HB.out).at hlt
        obtain ⟨g2, o2, rfl, hg2, hC2⟩ := (HY.out.keep HB.out).at hlt
        have e0 : wr.cell? ⟨g1, o1 + k * 5, none⟩ = some (.int .u64 x.ts) := hC1 k x hx 0 _ rfl
        have e1 : wr.cell? ⟨g1, o1 + k * 5 + 1, none⟩ = some (.int .u64 x.tx) := hC1 k x hx 1 _ rfl
        have e2 : wr.cell? ⟨g1, o1 + k * 5 + 2, none⟩ = some (.bool x.dd) := hC1 k x hx 2 _ rfl
        have e3 : wr.cell? ⟨g1, o1 + k * 5 + 3, none⟩ = some (.slice x.vl.a x.vl.n x.vl.c) := hC1 k x hx 3 _ rfl
        have e4 : wr.cell? ⟨g1, o1 + k * 5 + 4, none⟩ = some (.slice x.ks.a x.ks.n x.ks.c) := hC1 k x hx 4 _ rfl
        have f0 : ∀ o, (wr.alloc o).cell? ⟨g2, o2 + k * 5, none⟩ = some (.int .u64 y.ts) := fun o => (World.cell?_of_block (a := ⟨g2, _, none⟩) ((new_below wr o).block g2 hg2)).trans (hC2 k y hy 0 _ rfl)
        have f1 : ∀ o, (wr.alloc o).cell? ⟨g2, o2 + k * 5 + 1, none⟩ = some (.int .u64 y.tx) := fun o => (World.cell?_of_block (a := ⟨g2, _, none⟩) ((new_below wr o).block g2 hg2)).trans (hC2 k y hy 1 _ rfl)
        have f2 : ∀ o, (wr.alloc o).cell? ⟨g2, o2 + k * 5 + 2, none⟩ = some (.bool y.dd) := fun o => (World.cell?_of_block (a := ⟨g2, _, none⟩) ((new_below wr o).block g2 hg2)).trans (hC2 k y hy 2 _ rfl)
        have f3 : ∀ o, (wr.alloc o).cell? ⟨g2, o2 + k * 5 + 3, none⟩ = some (.slice y.vl.a y.vl.n y.vl.c) := fun o => (World.cell?_of_block (a := ⟨g2, _, none⟩) ((new_below wr o).block g2 hg2)).trans (hC2 k y hy 3 _ rfl)
        have f4 : ∀ o, (wr.alloc o).cell? ⟨g2, o2 + k * 5 + 4, none⟩ = some (.slice y.ks.a y.ks.n y.ks.c) := fun o => (World.cell?_of_block (a := ⟨g2, _, none⟩) ((new_below wr o).block g2 hg2)).trans (hC2 k y hy 4 _ rfl)
        have HAx : Hid ((xs.map φ)[k]? = some (φ x)) := at_map hx
        have HAy : Hid ((ys.map φ)[k]? = some (φ y)) := at_map hy
        have HBn : Hid (Below wr.heap.size wr ((wr.alloc (.cells #[.int .u64 x.ts, .int .u64 x.tx, .bool x.dd, .slice x.vl.a x.vl.n x.vl.c, .slice x.ks.a x.ks.n x.ks.c] 135)).alloc (.cells #[.int .u64 y.ts, .int .u64 y.tx, .bool y.dd, .slice y.vl.a y.vl.n y.vl.c, .slice y.ks.a y.ks.n y.ks.c] 135))) := (new_below wr _).trans ((new_below _ _).mono (new_below wr _).size)
        have HC := hide (HE.out x (List.mem_of_getElem? hx) y (List.mem_of_getElem? hy) ((wr.alloc (.cells #[.int .u64 x.ts, .int .u64 x.tx, .bool x.dd, .slice x.vl.a x.vl.n x.vl.c, .slice x.ks.a x.ks.n x.ks.c] 135)).alloc (.cells #[.int .u64 y.ts, .int .u64 y.tx, .bool y.dd, .slice y.vl.a y.vl.n y.vl.c, .slice y.ks.a y.ks.n y.ks.c] 135)) (HB.out.trans (HBn.out.mono HB.out.size)))
        clear hx hy hC1 hC2
        obtain ⟨z, hz⟩ : ∃ z, decide (φ x = φ y) = z := ⟨_, rfl⟩
        rw [hz] at HC
        have HZ := hide hz
        clear hz
        cases z with
        | true =>
          go_wp2_with (first
            | (go_at_call 106; go_must (refine HC.out.mono ?_); rintro e w2 ⟨rfl, hb2⟩; have HB2 := hide (HBn.out.trans (hb2.mono HBn.out.size)); clear hb2))
          go_roundg (n - (k + 1))
          case measure => omega
          case rel => exact ⟨k + 1, rfl, by go_num, hlt, take_at HT.out HAx.out HAy.out (of_decide_eq_true HZ.out), HB.out.trans (HB2.out.mono HB.out.size)⟩
        | false =>
          have HR : Hid (decide (xs.map φ = ys.map φ) = false) := decide_eq_false (no_at HAx.out HAy.out (of_decide_eq_false HZ.out))
          go_wp2_with (first
            | (go_at_call 106; go_must (refine HC.out.mono ?_); rintro e w2 ⟨rfl, hb2⟩; have HB2 := hide (HBn.out.trans (hb2.mono HBn.out.size)); clear hb2))
          refine bodyPost_ret (v := .bool false) (by simp [results, Tryz.results105, go_sem]) rfl ⟨by rw [HR.out], HB.out.trans (HB2.out.mono HB.out.size)⟩
      · obtain rfl : k = n := by omega
        have HR : Hid (decide (xs.map φ = ys.map φ) = true) := decide_eq_true (take_all HT.out ((List.length_map _).trans HX.out.1) ((List.length_map _).trans HY.out.1))
        go_wp2
        go_ret
        exact ⟨by rw [HR.out]; rfl, HB.out⟩
  · have hl' : ¬ (n : Int) = (n' : Int) := by omega
    have HR : Hid (decide (xs.map φ = ys.map φ) = false) := decide_eq_false (fun e => hl (by have h1 := (List.length_map φ).trans HX.out.1; have h2 := (List.length_map φ).trans HY.out.1; rw [e] at h1; omega))
    go_enter Tryz.func105, Tryz.ntmps105
    go_wp2
    go_ret
    exact ⟨by rw [HR.out]; rfl, Below.refl _ _⟩

set_option maxHeartbeats 4000000 in
theorem efTb_any {β : Type} [DecidableEq β] (φ : MTb → β) (xs ys : List MTb) (a b : Option Addr) (n c n' c' : Nat) (w : World) (hx : IsY layTb w a n c xs) (hy : IsY layTb w b n' c' ys)
    (he : ∀ x ∈ xs, ∀ y ∈ ys, ∀ V, Below w.heap.size w V → Calls Tryz.prog 72 #[.agg #[.int .i64 x.id, .string (strB x.nm), .slice x.cs.a x.cs.n x.cs.c, .int .i64 x.ky, .slice x.ix.a x.ix.n x.ix.c], .agg #[.int .i64 y.id, .string (strB y.nm), .slice y.cs.a y.cs.n y.cs.c, .int .i64 y.ky, .slice y.ix.a y.ix.n y.ix.c]] V fun e w' => e = .returned (.bool (decide (φ x = φ y))) ∧ Below V.heap.size V w') :
    Calls Tryz.prog 71 #[.slice a n c, .slice b n' c', .func (.func 72) #[] #[]] w fun e w' => e = .returned (.bool (decide (xs.map φ = ys.map φ))) ∧ Below w.heap.size w w' := by
  have HX := hide hx
  have HY := hide hy
  have HE := hide he
  have hm : (n : Int) ≤ 9223372036854775807 := by have := hx.2.1; have := hx.2.2.1; unfold maxLen at this; omega
  clear hx hy he
  by_cases hl : n = n'
  · subst hl
    go_enter Tryz.func71, Tryz.ntmps71
    go_wp2
    go_loopg [17] n (fun gk ix wr => ∃ k : Nat, gk = n - k ∧ ix = .int .i64 k ∧ k ≤ n ∧ (xs.map φ).take k = (ys.map φ).take k ∧ Below w.heap.size w wr)
    case atStart => exact ⟨0, rfl, rfl, Nat.zero_le _, rfl, Below.refl _ _⟩
    case round =>
      obtain ⟨k, rfl, rfl, hk, hT, hB⟩ := hrel
      have HT := hide hT
      have HB := hide hB
      clear hT hB
      by_cases hlt : k < n
      · have hlt' : (k : Int) < (n : Int) := by omega
        obtain ⟨x, hx⟩ := at_of HX.out.1 hlt
        obtain ⟨y, hy⟩ := at_of HY.out.1 hlt
        obtain ⟨g1, o1, rfl, hg1, hC1⟩ := (HX.out.keep HB.out).at hlt
        obtain ⟨g2, o2, rfl, hg2, hC2⟩ := (HY.out.keep HB.out).at hlt
        have e0 : wr.cell? ⟨g1, o1 + k * 5, none⟩ = some (.int .i64 x.id) := hC1 k x hx 0 _ rfl
        have e1 : wr.cell? ⟨g1, o1 + k * 5 + 1, none⟩ = some (.string (strB x.nm)) := hC1 k x hx 1 _ rfl
        have e2 : wr.cell? ⟨g1, o1 + k * 5 + 2, none⟩ = some (.slice x.cs.a x.cs.n x.cs.c) := hC1 k x hx 2 _ rfl
        have e3 : wr.cell? ⟨g1, o1 + k * 5 + 3, none⟩ = some (.int .i64 x.ky) := hC1 k x hx 3 _ rfl
        have e4 : wr.cell? ⟨g1, o1 + k * 5 + 4, none⟩ = some (.slice x.ix.a x.ix.n x.ix.c) := hC1 k x hx 4 _ rfl
        have f0 : ∀ o, (wr.alloc o).cell? ⟨g2, o2 + k * 5, none⟩ = some (.int .i64 y.id) := fun o => (World.cell?_of_block (a := ⟨g2, _, none⟩) ((new_below wr o).block g2 hg2)).trans (hC2 k y hy 0 _ rfl)
        have f1 : ∀ o, (wr.alloc o).cell? ⟨g2, o2 + k * 5 + 1, none⟩ = some (.string (strB y.nm)) := fun o => (World.cell?_of_block (a := ⟨g2, _, none⟩) ((new_below wr o).block g2 hg2)).trans (hC2 k y hy 1 _ rfl)
        have f2 : ∀ o, (wr.alloc o).cell? ⟨g2, o2 + k * 5 + 2, none⟩ = some (.slice y.cs.a y.cs.n y.cs.c) := fun o => (World.cell?_of_block (a := ⟨g2, _, none⟩) ((new_below wr o).block g2 hg2)).trans (hC2 k y hy 2 _ rfl)
        have f3 : ∀ o, (wr.alloc o).cell? ⟨g2, o2 + k * 5 + 3, none⟩ = some (.int .i64 y.ky) := fun o => (World.cell?_of_block (a := ⟨g2, _, none⟩) ((new_below wr o).block g2 hg2)).trans (hC2 k y hy 3 _ rfl)
        have f4 : ∀ o, (wr.alloc o).cell? ⟨g2, o2 + k * 5 + 4, none⟩ = some (.slice y.ix.a y.ix.n y.ix.c) := fun o => (World.cell?_of_block (a := ⟨g2, _, none⟩) ((new_below wr o).block g2 hg2)).trans (hC2 k y hy 4 _ rfl)
        have HAx : Hid ((xs.map φ)[k]? = some (φ x)) := at_map hx
        have HAy : Hid ((ys.map φ)[k]? = some (φ y)) := at_map hy
        have HBn : Hid (Below wr.heap.size wr ((wr.alloc (.cells #[.int .i64 x.id, .string (strB x.nm), .slice x.cs.a x.cs.n x.cs.c, .int .i64 x.ky, .slice x.ix.a x.ix.n x.ix.c] 48)).alloc (.cells #[.int .i64 y.id, .string (strB y.nm), .slice y.cs.a y.cs.n y.cs.c, .int .i64 y.ky, .slice y.ix.a y.ix.n y.ix.c] 48))) := (new_below wr _).trans ((new_below _ _).mono (new_below wr _).size)
        have HC := hide (HE.out x (List.mem_of_getElem? hx) y (List.mem_of_getElem? hy) ((wr.alloc (.cells #[.int .i64 x.id, .string (strB x.nm), .slice x.cs.a x.cs.n x.cs.c, .int .i64 x.ky, .slice x.ix.a x.ix.n x.ix.c] 48)).alloc (.cells #[.int .i64 y.id, .string (strB y.nm), .slice y.cs.a y.cs.n y.cs.c, .int .i64 y.ky, .slice y.ix.a y.ix.n y.ix.c] 48)) (HB.out.trans (HBn.out.mono HB.out.size)))
        clear hx hy hC1 hC2
        obtain ⟨z, hz⟩ : ∃ z, decide (φ x = φ y) = z := ⟨_, rfl⟩
        rw [hz] at HC
        have HZ := hide hz
        clear hz
        cases z with
        | true =>
          go_wp2_with (first
            | (go_at_call 72; go_must (refine HC.out.mono ?_); rintro e w2 ⟨rfl, hb2⟩; have HB2 := hide (HBn.out.trans (hb2.mono HBn.out.size)); clear hb2))
          go_roundg (n - (k + 1))
          case measure => omega
          case rel => exact ⟨k + 1, rfl, by go_num, hlt, take_at HT.out HAx.out HAy.out (of_decide_eq_true HZ.out), HB.out.trans (HB2.out.mono HB.out.size)⟩
        | false =>
          have HR : Hid (decide (xs.map φ = ys.map φ) = false) := decide_eq_false (no_at HAx.out HAy.out (of_decide_eq_false HZ.out))
          go_wp2_with (first
            | (go_at_call 72; go_must (refine HC.out.mono ?_); rintro e w2 ⟨rfl, hb2⟩; have HB2 := hide (HBn.out.trans (hb2.mono HBn.out.size)); clear hb2))
          refine bodyPost_ret (v := .bool false) (by simp [results, Tryz.results71, go_sem]) rfl ⟨by rw [HR.out], HB.out.trans (HB2.out.mono HB.out.size)⟩
      · obtain rfl : k = n := by omega
        have HR : Hid (decide (xs.map φ = ys.map φ) = true) := decide_eq_true (take_all HT.out ((List.length_map _).trans HX.out.1) ((List.length_map _).trans HY.out.1))
        go_wp2
        go_ret
        exact ⟨by rw [HR.out]; rfl, HB.out⟩
  · have hl' : ¬ (n : Int) = (n' : Int) := by omega
    have HR : Hid (decide (xs.map φ = ys.map φ) = false) := decide_eq_false (fun e => hl (by have h1 := (List.length_map φ).trans HX.out.1; have h2 := (List.length_map φ).trans HY.out.1; rw [e] at h1; omega))
    go_enter Tryz.func71, Tryz.ntmps71
    go_wp2
    go_ret
    exact ⟨by rw [HR.out]; rfl, Below.refl _ _⟩

set_option maxHeartbeats 4000000 in
theorem efCe_any {β : Type} [DecidableEq β] (φ : MCe → β) (xs ys : List MCe) (a b : Option Addr) (n c n' c' : Nat) (w : World) (hx : IsY layCe w a n c xs) (hy : IsY layCe w b n' c' ys)
    (he : ∀ x ∈ xs, ∀ y ∈ ys, ∀ V, Below w.heap.size w V → Calls Tryz.prog 70 #[.agg #[.slice x.key.a x.key.n x.key.c, .slice x.vs.a x.vs.n x.vs.c, .int .u64 x.it.ts, .int .u64 x.it.tx, .bool x.it.dd, .slice x.it.vl.a x.it.vl.n x.it.vl.c, .slice x.it.ks.a x.it.ks.n x.it.ks.c], .agg #[.slice y.key.a y.key.n y.key.c, .slice y.vs.a y.vs.n y.vs.c, .int .u64 y.it.ts, .int .u64 y.it.tx, .bool y.it.dd, .slice y.it.vl.a y.it.vl.n y.it.vl.c, .slice y.it.ks.a y.it.ks.n y.it.ks.c]] V fun e w' => e = .returned (.bool (decide (φ x = φ y))) ∧ Below V.heap.size V w') :
    Calls Tryz.prog 69 #[.slice a n c, .slice b n' c', .func (.func 70) #[] #[]] w fun e w' => e = .returned (.bool (decide (xs.map φ = ys.map φ))) ∧ Below w.heap.size w w' := by
  have HX := hide hx
  have HY := hide hy
  have HE := hide he
  have hm : (n : Int) ≤ 9223372036854775807 := by have := hx.2.1; have := hx.2.2.1; unfold maxLen at this; omega
  clear hx hy he
  by_cases hl : n = n'
  · subst hl
    go_enter Tryz.func69, Tryz.ntmps69
    go_wp2
    go_loopg [17] n (fun gk ix wr => ∃ k : Nat, gk = n - k ∧ ix = .int .i64 k ∧ k ≤ n ∧ (xs.map φ).take k = (ys.map φ).take k ∧ Below w.heap.size w wr)
    case atStart => exact ⟨0, rfl, rfl, Nat.zero_le _, rfl, Below.refl _ _⟩
    case round =>
      obtain ⟨k, rfl, rfl, hk, hT, hB⟩ := hrel
      have HT := hide hT
      have HB := hide hB
      clear hT hB
      by_cases hlt : k < n
      · have hlt' : (k : Int) < (n : Int) := by omega
        obtain ⟨x, hx⟩ := at_of HX.out.1 hlt
        obtain ⟨y, hy⟩ := at_of HY.out.1 hlt
        obtain ⟨g1, o1, rfl, hg1, hC1⟩ := (HX.out.keep HB.out).at hlt
        obtain ⟨g2, o2, rfl, hg2, hC2⟩ := (HY.out.keep HB.out).at hlt
        have e0 : wr.cell? ⟨g1, o1 + k * 7, none⟩ = some (.slice x.key.a x.key.n x.key.c) := hC1 k x hx 0 _ rfl
        have e1 : wr.cell? ⟨g1, o1 + k * 7 + 1, none⟩ = some (.slice x.vs.a x.vs.n x.vs.c) := hC1 k x hx 1 _ rfl
        have e2 : wr.cell? ⟨g1, o1 + k * 7 + 2, none⟩ = some (.int .u64 x.it.ts) := hC1 k x hx 2 _ rfl
        have e3 : wr.cell? ⟨g1, o1 + k * 7 + 3, none⟩ = some (.int .u64 x.it.tx) := hC1 k x hx 3 _ rfl
        have e4 : wr.cell? ⟨g1, o1 + k * 7 + 4, none⟩ = some (.bool x.it.dd) := hC1 k x hx 4 _ rfl
        have e5 : wr.cell? ⟨g1, o1 + k * 7 + 5, none⟩ = some (.slice x.it.vl.a x.it.vl.n x.it.vl.c) := hC1 k x hx 5 _ rfl
        have e6 : wr.cell? ⟨g1, o1 + k * 7 + 6, none⟩ = some (.slice x.it.ks.a x.it.ks.n x.it.ks.c) := hC1 k x hx 6 _ rfl
        have f0 : ∀ o, (wr.alloc o).cell? ⟨g2, o2 + k * 7, none⟩ = some (.slice y.key.a y.key.n y.key.c) := fun o => (World.cell?_of_block (a := ⟨g2, _, none⟩) ((new_below wr o).block g2 hg2)).trans (hC2 k y hy 0 _ rfl)
        have f1 : ∀ o, (wr.alloc o).cell? ⟨g2, o2 + k * 7 + 1, none⟩ = some (.slice y.vs.a y.vs.n y.vs.c) := fun o => (World.cell?_of_block (a := ⟨g2, _, none⟩) ((new_below wr o).block g2 hg2)).trans (hC2 k y hy 1 _ rfl)
        have f2 : ∀ o, (wr.alloc o).cell? ⟨g2, o2 + k * 7 + 2, none⟩ = some (.int .u64 y.it.ts) := fun o => (World.cell?_of_block (a := ⟨g2, _, none⟩) ((new_below wr o).block g2 hg2)).trans (hC2 k y hy 2 _ rfl)
        have f3 : ∀ o, (wr.alloc o).cell? ⟨g2, o2 + k * 7 + 3, none⟩ = some (.int .u64 y.it.tx) := fun o => (World.cell?_of_block (a := ⟨g2, _, none⟩) ((new_below wr o).block g2 hg2)).trans (hC2 k y hy 3 _ rfl)
        have f4 : ∀ o, (wr.alloc o).cell? ⟨g2, o2 + k * 7 + 4, none⟩ = some (.bool y.it.dd) := fun o => (World.cell?_of_block (a := ⟨g2, _, none⟩) ((new_below wr o).block g2 hg2)).trans (hC2 k y hy 4 _ rfl)
        have f5 : ∀ o, (wr.alloc o).cell? ⟨g2, o2 + k * 7 + 5, none⟩ = some (.slice y.it.vl.a y.it.vl.n y.it.vl.c) := fun o => (World.cell?_of_block (a := ⟨g2, _, none⟩) ((new_below wr o).block g2 hg2)).trans (hC2 k y hy 5 _ rfl)
        have f6 : ∀ o, (wr.alloc o).cell? ⟨g2, o2 + k * 7 + 6, none⟩ = some (.slice y.it.ks.a y.it.ks.n y.it.ks.c) := fun o => (World.cell?_of_block (a := ⟨g2, _, none⟩) ((new_below wr o).block g2 hg2)).trans (hC2 k y hy 6 _ rfl)
        have HAx : Hid ((xs.map φ)[k]? = some (φ x)) := at_map hx
        have HAy : Hid ((ys.map φ)[k]? = some (φ y)) := at_map hy
        have HBn : Hid (Below wr.heap.size wr ((wr.alloc (.cells #[.slice x.key.a x.key.n x.key.c, .slice x.vs.a x.vs.n x.vs.c, .int .u64 x.it.ts, .int .u64 x.it.tx, .bool x.it.dd, .slice x.it.vl.a x.it.vl.n x.it.vl.c, .slice x.it.ks.a x.it.ks.n x.it.ks.c] 137)).alloc (.cells #[.slice y.key.a y.key.n y.key.c, .slice y.vs.a y.vs.n y.vs.c, .int .u64 y.it.ts, .int .u64 y.it.tx, .bool y.it.dd, .slice y.it.vl.a y.it.vl.n y.it.vl.c, .slice y.it.ks.a y.it.ks.n y.it.ks.c] 137))) := (new_below wr _).trans ((new_below _ _).mono (new_below wr _).size)
        have HC := hide (HE.out x (List.mem_of_getElem? hx) y (List.mem_of_getElem? hy) ((wr.alloc (.cells #[.slice x.key.a x.key.n x.key.c, .slice x.vs.a x.vs.n x.vs.c, .int .u64 x.it.ts, .int .u64 x.it.tx, .bool x.it.dd, .slice x.it.vl.a x.it.vl.n x.it.vl.c, .slice x.it.ks.a x.it.ks.n x.it.ks.c] 137)).alloc (.cells #[.slice y.key.a y.key.n y.key.c, .slice y.vs.a y.vs.n y.vs.c, .int .u64 y.it.ts, .int .u64 y.it.tx, .bool y.it.dd, .slice y.it.vl.a y.it.vl.n y.it.vl.c, .slice y.it.ks.a y.it.ks.n y.it.ks.c] 137)) (HB.out.trans (HBn.out.mono HB.out.size)))
        clear hx hy hC1 hC2
        obtain ⟨z, hz⟩ : ∃ z, decide (φ x = φ y) = z := ⟨_, rfl⟩
        rw [hz] at HC
        have HZ := hide hz
        clear hz
        cases z with
        | true =>
          go_wp2_with (first
            | (go_at_call 70; go_must (refine HC.out.mono ?_); rintro e w2 ⟨rfl, hb2⟩; have HB2 := hide (HBn.out.trans (hb2.mono HBn.out.size)); clear hb2))
          go_roundg (n - (k + 1))
          case measure => omega
          case rel => exact ⟨k + 1, rfl, by go_num, hlt, take_at HT.out HAx.out HAy.out (of_decide_eq_true HZ.out), HB.out.trans (HB2.out.mono HB.out.size)⟩
        | false =>
          have HR : Hid (decide (xs.map φ = ys.map φ) = false) := decide_eq_false (no_at HAx.out HAy.out (of_decide_eq_false HZ.out))
          go_wp2_with (first
            | (go_at_call 70; go_must (refine HC.out.mono ?_); rintro e w2 ⟨rfl, hb2⟩; have HB2 := hide (HBn.out.trans (hb2.mono HBn.out.size)); clear hb2))
          refine bodyPost_ret (v := .bool false) (by simp [results, Tryz.results69, go_sem]) rfl ⟨by rw [HR.out], HB.out.trans (HB2.out.mono HB.out.size)⟩
      · obtain rfl : k = n := by omega
        have HR : Hid (decide (xs.map φ = ys.map φ) = true) := decide_eq_true (take_all HT.out ((List.length_map _).trans HX.out.1) ((List.length_map _).trans HY.out.1))
        go_wp2
        go_ret
        exact ⟨by rw [HR.out]; rfl, HB.out⟩
  · have hl' : ¬ (n : Int) = (n' : Int) := by omega
    have HR : Hid (decide (xs.map φ = ys.map φ) = false) := decide_eq_false (fun e => hl (by have h1 := (List.length_map φ).trans HX.out.1; have h2 := (List.length_map φ).trans HY.out.1; rw [e] at h1; omega))
    go_enter Tryz.func69, Tryz.ntmps69
    go_wp2
    go_ret
    exact ⟨by rw [HR.out]; rfl, Below.refl _ _⟩

set_option maxHeartbeats 4000000 in
theorem efTx_any {β : Type} [DecidableEq β] (φ : MB → β) (xs ys : List MB) (a b : Option Addr) (n c n' c' : Nat) (w : World) (hx : IsY layT w a n c xs) (hy : IsY layT w b n' c' ys)
    (he : ∀ x ∈ xs, ∀ y ∈ ys, ∀ V, Below w.heap.size w V → Calls Tryz.prog 104 #[.slice x.a x.n x.c, .slice y.a y.n y.c] V fun e w' => e = .returned (.bool (decide (φ x = φ y))) ∧ Below V.heap.size V w') :
    Calls Tryz.prog 136 #[.slice a n c, .slice b n' c', .func (.func 104) #[] #[]] w fun e w' => e = .returned (.bool (decide (xs.map φ = ys.map φ))) ∧ Below w.heap.size w w' := by
  have HX := hide hx
  have HY := hide hy
  have HE := hide he
  have hm : (n : Int) ≤ 9223372036854775807 := by have := hx.2.1; have := hx.2.2.1; unfold maxLen at this; omega
  clear hx hy he
  by_cases hl : n = n'
  · subst hl
    go_enter Tryz.func136, Tryz.ntmps136
    go_wp2
    go_loopg [17] n (fun gk ix wr => ∃ k : Nat, gk = n - k ∧ ix = .int .i64 k ∧ k ≤ n ∧ (xs.map φ).take k = (ys.map φ).take k ∧ Below w.heap.size w wr)
    case atStart => exact ⟨0, rfl, rfl, Nat.zero_le _, rfl, Below.refl _ _⟩
    case round =>
      obtain ⟨k, rfl, rfl, hk, hT, hB⟩ := hrel
      have HT := hide hT
      have HB := hide hB
      clear hT hB
      by_cases hlt : k < n
      · have hlt' : (k : Int) < (n : Int) := by omega
        obtain ⟨x, hx⟩ := at_of HX.out.1 hlt
        obtain ⟨y, hy⟩ := at_of HY.out.1 hlt
        obtain ⟨g1, o1, rfl, hg1, hC1⟩ := (HX.out.keep HB.out).at hlt
        obtain ⟨g2, o2, rfl, hg2, hC2⟩ := (HY.out.keep HB.out).at hlt
        have e0 : wr.cell? ⟨g1, o1 + k, none⟩ = some (.slice x.a x.n x.c) := (by simpa [layT] using hC1 k x hx 0 _ rfl)
        have f0 : wr.cell? ⟨g2, o2 + k, none⟩ = some (.slice y.a y.n y.c) := (by simpa [layT] using hC2 k y hy 0 _ rfl)
        have HAx : Hid ((xs.map φ)[k]? = some (φ x)) := at_map hx
        have HAy : Hid ((ys.map φ)[k]? = some (φ y)) := at_map hy
        have HBn : Hid (Below wr.heap.size wr wr) := Below.refl _ _
        have HC := hide (HE.out x (List.mem_of_getElem? hx) y (List.mem_of_getElem? hy) wr (HB.out.trans (HBn.out.mono HB.out.size)))
        clear hx hy hC1 hC2
        obtain ⟨z, hz⟩ : ∃ z, decide (φ x = φ y) = z := ⟨_, rfl⟩
        rw [hz] at HC
        have HZ := hide hz
        clear hz
        cases z with
        | true =>
          go_wp2_with (first
            | (go_at_call 104; go_must (refine HC.out.mono ?_); rintro e w2 ⟨rfl, hb2⟩; have HB2 := hide (HBn.out.trans (hb2.mono HBn.out.size)); clear hb2))
          go_roundg (n - (k + 1))
          case measure => omega
          case rel => exact ⟨k + 1, rfl, by go_num, hlt, take_at HT.out HAx.out HAy.out (of_decide_eq_true HZ.out), HB.out.trans (HB2.out.mono HB.out.size)⟩
        | false =>
          have HR : Hid (decide (xs.map φ = ys.map φ) = false) := decide_eq_false (no_at HAx.out HAy.out (of_decide_eq_false HZ.out))
          go_wp2_with (first
            | (go_at_call 104; go_must (refine HC.out.mono ?_); rintro e w2 ⟨rfl, hb2⟩; have HB2 := hide (HBn.out.trans (hb2.mono HBn.out.size)); clear hb2))
          refine bodyPost_ret (v := .bool false) (by simp [results, Tryz.results136, go_sem]) rfl ⟨by rw [HR.out], HB.out.trans (HB2.out.mono HB.out.size)⟩
      · obtain rfl : k = n := by omega
        have HR : Hid (decide (xs.map φ = ys.map φ) = true) := decide_eq_true (take_all HT.out ((List.length_map _).trans HX.out.1) ((List.length_map _).trans HY.out.1))
        go_wp2
        go_ret
        exact ⟨by rw [HR.out]; rfl, HB.out⟩
  · have hl' : ¬ (n : Int) = (n' : Int) := by omega
    have HR : Hid (decide (xs.map φ = ys.map φ) = false) := decide_eq_false (fun e => hl (by have h1 := (List.length_map φ).trans HX.out.1; have h2 := (List.length_map φ).trans HY.out.1; rw [e] at h1; omega))
    go_enter Tryz.func136, Tryz.ntmps136
    go_wp2
    go_ret
    exact ⟨by rw [HR.out]; rfl, Below.refl _ _⟩

end Go.Proofs.YtcgiicmmfleinaaGreatDoor

namespace Go.Proofs.YtcgiicmmfleinaaGreatDoor
open Go.RowKit NumMath Go.ChangeShapes Go.WideShapes Go.Deep
set_option linter.unusedVariables false
set_option maxRecDepth 100000

theorem neSt2 (x y : Sta) (w : World) : (binOp .neq 80 (.agg #[.int .u64 x.tx, .int .i64 x.st, .int .u64 x.ts]) (.agg #[.int .u64 y.tx, .int .i64 y.st, .int .u64 y.ts])).run Tryz.prog w = .ok (.bool (!decide (x = y))) w := by
  rw [neSt]
  have e : (x.tx == y.tx && (x.st == y.st && x.ts == y.ts)) = decide (x = y) := by
    obtain ⟨a, b, c⟩ := x
    obtain ⟨a', b', c'⟩ := y
    rw [Bool.eq_iff_iff]
    simp [Sta.mk.injEq]
  rw [e]

theorem neCo (s : List Int) (b : Int) (c : Bool) (s' : List Int) (b' : Int) (c' : Bool) (w : World) : (binOp .neq 73 (.agg #[.string (strB s), .int .i64 b, .bool c]) (.agg #[.string (strB s'), .int .i64 b', .bool c'])).run Tryz.prog w = .ok (.bool (!((strB s).toList == (strB s').toList && (b == b' && c == c')))) w := by
  have u3 := Tryz.underlying3
  have a3 := Tryz.isAgg3
  have z3 := Tryz.sizeOf3
  have u4 := Tryz.underlying9
  have a4 := Tryz.isAgg9
  have z4 := Tryz.sizeOf9
  have u5 := Tryz.underlying4
  have a5 := Tryz.isAgg4
  have z5 := Tryz.sizeOf4
  have hS : Tryz.prog.underlying 73 = some (.struct (Tryz.prog.fieldsOf 73)) := by kernel_rfl
  have hp : Tryz.prog.stoodInHeld 73 = false := by kernel_rfl
  rw [run_neq_struct, show (10000 : Nat) = 9999 + 1 from rfl, run_equalIn_agg w 9999 73 _ _ hS hp]
  simp only [Program.fieldsOf, Tryz.underlying73]
  go_simp
  by_cases h1 : (strB s).toList = (strB s').toList <;> by_cases h2 : b = b' <;> by_cases h3 : c = c' <;> simp [h1, h2, h3]

/-- a column as the program holds it against another -/
def Colm.b (c : Colm) : List UInt8 × Int × Bool := ((strB c.n).toList, c.k, c.nn)

theorem neCo2 (x y : Colm) (w : World) : (binOp .neq 73 (.agg #[.string (strB x.n), .int .i64 x.k, .bool x.nn]) (.agg #[.string (strB y.n), .int .i64 y.k, .bool y.nn])).run Tryz.prog w = .ok (.bool (!decide (x.b = y.b))) w := by
  rw [neCo]
  have e : ((strB x.n).toList == (strB y.n).toList && (x.k == y.k && x.nn == y.nn)) = decide (x.b = y.b) := by
    unfold Colm.b
    rw [Bool.eq_iff_iff]
    simp
  rw [e]

set_option maxHeartbeats 2000000 in
theorem eqSt_any (xs ys : List Sta) (a b : Option Addr) (n c n' c' : Nat) (w : World) (hx : IsY laySt w a n c xs) (hy : IsY laySt w b n' c' ys) :
    Calls Tryz.prog 68 #[.slice a n c, .slice b n' c'] w fun e w' => e = .returned (.bool (decide (xs = ys))) ∧ Below w.heap.size w w' := by
  have HX := hide hx
  have HY := hide hy
  have hm : (n : Int) ≤ 9223372036854775807 := by have := hx.2.1; have := hx.2.2.1; unfold maxLen at this; omega
  clear hx hy
  by_cases hl : n = n'
  · subst hl
    go_enter Tryz.func68, Tryz.ntmps68
    go_wp2
    go_loopg [13] n (fun gk ix wr => ∃ k : Nat, gk = n - k ∧ ix = .int .i64 k ∧ k ≤ n ∧ xs.take k = ys.take k ∧ Below w.heap.size w wr)
    case atStart => exact ⟨0, rfl, rfl, Nat.zero_le _, rfl, Below.refl _ _⟩
    case round =>
      obtain ⟨k, rfl, rfl, hk, hT, hB⟩ := hrel
      have HT := hide hT
      have HB := hide hB
      clear hT hB
      by_cases hlt : k < n
      · have hlt' : (k : Int) < (n : Int) := by omega
        obtain ⟨x, hx⟩ := at_of HX.out.1 hlt
        obtain ⟨y, hy⟩ := at_of HY.out.1 hlt
        obtain ⟨g1, o1, rfl, hg1, hC1⟩ := (HX.out.keep HB.out).at hlt
        obtain ⟨g2, o2, rfl, hg2, hC2⟩ := (HY.out.keep HB.out).at hlt
        have e0 : wr.cell? ⟨g1, o1 + k * 3, none⟩ = some (.int .u64 x.tx) := hC1 k x hx 0 _ rfl
        have e1 : wr.cell? ⟨g1, o1 + k * 3 + 1, none⟩ = some (.int .i64 x.st) := hC1 k x hx 1 _ rfl
        have e2 : wr.cell? ⟨g1, o1 + k * 3 + 2, none⟩ = some (.int .u64 x.ts) := hC1 k x hx 2 _ rfl
        have f0 : wr.cell? ⟨g2, o2 + k * 3, none⟩ = some (.int .u64 y.tx) := hC2 k y hy 0 _ rfl
        have f1 : wr.cell? ⟨g2, o2 + k * 3 + 1, none⟩ = some (.int .i64 y.st) := hC2 k y hy 1 _ rfl
        have f2 : wr.cell? ⟨g2, o2 + k * 3 + 2, none⟩ = some (.int .u64 y.ts) := hC2 k y hy 2 _ rfl
        have HAx : Hid (xs[k]? = some x) := hx
        have HAy : Hid (ys[k]? = some y) := hy
        clear hx hy hC1 hC2
        by_cases hxy : x = y
        · skip
          subst hxy
          have hne : ∀ W, (binOp .neq 80 (.agg #[.int .u64 x.tx, .int .i64 x.st, .int .u64 x.ts]) (.agg #[.int .u64 x.tx, .int .i64 x.st, .int .u64 x.ts])).run Tryz.prog W = .ok (.bool false) W := fun W => by rw [neSt2]; simp
          go_wp2
          go_quiet (fail)
          go_wp2
          go_roundg (n - (k + 1))
          case measure => omega
          case rel => exact ⟨k + 1, rfl, by go_num, hlt, take_at HT.out HAx.out HAy.out rfl, below_drewN HB.out _⟩
        · have HR : Hid (decide (xs = ys) = false) := decide_eq_false (no_at HAx.out HAy.out hxy)
          have hne : ∀ W, (binOp .neq 80 (.agg #[.int .u64 x.tx, .int .i64 x.st, .int .u64 x.ts]) (.agg #[.int .u64 y.tx, .int .i64 y.st, .int .u64 y.ts])).run Tryz.prog W = .ok (.bool true) W := fun W => by rw [neSt2]; simp [hxy]
          go_wp2
          go_quiet (fail)
          go_wp2
          refine bodyPost_ret (v := .bool false) (by simp [results, Tryz.results68, go_sem]) rfl ⟨by rw [HR.out], below_drewN HB.out _⟩
      · obtain rfl : k = n := by omega
        have HR : Hid (decide (xs = ys) = true) := decide_eq_true (take_all HT.out HX.out.1 HY.out.1)
        go_wp2
        go_ret
        exact ⟨by rw [HR.out]; rfl, HB.out⟩
  · have hl' : ¬ (n : Int) = (n' : Int) := by omega
    have HR : Hid (decide (xs = ys) = false) := decide_eq_false (fun e => hl (by have h1 := HX.out.1; have h2 := HY.out.1; rw [e] at h1; omega))
    go_enter Tryz.func68, Tryz.ntmps68
    go_wp2
    go_ret
    exact ⟨by rw [HR.out]; rfl, Below.refl _ _⟩

set_option maxHeartbeats 2000000 in
theorem eqIn_any (xs ys : List Int) (a b : Option Addr) (n c n' c' : Nat) (w : World) (hx : IsY layIx w a n c xs) (hy : IsY layIx w b n' c' ys) :
    Calls Tryz.prog 108 #[.slice a n c, .slice b n' c'] w fun e w' => e = .returned (.bool (decide (xs = ys))) ∧ Below w.heap.size w w' := by
  have HX := hide hx
  have HY := hide hy
  have hm : (n : Int) ≤ 9223372036854775807 := by have := hx.2.1; have := hx.2.2.1; unfold maxLen at this; omega
  clear hx hy
  by_cases hl : n = n'
  · subst hl
    go_enter Tryz.func108, Tryz.ntmps108
    go_wp2
    go_loopg [13] n (fun gk ix wr => ∃ k : Nat, gk = n - k ∧ ix = .int .i64 k ∧ k ≤ n ∧ xs.take k = ys.take k ∧ Below w.heap.size w wr)
    case atStart => exact ⟨0, rfl, rfl, Nat.zero_le _, rfl, Below.refl _ _⟩
    case round =>
      obtain ⟨k, rfl, rfl, hk, hT, hB⟩ := hrel
      have HT := hide hT
      have HB := hide hB
      clear hT hB
      by_cases hlt : k < n
      · have hlt' : (k : Int) < (n : Int) := by omega
        obtain ⟨x, hx⟩ := at_of HX.out.1 hlt
        obtain ⟨y, hy⟩ := at_of HY.out.1 hlt
        obtain ⟨g1, o1, rfl, hg1, hC1⟩ := (HX.out.keep HB.out).at hlt
        obtain ⟨g2, o2, rfl, hg2, hC2⟩ := (HY.out.keep HB.out).at hlt
        have e0 : wr.cell? ⟨g1, o1 + k, none⟩ = some (.int .i64 x) := by simpa [layIx] using hC1 k x hx 0 _ rfl
        have f0 : wr.cell? ⟨g2, o2 + k, none⟩ = some (.int .i64 y) := by simpa [layIx] using hC2 k y hy 0 _ rfl
        have HAx : Hid (xs[k]? = some x) := hx
        have HAy : Hid (ys[k]? = some y) := hy
        clear hx hy hC1 hC2
        by_cases hxy : x = y
        · skip
          subst hxy
          have d1 : decide (x = x) = true := by simp
          go_wp2
          go_quiet (fail)
          go_wp2
          go_roundg (n - (k + 1))
          case measure => omega
          case rel => exact ⟨k + 1, rfl, by go_num, hlt, take_at HT.out HAx.out HAy.out rfl, below_drewN HB.out _⟩
        · have HR : Hid (decide (xs = ys) = false) := decide_eq_false (no_at HAx.out HAy.out hxy)
          have d1 : decide (x = y) = false := by simpa using hxy
          have d2 : (x == y) = false := by simpa using hxy
          go_wp2
          go_quiet (fail)
          go_wp2
          refine bodyPost_ret (v := .bool false) (by simp [results, Tryz.results108, go_sem]) rfl ⟨by rw [HR.out], below_drewN HB.out _⟩
      · obtain rfl : k = n := by omega
        have HR : Hid (decide (xs = ys) = true) := decide_eq_true (take_all HT.out HX.out.1 HY.out.1)
        go_wp2
        go_ret
        exact ⟨by rw [HR.out]; rfl, HB.out⟩
  · have hl' : ¬ (n : Int) = (n' : Int) := by omega
    have HR : Hid (decide (xs = ys) = false) := decide_eq_false (fun e => hl (by have h1 := HX.out.1; have h2 := HY.out.1; rw [e] at h1; omega))
    go_enter Tryz.func108, Tryz.ntmps108
    go_wp2
    go_ret
    exact ⟨by rw [HR.out]; rfl, Below.refl _ _⟩

set_option maxHeartbeats 2000000 in
theorem eqCo_any (xs ys : List Colm) (a b : Option Addr) (n c n' c' : Nat) (w : World) (hx : IsY layCo w a n c xs) (hy : IsY layCo w b n' c' ys) :
    Calls Tryz.prog 107 #[.slice a n c, .slice b n' c'] w fun e w' => e = .returned (.bool (decide ((xs.map Colm.b) = (ys.map Colm.b)))) ∧ Below w.heap.size w w' := by
  have HX := hide hx
  have HY := hide hy
  have hm : (n : Int) ≤ 9223372036854775807 := by have := hx.2.1; have := hx.2.2.1; unfold maxLen at this; omega
  clear hx hy
  by_cases hl : n = n'
  · subst hl
    go_enter Tryz.func107, Tryz.ntmps107
    go_wp2
    go_loopg [13] n (fun gk ix wr => ∃ k : Nat, gk = n - k ∧ ix = .int .i64 k ∧ k ≤ n ∧ (xs.map Colm.b).take k = (ys.map Colm.b).take k ∧ Below w.heap.size w wr)
    case atStart => exact ⟨0, rfl, rfl, Nat.zero_le _, rfl, Below.refl _ _⟩
    case round =>
      obtain ⟨k, rfl, rfl, hk, hT, hB⟩ := hrel
      have HT := hide hT
      have HB := hide hB
      clear hT hB
      by_cases hlt : k < n
      · have hlt' : (k : Int) < (n : Int) := by omega
        obtain ⟨x, hx⟩ := at_of HX.out.1 hlt
        obtain ⟨y, hy⟩ := at_of HY.out.1 hlt
        obtain ⟨g1, o1, rfl, hg1, hC1⟩ := (HX.out.keep HB.out).at hlt
        obtain ⟨g2, o2, rfl, hg2, hC2⟩ := (HY.out.keep HB.out).at hlt
        have e0 : wr.cell? ⟨g1, o1 + k * 3, none⟩ = some (.string (strB x.n)) := hC1 k x hx 0 _ rfl
        have e1 : wr.cell? ⟨g1, o1 + k * 3 + 1, none⟩ = some (.int .i64 x.k) := hC1 k x hx 1 _ rfl
        have e2 : wr.cell? ⟨g1, o1 + k * 3 + 2, none⟩ = some (.bool x.nn) := hC1 k x hx 2 _ rfl
        have f0 : wr.cell? ⟨g2, o2 + k * 3, none⟩ = some (.string (strB y.n)) := hC2 k y hy 0 _ rfl
        have f1 : wr.cell? ⟨g2, o2 + k * 3 + 1, none⟩ = some (.int .i64 y.k) := hC2 k y hy 1 _ rfl
        have f2 : wr.cell? ⟨g2, o2 + k * 3 + 2, none⟩ = some (.bool y.nn) := hC2 k y hy 2 _ rfl
        have HAx : Hid ((xs.map Colm.b)[k]? = some x.b) := by show _ = _; rw [List.getElem?_map, hx]; rfl
        have HAy : Hid ((ys.map Colm.b)[k]? = some y.b) := by show _ = _; rw [List.getElem?_map, hy]; rfl
        clear hx hy hC1 hC2
        by_cases hxy : x.b = y.b
        · skip
          have hne : ∀ W, (binOp .neq 73 (.agg #[.string (strB x.n), .int .i64 x.k, .bool x.nn]) (.agg #[.string (strB y.n), .int .i64 y.k, .bool y.nn])).run Tryz.prog W = .ok (.bool false) W := fun W => by rw [neCo2]; simp [hxy]
          go_wp2
          go_quiet (fail)
          go_wp2
          go_roundg (n - (k + 1))
          case measure => omega
          case rel => exact ⟨k + 1, rfl, by go_num, hlt, take_at HT.out HAx.out HAy.out hxy, below_drewN HB.out _⟩
        · have HR : Hid (decide ((xs.map Colm.b) = (ys.map Colm.b)) = false) := decide_eq_false (no_at HAx.out HAy.out hxy)
          have hne : ∀ W, (binOp .neq 73 (.agg #[.string (strB x.n), .int .i64 x.k, .bool x.nn]) (.agg #[.string (strB y.n), .int .i64 y.k, .bool y.nn])).run Tryz.prog W = .ok (.bool true) W := fun W => by rw [neCo2]; simp [hxy]
          go_wp2
          go_quiet (fail)
          go_wp2
          refine bodyPost_ret (v := .bool false) (by simp [results, Tryz.results107, go_sem]) rfl ⟨by rw [HR.out], below_drewN HB.out _⟩
      · obtain rfl : k = n := by omega
        have HR : Hid (decide ((xs.map Colm.b) = (ys.map Colm.b)) = true) := decide_eq_true (take_all HT.out ((List.length_map Colm.b).trans HX.out.1) ((List.length_map Colm.b).trans HY.out.1))
        go_wp2
        go_ret
        exact ⟨by rw [HR.out]; rfl, HB.out⟩
  · have hl' : ¬ (n : Int) = (n' : Int) := by omega
    have HR : Hid (decide ((xs.map Colm.b) = (ys.map Colm.b)) = false) := decide_eq_false (fun e => hl (by have h1 := ((List.length_map Colm.b).trans HX.out.1); have h2 := ((List.length_map Colm.b).trans HY.out.1); rw [e] at h1; omega))
    go_enter Tryz.func107, Tryz.ntmps107
    go_wp2
    go_ret
    exact ⟨by rw [HR.out]; rfl, Below.refl _ _⟩

end Go.Proofs.YtcgiicmmfleinaaGreatDoor

namespace Go.Proofs.YtcgiicmmfleinaaGreatDoor
open Go.RowKit NumMath Go.ChangeShapes Go.WideShapes Go.Deep
set_option linter.unusedVariables false
set_option maxRecDepth 100000

theorem two_boxes (w : World) (cx cy : Array Value) (tx ty : TypeId) (V : World) (hb : Below ((w.alloc (.cells cx tx)).alloc (.cells cy ty)).heap.size ((w.alloc (.cells cx tx)).alloc (.cells cy ty)) V) :
    V.rangeAt w.heap.size 0 cx.toList ∧ V.rangeAt (w.heap.size + 1) 0 cy.toList := by
  have l1 : w.heap.size < (w.alloc (.cells cx tx)).heap.size := (Array.getElem?_eq_some_iff.1 (heap_alloc_new _ _)).1
  have e1 : (w.alloc (.cells cx tx)).heap.size = w.heap.size + 1 := by simp
  have l2 : (w.alloc (.cells cx tx)).heap.size < ((w.alloc (.cells cx tx)).alloc (.cells cy ty)).heap.size := (Array.getElem?_eq_some_iff.1 (heap_alloc_new _ _)).1
  exact ⟨rangeY_same (rangeY_same (rangeY_new w _ cx tx rfl) ((new_below _ _).block _ l1)) (hb.block _ (by omega)), rangeY_same (rangeY_new (w.alloc (.cells cx tx)) (w.heap.size + 1) cy ty e1) (hb.block _ (by omega))⟩

set_option synthInstance.maxSize 4096
set_option synthInstance.maxHeartbeats 400000

/-- a table as the program holds it against another -/
def TbP : Type := Int × List UInt8 × List (List UInt8 × Int × Bool) × Int × List Int

instance : DecidableEq TbP := inferInstanceAs (DecidableEq (Int × List UInt8 × List (List UInt8 × Int × Bool) × Int × List Int))

def MTb.b (m : MTb) : TbP := (m.id, (strB m.nm).toList, m.cs.xs.map Colm.b, m.ky, m.ix.xs)

/-- a result that a law is handed -/
structure MRr where
  er : Int
  tx : Int
  ts : Int
  fl : Bool
  ss : Sl Sta
  ce : Sl MCe
  tb : Sl MTb

def ReP : Type := Int × Int × Int × Bool × List Sta × List CeP × List TbP

instance : DecidableEq ReP := inferInstanceAs (DecidableEq (Int × Int × Int × Bool × List Sta × List CeP × List TbP))

def MRr.p (m : MRr) : ReP :=
  (m.er, m.tx, m.ts, m.fl, m.ss.xs, m.ce.xs.map MCe.p, m.tb.xs.map MTb.b)

structure MRr.ok (w : World) (m : MRr) : Prop where
  ss : IsY laySt w m.ss.a m.ss.n m.ss.c m.ss.xs
  ce : IsY layCe w m.ce.a m.ce.n m.ce.c m.ce.xs
  tb : IsY layTb w m.tb.a m.tb.n m.tb.c m.tb.xs
  co : ∀ x ∈ m.ce.xs, x.ok w
  tok : ∀ x ∈ m.tb.xs, x.ok w

theorem MRr.ok.keep {w w' : World} {m : MRr} (h : m.ok w) (hb : Below w.heap.size w w') : m.ok w' := ⟨h.ss.keep hb, h.ce.keep hb, h.tb.keep hb, fun x hx => (h.co x hx).keep hb, fun x hx => (h.tok x hx).keep hb⟩

set_option maxHeartbeats 8000000 in
theorem psameV_any (x y : MVe) (w : World) (h : x.ok w) (k : y.ok w) :
    Calls Tryz.prog 106 #[.agg #[.int .u64 x.ts, .int .u64 x.tx, .bool x.dd, .slice x.vl.a x.vl.n x.vl.c, .slice x.ks.a x.ks.n x.ks.c], .agg #[.int .u64 y.ts, .int .u64 y.tx, .bool y.dd, .slice y.vl.a y.vl.n y.vl.c, .slice y.ks.a y.ks.n y.ks.c]] w fun e w' => e = .returned (.bool (decide (x.p = y.p))) ∧ Below w.heap.size w w' := by
  have HBn : Hid (Below w.heap.size w ((w.alloc (.cells #[.int .u64 x.ts, .int .u64 x.tx, .bool x.dd, .slice x.vl.a x.vl.n x.vl.c, .slice x.ks.a x.ks.n x.ks.c] 135)).alloc (.cells #[.int .u64 y.ts, .int .u64 y.tx, .bool y.dd, .slice y.vl.a y.vl.n y.vl.c, .slice y.ks.a y.ks.n y.ks.c] 135))) := (new_below w _).trans ((new_below _ _).mono (new_below w _).size)
  have HC3 := hide (fun W (hb : Below w.heap.size w W) => (bequal_any x.vl.a x.vl.n x.vl.c x.vl.t y.vl.a y.vl.n y.vl.c y.vl.t W (MB.is.keep h.vl hb) (MB.is.keep k.vl hb)).mono (fun e w' (q : e = .returned (.bool (decide (x.vl.t = y.vl.t))) ∧ w' = W) => (⟨q.1, q.2 ▸ Below.refl _ _⟩ : e = .returned (.bool (decide (x.vl.t = y.vl.t))) ∧ Below W.heap.size W w')))
  have HC4 := hide (fun W (hb : Below w.heap.size w W) => efTx_any MB.t x.ks.xs y.ks.xs x.ks.a y.ks.a x.ks.n x.ks.c y.ks.n y.ks.c W (h.ks.keep hb) (k.ks.keep hb) (fun p hp q hq V hV => (bequal_any p.a p.n p.c p.t q.a q.n q.c q.t V (MB.is.keep (h.ko p hp) (hb.trans (hV.mono hb.size))) (MB.is.keep (k.ko q hq) (hb.trans (hV.mono hb.size)))).mono (fun e w' r => ⟨r.1, r.2 ▸ Below.refl _ _⟩)))
  have HBW : Hid (Below ((w.alloc (.cells #[.int .u64 x.ts, .int .u64 x.tx, .bool x.dd, .slice x.vl.a x.vl.n x.vl.c, .slice x.ks.a x.ks.n x.ks.c] 135)).alloc (.cells #[.int .u64 y.ts, .int .u64 y.tx, .bool y.dd, .slice y.vl.a y.vl.n y.vl.c, .slice y.ks.a y.ks.n y.ks.c] 135)).heap.size ((w.alloc (.cells #[.int .u64 x.ts, .int .u64 x.tx, .bool x.dd, .slice x.vl.a x.vl.n x.vl.c, .slice x.ks.a x.ks.n x.ks.c] 135)).alloc (.cells #[.int .u64 y.ts, .int .u64 y.tx, .bool y.dd, .slice y.vl.a y.vl.n y.vl.c, .slice y.ks.a y.ks.n y.ks.c] 135)) ((w.alloc (.cells #[.int .u64 x.ts, .int .u64 x.tx, .bool x.dd, .slice x.vl.a x.vl.n x.vl.c, .slice x.ks.a x.ks.n x.ks.c] 135)).alloc (.cells #[.int .u64 y.ts, .int .u64 y.tx, .bool y.dd, .slice y.vl.a y.vl.n y.vl.c, .slice y.ks.a y.ks.n y.ks.c] 135))) := Below.refl _ _
  clear h k
  by_cases h0 : x.ts = y.ts
  · have d0 : (x.ts == y.ts) = true := by simpa using h0
    have c0 : decide (x.ts = y.ts) = true := by simpa using h0
    have Hh0 := hide h0
    clear h0
    by_cases h1 : x.tx = y.tx
    · have d1 : (x.tx == y.tx) = true := by simpa using h1
      have c1 : decide (x.tx = y.tx) = true := by simpa using h1
      have Hh1 := hide h1
      clear h1
      by_cases h2 : x.dd = y.dd
      · have d2 : (x.dd == y.dd) = true := by simpa using h2
        have c2 : decide (x.dd = y.dd) = true := by simpa using h2
        have Hh2 := hide h2
        clear h2
        by_cases h3 : x.vl.t = y.vl.t
        · rw [show decide (x.vl.t = y.vl.t) = true from decide_eq_true h3] at HC3
          have Hh3 := hide h3
          clear h3
          by_cases h4 : x.ks.xs.map MB.t = y.ks.xs.map MB.t
          · rw [show decide (x.ks.xs.map MB.t = y.ks.xs.map MB.t) = true from decide_eq_true h4] at HC4
            have Hh4 := hide h4
            clear h4
            have HR : Hid (decide (x.p = y.p) = true) := decide_eq_true (by show ((x.ts, x.tx, x.dd, x.vl.t, x.ks.xs.map MB.t)) = ((y.ts, y.tx, y.dd, y.vl.t, y.ks.xs.map MB.t)); rw [Hh0.out, Hh1.out, Hh2.out, Hh3.out, Hh4.out])
            go_enter Tryz.func106, Tryz.ntmps106
            go_wp2_with (first
              | (go_at_call 104; go_must (refine (HC3.out _ HBn.out).mono ?_ <;> skip); rintro e w6 ⟨rfl, hb⟩; have HBn := hide (HBn.out.trans (hb.mono HBn.out.size)); have HBW := hide (HBW.out.trans (hb.mono HBW.out.size)); clear hb; have hq := two_boxes w #[.int .u64 x.ts, .int .u64 x.tx, .bool x.dd, .slice x.vl.a x.vl.n x.vl.c, .slice x.ks.a x.ks.n x.ks.c] #[.int .u64 y.ts, .int .u64 y.tx, .bool y.dd, .slice y.vl.a y.vl.n y.vl.c, .slice y.ks.a y.ks.n y.ks.c] 135 135 _ HBW.out; have x0w6 : w6.cell? ⟨w.heap.size, 0, none⟩ = some (.int .u64 x.ts) := hq.1 0 _ rfl; have y0w6 : w6.cell? ⟨w.heap.size + 1, 0, none⟩ = some (.int .u64 y.ts) := hq.2 0 _ rfl; have x1w6 : w6.cell? ⟨w.heap.size, 1, none⟩ = some (.int .u64 x.tx) := hq.1 1 _ rfl; have y1w6 : w6.cell? ⟨w.heap.size + 1, 1, none⟩ = some (.int .u64 y.tx) := hq.2 1 _ rfl; have x2w6 : w6.cell? ⟨w.heap.size, 2, none⟩ = some (.bool x.dd) := hq.1 2 _ rfl; have y2w6 : w6.cell? ⟨w.heap.size + 1, 2, none⟩ = some (.bool y.dd) := hq.2 2 _ rfl; have x3w6 : w6.cell? ⟨w.heap.size, 3, none⟩ = some (.slice x.vl.a x.vl.n x.vl.c) := hq.1 3 _ rfl; have y3w6 : w6.cell? ⟨w.heap.size + 1, 3, none⟩ = some (.slice y.vl.a y.vl.n y.vl.c) := hq.2 3 _ rfl; have x4w6 : w6.cell? ⟨w.heap.size, 4, none⟩ = some (.slice x.ks.a x.ks.n x.ks.c) := hq.1 4 _ rfl; have y4w6 : w6.cell? ⟨w.heap.size + 1, 4, none⟩ = some (.slice y.ks.a y.ks.n y.ks.c) := hq.2 4 _ rfl; clear hq)
              | (go_at_call 136; go_must (refine (HC4.out _ HBn.out).mono ?_ <;> skip); rintro e w7 ⟨rfl, hb⟩; have HBn := hide (HBn.out.trans (hb.mono HBn.out.size)); have HBW := hide (HBW.out.trans (hb.mono HBW.out.size)); clear hb; have hq := two_boxes w #[.int .u64 x.ts, .int .u64 x.tx, .bool x.dd, .slice x.vl.a x.vl.n x.vl.c, .slice x.ks.a x.ks.n x.ks.c] #[.int .u64 y.ts, .int .u64 y.tx, .bool y.dd, .slice y.vl.a y.vl.n y.vl.c, .slice y.ks.a y.ks.n y.ks.c] 135 135 _ HBW.out; have x0w7 : w7.cell? ⟨w.heap.size, 0, none⟩ = some (.int .u64 x.ts) := hq.1 0 _ rfl; have y0w7 : w7.cell? ⟨w.heap.size + 1, 0, none⟩ = some (.int .u64 y.ts) := hq.2 0 _ rfl; have x1w7 : w7.cell? ⟨w.heap.size, 1, none⟩ = some (.int .u64 x.tx) := hq.1 1 _ rfl; have y1w7 : w7.cell? ⟨w.heap.size + 1, 1, none⟩ = some (.int .u64 y.tx) := hq.2 1 _ rfl; have x2w7 : w7.cell? ⟨w.heap.size, 2, none⟩ = some (.bool x.dd) := hq.1 2 _ rfl; have y2w7 : w7.cell? ⟨w.heap.size + 1, 2, none⟩ = some (.bool y.dd) := hq.2 2 _ rfl; have x3w7 : w7.cell? ⟨w.heap.size, 3, none⟩ = some (.slice x.vl.a x.vl.n x.vl.c) := hq.1 3 _ rfl; have y3w7 : w7.cell? ⟨w.heap.size + 1, 3, none⟩ = some (.slice y.vl.a y.vl.n y.vl.c) := hq.2 3 _ rfl; have x4w7 : w7.cell? ⟨w.heap.size, 4, none⟩ = some (.slice x.ks.a x.ks.n x.ks.c) := hq.1 4 _ rfl; have y4w7 : w7.cell? ⟨w.heap.size + 1, 4, none⟩ = some (.slice y.ks.a y.ks.n y.ks.c) := hq.2 4 _ rfl; clear hq))
            go_ret
            exact ⟨by rw [HR.out]; rfl, HBn.out⟩
          · rw [show decide (x.ks.xs.map MB.t = y.ks.xs.map MB.t) = false from decide_eq_false h4] at HC4
            have Hn := hide h4
            clear h4
            have HR : Hid (decide (x.p = y.p) = false) := decide_eq_false (fun e => Hn.out (congrArg (fun t => t.2.2.2.2) (show ((x.ts, x.tx, x.dd, x.vl.t, x.ks.xs.map MB.t)) = ((y.ts, y.tx, y.dd, y.vl.t, y.ks.xs.map MB.t)) from e)))
            go_enter Tryz.func106, Tryz.ntmps106
            go_wp2_with (first
              | (go_at_call 104; go_must (refine (HC3.out _ HBn.out).mono ?_ <;> skip); rintro e w6 ⟨rfl, hb⟩; have HBn := hide (HBn.out.trans (hb.mono HBn.out.size)); have HBW := hide (HBW.out.trans (hb.mono HBW.out.size)); clear hb; have hq := two_boxes w #[.int .u64 x.ts, .int .u64 x.tx, .bool x.dd, .slice x.vl.a x.vl.n x.vl.c, .slice x.ks.a x.ks.n x.ks.c] #[.int .u64 y.ts, .int .u64 y.tx, .bool y.dd, .slice y.vl.a y.vl.n y.vl.c, .slice y.ks.a y.ks.n y.ks.c] 135 135 _ HBW.out; have x0w6 : w6.cell? ⟨w.heap.size, 0, none⟩ = some (.int .u64 x.ts) := hq.1 0 _ rfl; have y0w6 : w6.cell? ⟨w.heap.size + 1, 0, none⟩ = some (.int .u64 y.ts) := hq.2 0 _ rfl; have x1w6 : w6.cell? ⟨w.heap.size, 1, none⟩ = some (.int .u64 x.tx) := hq.1 1 _ rfl; have y1w6 : w6.cell? ⟨w.heap.size + 1, 1, none⟩ = some (.int .u64 y.tx) := hq.2 1 _ rfl; have x2w6 : w6.cell? ⟨w.heap.size, 2, none⟩ = some (.bool x.dd) := hq.1 2 _ rfl; have y2w6 : w6.cell? ⟨w.heap.size + 1, 2, none⟩ = some (.bool y.dd) := hq.2 2 _ rfl; have x3w6 : w6.cell? ⟨w.heap.size, 3, none⟩ = some (.slice x.vl.a x.vl.n x.vl.c) := hq.1 3 _ rfl; have y3w6 : w6.cell? ⟨w.heap.size + 1, 3, none⟩ = some (.slice y.vl.a y.vl.n y.vl.c) := hq.2 3 _ rfl; have x4w6 : w6.cell? ⟨w.heap.size, 4, none⟩ = some (.slice x.ks.a x.ks.n x.ks.c) := hq.1 4 _ rfl; have y4w6 : w6.cell? ⟨w.heap.size + 1, 4, none⟩ = some (.slice y.ks.a y.ks.n y.ks.c) := hq.2 4 _ rfl; clear hq)
              | (go_at_call 136; go_must (refine (HC4.out _ HBn.out).mono ?_ <;> skip); rintro e w7 ⟨rfl, hb⟩; have HBn := hide (HBn.out.trans (hb.mono HBn.out.size)); have HBW := hide (HBW.out.trans (hb.mono HBW.out.size)); clear hb; have hq := two_boxes w #[.int .u64 x.ts, .int .u64 x.tx, .bool x.dd, .slice x.vl.a x.vl.n x.vl.c, .slice x.ks.a x.ks.n x.ks.c] #[.int .u64 y.ts, .int .u64 y.tx, .bool y.dd, .slice y.vl.a y.vl.n y.vl.c, .slice y.ks.a y.ks.n y.ks.c] 135 135 _ HBW.out; have x0w7 : w7.cell? ⟨w.heap.size, 0, none⟩ = some (.int .u64 x.ts) := hq.1 0 _ rfl; have y0w7 : w7.cell? ⟨w.heap.size + 1, 0, none⟩ = some (.int .u64 y.ts) := hq.2 0 _ rfl; have x1w7 : w7.cell? ⟨w.heap.size, 1, none⟩ = some (.int .u64 x.tx) := hq.1 1 _ rfl; have y1w7 : w7.cell? ⟨w.heap.size + 1, 1, none⟩ = some (.int .u64 y.tx) := hq.2 1 _ rfl; have x2w7 : w7.cell? ⟨w.heap.size, 2, none⟩ = some (.bool x.dd) := hq.1 2 _ rfl; have y2w7 : w7.cell? ⟨w.heap.size + 1, 2, none⟩ = some (.bool y.dd) := hq.2 2 _ rfl; have x3w7 : w7.cell? ⟨w.heap.size, 3, none⟩ = some (.slice x.vl.a x.vl.n x.vl.c) := hq.1 3 _ rfl; have y3w7 : w7.cell? ⟨w.heap.size + 1, 3, none⟩ = some (.slice y.vl.a y.vl.n y.vl.c) := hq.2 3 _ rfl; have x4w7 : w7.cell? ⟨w.heap.size, 4, none⟩ = some (.slice x.ks.a x.ks.n x.ks.c) := hq.1 4 _ rfl; have y4w7 : w7.cell? ⟨w.heap.size + 1, 4, none⟩ = some (.slice y.ks.a y.ks.n y.ks.c) := hq.2 4 _ rfl; clear hq))
            go_ret
            exact ⟨by rw [HR.out]; rfl, HBn.out⟩
        · rw [show decide (x.vl.t = y.vl.t) = false from decide_eq_false h3] at HC3
          have Hn := hide h3
          clear h3
          have HR : Hid (decide (x.p = y.p) = false) := decide_eq_false (fun e => Hn.out (congrArg (fun t => t.2.2.2.1) (show ((x.ts, x.tx, x.dd, x.vl.t, x.ks.xs.map MB.t)) = ((y.ts, y.tx, y.dd, y.vl.t, y.ks.xs.map MB.t)) from e)))
          go_enter Tryz.func106, Tryz.ntmps106
          go_wp2_with (first
            | (go_at_call 104; go_must (refine (HC3.out _ HBn.out).mono ?_ <;> skip); rintro e w6 ⟨rfl, hb⟩; have HBn := hide (HBn.out.trans (hb.mono HBn.out.size)); have HBW := hide (HBW.out.trans (hb.mono HBW.out.size)); clear hb; have hq := two_boxes w #[.int .u64 x.ts, .int .u64 x.tx, .bool x.dd, .slice x.vl.a x.vl.n x.vl.c, .slice x.ks.a x.ks.n x.ks.c] #[.int .u64 y.ts, .int .u64 y.tx, .bool y.dd, .slice y.vl.a y.vl.n y.vl.c, .slice y.ks.a y.ks.n y.ks.c] 135 135 _ HBW.out; have x0w6 : w6.cell? ⟨w.heap.size, 0, none⟩ = some (.int .u64 x.ts) := hq.1 0 _ rfl; have y0w6 : w6.cell? ⟨w.heap.size + 1, 0, none⟩ = some (.int .u64 y.ts) := hq.2 0 _ rfl; have x1w6 : w6.cell? ⟨w.heap.size, 1, none⟩ = some (.int .u64 x.tx) := hq.1 1 _ rfl; have y1w6 : w6.cell? ⟨w.heap.size + 1, 1, none⟩ = some (.int .u64 y.tx) := hq.2 1 _ rfl; have x2w6 : w6.cell? ⟨w.heap.size, 2, none⟩ = some (.bool x.dd) := hq.1 2 _ rfl; have y2w6 : w6.cell? ⟨w.heap.size + 1, 2, none⟩ = some (.bool y.dd) := hq.2 2 _ rfl; have x3w6 : w6.cell? ⟨w.heap.size, 3, none⟩ = some (.slice x.vl.a x.vl.n x.vl.c) := hq.1 3 _ rfl; have y3w6 : w6.cell? ⟨w.heap.size + 1, 3, none⟩ = some (.slice y.vl.a y.vl.n y.vl.c) := hq.2 3 _ rfl; have x4w6 : w6.cell? ⟨w.heap.size, 4, none⟩ = some (.slice x.ks.a x.ks.n x.ks.c) := hq.1 4 _ rfl; have y4w6 : w6.cell? ⟨w.heap.size + 1, 4, none⟩ = some (.slice y.ks.a y.ks.n y.ks.c) := hq.2 4 _ rfl; clear hq)
            | (go_at_call 136; go_must (refine (HC4.out _ HBn.out).mono ?_ <;> skip); rintro e w7 ⟨rfl, hb⟩; have HBn := hide (HBn.out.trans (hb.mono HBn.out.size)); have HBW := hide (HBW.out.trans (hb.mono HBW.out.size)); clear hb; have hq := two_boxes w #[.int .u64 x.ts, .int .u64 x.tx, .bool x.dd, .slice x.vl.a x.vl.n x.vl.c, .slice x.ks.a x.ks.n x.ks.c] #[.int .u64 y.ts, .int .u64 y.tx, .bool y.dd, .slice y.vl.a y.vl.n y.vl.c, .slice y.ks.a y.ks.n y.ks.c] 135 135 _ HBW.out; have x0w7 : w7.cell? ⟨w.heap.size, 0, none⟩ = some (.int .u64 x.ts) := hq.1 0 _ rfl; have y0w7 : w7.cell? ⟨w.heap.size + 1, 0, none⟩ = some (.int .u64 y.ts) := hq.2 0 _ rfl; have x1w7 : w7.cell? ⟨w.heap.size, 1, none⟩ = some (.int .u64 x.tx) := hq.1 1 _ rfl; have y1w7 : w7.cell? ⟨w.heap.size + 1, 1, none⟩ = some (.int .u64 y.tx) := hq.2 1 _ rfl; have x2w7 : w7.cell? ⟨w.heap.size, 2, none⟩ = some (.bool x.dd) := hq.1 2 _ rfl; have y2w7 : w7.cell? ⟨w.heap.size + 1, 2, none⟩ = some (.bool y.dd) := hq.2 2 _ rfl; have x3w7 : w7.cell? ⟨w.heap.size, 3, none⟩ = some (.slice x.vl.a x.vl.n x.vl.c) := hq.1 3 _ rfl; have y3w7 : w7.cell? ⟨w.heap.size + 1, 3, none⟩ = some (.slice y.vl.a y.vl.n y.vl.c) := hq.2 3 _ rfl; have x4w7 : w7.cell? ⟨w.heap.size, 4, none⟩ = some (.slice x.ks.a x.ks.n x.ks.c) := hq.1 4 _ rfl; have y4w7 : w7.cell? ⟨w.heap.size + 1, 4, none⟩ = some (.slice y.ks.a y.ks.n y.ks.c) := hq.2 4 _ rfl; clear hq))
          go_ret
          exact ⟨by rw [HR.out]; rfl, HBn.out⟩
      · have d2 : (x.dd == y.dd) = false := by simpa using h2
        have c2 : decide (x.dd = y.dd) = false := by simpa using h2
        have Hn := hide h2
        clear h2
        have HR : Hid (decide (x.p = y.p) = false) := decide_eq_false (fun e => Hn.out (congrArg (fun t => t.2.2.1) (show ((x.ts, x.tx, x.dd, x.vl.t, x.ks.xs.map MB.t)) = ((y.ts, y.tx, y.dd, y.vl.t, y.ks.xs.map MB.t)) from e)))
        go_enter Tryz.func106, Tryz.ntmps106
        go_wp2_with (first
          | (go_at_call 104; go_must (refine (HC3.out _ HBn.out).mono ?_ <;> skip); rintro e w6 ⟨rfl, hb⟩; have HBn := hide (HBn.out.trans (hb.mono HBn.out.size)); have HBW := hide (HBW.out.trans (hb.mono HBW.out.size)); clear hb; have hq := two_boxes w #[.int .u64 x.ts, .int .u64 x.tx, .bool x.dd, .slice x.vl.a x.vl.n x.vl.c, .slice x.ks.a x.ks.n x.ks.c] #[.int .u64 y.ts, .int .u64 y.tx, .bool y.dd, .slice y.vl.a y.vl.n y.vl.c, .slice y.ks.a y.ks.n y.ks.c] 135 135 _ HBW.out; have x0w6 : w6.cell? ⟨w.heap.size, 0, none⟩ = some (.int .u64 x.ts) := hq.1 0 _ rfl; have y0w6 : w6.cell? ⟨w.heap.size + 1, 0, none⟩ = some (.int .u64 y.ts) := hq.2 0 _ rfl; have x1w6 : w6.cell? ⟨w.heap.size, 1, none⟩ = some (.int .u64 x.tx) := hq.1 1 _ rfl; have y1w6 : w6.cell? ⟨w.heap.size + 1, 1, none⟩ = some (.int .u64 y.tx) := hq.2 1 _ rfl; have x2w6 : w6.cell? ⟨w.heap.size, 2, none⟩ = some (.bool x.dd) := hq.1 2 _ rfl; have y2w6 : w6.cell? ⟨w.heap.size + 1, 2, none⟩ = some (.bool y.dd) := hq.2 2 _ rfl; have x3w6 : w6.cell? ⟨w.heap.size, 3, none⟩ = some (.slice x.vl.a x.vl.n x.vl.c) := hq.1 3 _ rfl; have y3w6 : w6.cell? ⟨w.heap.size + 1, 3, none⟩ = some (.slice y.vl.a y.vl.n y.vl.c) := hq.2 3 _ rfl; have x4w6 : w6.cell? ⟨w.heap.size, 4, none⟩ = some (.slice x.ks.a x.ks.n x.ks.c) := hq.1 4 _ rfl; have y4w6 : w6.cell? ⟨w.heap.size + 1, 4, none⟩ = some (.slice y.ks.a y.ks.n y.ks.c) := hq.2 4 _ rfl; clear hq)
          | (go_at_call 136; go_must (refine (HC4.out _ HBn.out).mono ?_ <;> skip); rintro e w7 ⟨rfl, hb⟩; have HBn := hide (HBn.out.trans (hb.mono HBn.out.size)); have HBW := hide (HBW.out.trans (hb.mono HBW.out.size)); clear hb; have hq := two_boxes w #[.int .u64 x.ts, .int .u64 x.tx, .bool x.dd, .slice x.vl.a x.vl.n x.vl.c, .slice x.ks.a x.ks.n x.ks.c] #[.int .u64 y.ts, .int .u64 y.tx, .bool y.dd, .slice y.vl.a y.vl.n y.vl.c, .slice y.ks.a y.ks.n y.ks.c] 135 135 _ HBW.out; have x0w7 : w7.cell? ⟨w.heap.size, 0, none⟩ = some (.int .u64 x.ts) := hq.1 0 _ rfl; have y0w7 : w7.cell? ⟨w.heap.size + 1, 0, none⟩ = some (.int .u64 y.ts) := hq.2 0 _ rfl; have x1w7 : w7.cell? ⟨w.heap.size, 1, none⟩ = some (.int .u64 x.tx) := hq.1 1 _ rfl; have y1w7 : w7.cell? ⟨w.heap.size + 1, 1, none⟩ = some (.int .u64 y.tx) := hq.2 1 _ rfl; have x2w7 : w7.cell? ⟨w.heap.size, 2, none⟩ = some (.bool x.dd) := hq.1 2 _ rfl; have y2w7 : w7.cell? ⟨w.heap.size + 1, 2, none⟩ = some (.bool y.dd) := hq.2 2 _ rfl; have x3w7 : w7.cell? ⟨w.heap.size, 3, none⟩ = some (.slice x.vl.a x.vl.n x.vl.c) := hq.1 3 _ rfl; have y3w7 : w7.cell? ⟨w.heap.size + 1, 3, none⟩ = some (.slice y.vl.a y.vl.n y.vl.c) := hq.2 3 _ rfl; have x4w7 : w7.cell? ⟨w.heap.size, 4, none⟩ = some (.slice x.ks.a x.ks.n x.ks.c) := hq.1 4 _ rfl; have y4w7 : w7.cell? ⟨w.heap.size + 1, 4, none⟩ = some (.slice y.ks.a y.ks.n y.ks.c) := hq.2 4 _ rfl; clear hq))
        go_ret
        exact ⟨by rw [HR.out]; rfl, HBn.out⟩
    · have d1 : (x.tx == y.tx) = false := by simpa using h1
      have c1 : decide (x.tx = y.tx) = false := by simpa using h1
      have Hn := hide h1
      clear h1
      have HR : Hid (decide (x.p = y.p) = false) := decide_eq_false (fun e => Hn.out (congrArg (fun t => t.2.1) (show ((x.ts, x.tx, x.dd, x.vl.t, x.ks.xs.map MB.t)) = ((y.ts, y.tx, y.dd, y.vl.t, y.ks.xs.map MB.t)) from e)))
      go_enter Tryz.func106, Tryz.ntmps106
      go_wp2_with (first
        | (go_at_call 104; go_must (refine (HC3.out _ HBn.out).mono ?_ <;> skip); rintro e w6 ⟨rfl, hb⟩; have HBn := hide (HBn.out.trans (hb.mono HBn.out.size)); have HBW := hide (HBW.out.trans (hb.mono HBW.out.size)); clear hb; have hq := two_boxes w #[.int .u64 x.ts, .int .u64 x.tx, .bool x.dd, .slice x.vl.a x.vl.n x.vl.c, .slice x.ks.a x.ks.n x.ks.c] #[.int .u64 y.ts, .int .u64 y.tx, .bool y.dd, .slice y.vl.a y.vl.n y.vl.c, .slice y.ks.a y.ks.n y.ks.c] 135 135 _ HBW.out; have x0w6 : w6.cell? ⟨w.heap.size, 0, none⟩ = some (.int .u64 x.ts) := hq.1 0 _ rfl; have y0w6 : w6.cell? ⟨w.heap.size + 1, 0, none⟩ = some (.int .u64 y.ts) := hq.2 0 _ rfl; have x1w6 : w6.cell? ⟨w.heap.size, 1, none⟩ = some (.int .u64 x.tx) := hq.1 1 _ rfl; have y1w6 : w6.cell? ⟨w.heap.size + 1, 1, none⟩ = some (.int .u64 y.tx) := hq.2 1 _ rfl; have x2w6 : w6.cell? ⟨w.heap.size, 2, none⟩ = some (.bool x.dd) := hq.1 2 _ rfl; have y2w6 : w6.cell? ⟨w.heap.size + 1, 2, none⟩ = some (.bool y.dd) := hq.2 2 _ rfl; have x3w6 : w6.cell? ⟨w.heap.size, 3, none⟩ = some (.slice x.vl.a x.vl.n x.vl.c) := hq.1 3 _ rfl; have y3w6 : w6.cell? ⟨w.heap.size + 1, 3, none⟩ = some (.slice y.vl.a y.vl.n y.vl.c) := hq.2 3 _ rfl; have x4w6 : w6.cell? ⟨w.heap.size, 4, none⟩ = some (.slice x.ks.a x.ks.n x.ks.c) := hq.1 4 _ rfl; have y4w6 : w6.cell? ⟨w.heap.size + 1, 4, none⟩ = some (.slice y.ks.a y.ks.n y.ks.c) := hq.2 4 _ rfl; clear hq)
        | (go_at_call 136; go_must (refine (HC4.out _ HBn.out).mono ?_ <;> skip); rintro e w7 ⟨rfl, hb⟩; have HBn := hide (HBn.out.trans (hb.mono HBn.out.size)); have HBW := hide (HBW.out.trans (hb.mono HBW.out.size)); clear hb; have hq := two_boxes w #[.int .u64 x.ts, .int .u64 x.tx, .bool x.dd, .slice x.vl.a x.vl.n x.vl.c, .slice x.ks.a x.ks.n x.ks.c] #[.int .u64 y.ts, .int .u64 y.tx, .bool y.dd, .slice y.vl.a y.vl.n y.vl.c, .slice y.ks.a y.ks.n y.ks.c] 135 135 _ HBW.out; have x0w7 : w7.cell? ⟨w.heap.size, 0, none⟩ = some (.int .u64 x.ts) := hq.1 0 _ rfl; have y0w7 : w7.cell? ⟨w.heap.size + 1, 0, none⟩ = some (.int .u64 y.ts) := hq.2 0 _ rfl; have x1w7 : w7.cell? ⟨w.heap.size, 1, none⟩ = some (.int .u64 x.tx) := hq.1 1 _ rfl; have y1w7 : w7.cell? ⟨w.heap.size + 1, 1, none⟩ = some (.int .u64 y.tx) := hq.2 1 _ rfl; have x2w7 : w7.cell? ⟨w.heap.size, 2, none⟩ = some (.bool x.dd) := hq.1 2 _ rfl; have y2w7 : w7.cell? ⟨w.heap.size + 1, 2, none⟩ = some (.bool y.dd) := hq.2 2 _ rfl; have x3w7 : w7.cell? ⟨w.heap.size, 3, none⟩ = some (.slice x.vl.a x.vl.n x.vl.c) := hq.1 3 _ rfl; have y3w7 : w7.cell? ⟨w.heap.size + 1, 3, none⟩ = some (.slice y.vl.a y.vl.n y.vl.c) := hq.2 3 _ rfl; have x4w7 : w7.cell? ⟨w.heap.size, 4, none⟩ = some (.slice x.ks.a x.ks.n x.ks.c) := hq.1 4 _ rfl; have y4w7 : w7.cell? ⟨w.heap.size + 1, 4, none⟩ = some (.slice y.ks.a y.ks.n y.ks.c) := hq.2 4 _ rfl; clear hq))
      go_ret
      exact ⟨by rw [HR.out]; rfl, HBn.out⟩
  · have d0 : (x.ts == y.ts) = false := by simpa using h0
    have c0 : decide (x.ts = y.ts) = false := by simpa using h0
    have Hn := hide h0
    clear h0
    have HR : Hid (decide (x.p = y.p) = false) := decide_eq_false (fun e => Hn.out (congrArg (fun t => t.1) (show ((x.ts, x.tx, x.dd, x.vl.t, x.ks.xs.map MB.t)) = ((y.ts, y.tx, y.dd, y.vl.t, y.ks.xs.map MB.t)) from e)))
    go_enter Tryz.func106, Tryz.ntmps106
    go_wp2_with (first
      | (go_at_call 104; go_must (refine (HC3.out _ HBn.out).mono ?_ <;> skip); rintro e w6 ⟨rfl, hb⟩; have HBn := hide (HBn.out.trans (hb.mono HBn.out.size)); have HBW := hide (HBW.out.trans (hb.mono HBW.out.size)); clear hb; have hq := two_boxes w #[.int .u64 x.ts, .int .u64 x.tx, .bool x.dd, .slice x.vl.a x.vl.n x.vl.c, .slice x.ks.a x.ks.n x.ks.c] #[.int .u64 y.ts, .int .u64 y.tx, .bool y.dd, .slice y.vl.a y.vl.n y.vl.c, .slice y.ks.a y.ks.n y.ks.c] 135 135 _ HBW.out; have x0w6 : w6.cell? ⟨w.heap.size, 0, none⟩ = some (.int .u64 x.ts) := hq.1 0 _ rfl; have y0w6 : w6.cell? ⟨w.heap.size + 1, 0, none⟩ = some (.int .u64 y.ts) := hq.2 0 _ rfl; have x1w6 : w6.cell? ⟨w.heap.size, 1, none⟩ = some (.int .u64 x.tx) := hq.1 1 _ rfl; have y1w6 : w6.cell? ⟨w.heap.size + 1, 1, none⟩ = some (.int .u64 y.tx) := hq.2 1 _ rfl; have x2w6 : w6.cell? ⟨w.heap.size, 2, none⟩ = some (.bool x.dd) := hq.1 2 _ rfl; have y2w6 : w6.cell? ⟨w.heap.size + 1, 2, none⟩ = some (.bool y.dd) := hq.2 2 _ rfl; have x3w6 : w6.cell? ⟨w.heap.size, 3, none⟩ = some (.slice x.vl.a x.vl.n x.vl.c) := hq.1 3 _ rfl; have y3w6 : w6.cell? ⟨w.heap.size + 1, 3, none⟩ = some (.slice y.vl.a y.vl.n y.vl.c) := hq.2 3 _ rfl; have x4w6 : w6.cell? ⟨w.heap.size, 4, none⟩ = some (.slice x.ks.a x.ks.n x.ks.c) := hq.1 4 _ rfl; have y4w6 : w6.cell? ⟨w.heap.size + 1, 4, none⟩ = some (.slice y.ks.a y.ks.n y.ks.c) := hq.2 4 _ rfl; clear hq)
      | (go_at_call 136; go_must (refine (HC4.out _ HBn.out).mono ?_ <;> skip); rintro e w7 ⟨rfl, hb⟩; have HBn := hide (HBn.out.trans (hb.mono HBn.out.size)); have HBW := hide (HBW.out.trans (hb.mono HBW.out.size)); clear hb; have hq := two_boxes w #[.int .u64 x.ts, .int .u64 x.tx, .bool x.dd, .slice x.vl.a x.vl.n x.vl.c, .slice x.ks.a x.ks.n x.ks.c] #[.int .u64 y.ts, .int .u64 y.tx, .bool y.dd, .slice y.vl.a y.vl.n y.vl.c, .slice y.ks.a y.ks.n y.ks.c] 135 135 _ HBW.out; have x0w7 : w7.cell? ⟨w.heap.size, 0, none⟩ = some (.int .u64 x.ts) := hq.1 0 _ rfl; have y0w7 : w7.cell? ⟨w.heap.size + 1, 0, none⟩ = some (.int .u64 y.ts) := hq.2 0 _ rfl; have x1w7 : w7.cell? ⟨w.heap.size, 1, none⟩ = some (.int .u64 x.tx) := hq.1 1 _ rfl; have y1w7 : w7.cell? ⟨w.heap.size + 1, 1, none⟩ = some (.int .u64 y.tx) := hq.2 1 _ rfl; have x2w7 : w7.cell? ⟨w.heap.size, 2, none⟩ = some (.bool x.dd) := hq.1 2 _ rfl; have y2w7 : w7.cell? ⟨w.heap.size + 1, 2, none⟩ = some (.bool y.dd) := hq.2 2 _ rfl; have x3w7 : w7.cell? ⟨w.heap.size, 3, none⟩ = some (.slice x.vl.a x.vl.n x.vl.c) := hq.1 3 _ rfl; have y3w7 : w7.cell? ⟨w.heap.size + 1, 3, none⟩ = some (.slice y.vl.a y.vl.n y.vl.c) := hq.2 3 _ rfl; have x4w7 : w7.cell? ⟨w.heap.size, 4, none⟩ = some (.slice x.ks.a x.ks.n x.ks.c) := hq.1 4 _ rfl; have y4w7 : w7.cell? ⟨w.heap.size + 1, 4, none⟩ = some (.slice y.ks.a y.ks.n y.ks.c) := hq.2 4 _ rfl; clear hq))
    go_ret
    exact ⟨by rw [HR.out]; rfl, HBn.out⟩

set_option maxHeartbeats 8000000 in
theorem psameC_any (x y : MCe) (w : World) (h : x.ok w) (k : y.ok w) :
    Calls Tryz.prog 70 #[.agg #[.slice x.key.a x.key.n x.key.c, .slice x.vs.a x.vs.n x.vs.c, .int .u64 x.it.ts, .int .u64 x.it.tx, .bool x.it.dd, .slice x.it.vl.a x.it.vl.n x.it.vl.c, .slice x.it.ks.a x.it.ks.n x.it.ks.c], .agg #[.slice y.key.a y.key.n y.key.c, .slice y.vs.a y.vs.n y.vs.c, .int .u64 y.it.ts, .int .u64 y.it.tx, .bool y.it.dd, .slice y.it.vl.a y.it.vl.n y.it.vl.c, .slice y.it.ks.a y.it.ks.n y.it.ks.c]] w fun e w' => e = .returned (.bool (decide (x.p = y.p))) ∧ Below w.heap.size w w' := by
  have HBn : Hid (Below w.heap.size w ((w.alloc (.cells #[.slice x.key.a x.key.n x.key.c, .slice x.vs.a x.vs.n x.vs.c, .int .u64 x.it.ts, .int .u64 x.it.tx, .bool x.it.dd, .slice x.it.vl.a x.it.vl.n x.it.vl.c, .slice x.it.ks.a x.it.ks.n x.it.ks.c] 137)).alloc (.cells #[.slice y.key.a y.key.n y.key.c, .slice y.vs.a y.vs.n y.vs.c, .int .u64 y.it.ts, .int .u64 y.it.tx, .bool y.it.dd, .slice y.it.vl.a y.it.vl.n y.it.vl.c, .slice y.it.ks.a y.it.ks.n y.it.ks.c] 137))) := (new_below w _).trans ((new_below _ _).mono (new_below w _).size)
  have HC0 := hide (fun W (hb : Below w.heap.size w W) => (bequal_any x.key.a x.key.n x.key.c x.key.t y.key.a y.key.n y.key.c y.key.t W (MB.is.keep h.key hb) (MB.is.keep k.key hb)).mono (fun e w' (q : e = .returned (.bool (decide (x.key.t = y.key.t))) ∧ w' = W) => (⟨q.1, q.2 ▸ Below.refl _ _⟩ : e = .returned (.bool (decide (x.key.t = y.key.t))) ∧ Below W.heap.size W w')))
  have HC1 := hide (fun W (hb : Below w.heap.size w W) => efVe_any MVe.p x.vs.xs y.vs.xs x.vs.a y.vs.a x.vs.n x.vs.c y.vs.n y.vs.c W (h.vs.keep hb) (k.vs.keep hb) (fun p hp q hq V hV => psameV_any p q V ((h.vo p hp).keep (hb.trans (hV.mono hb.size))) ((k.vo q hq).keep (hb.trans (hV.mono hb.size)))))
  have HC2 := hide (fun W (hb : Below w.heap.size w W) => psameV_any x.it y.it W (h.io.keep hb) (k.io.keep hb))
  have HBW : Hid (Below ((w.alloc (.cells #[.slice x.key.a x.key.n x.key.c, .slice x.vs.a x.vs.n x.vs.c, .int .u64 x.it.ts, .int .u64 x.it.tx, .bool x.it.dd, .slice x.it.vl.a x.it.vl.n x.it.vl.c, .slice x.it.ks.a x.it.ks.n x.it.ks.c] 137)).alloc (.cells #[.slice y.key.a y.key.n y.key.c, .slice y.vs.a y.vs.n y.vs.c, .int .u64 y.it.ts, .int .u64 y.it.tx, .bool y.it.dd, .slice y.it.vl.a y.it.vl.n y.it.vl.c, .slice y.it.ks.a y.it.ks.n y.it.ks.c] 137)).heap.size ((w.alloc (.cells #[.slice x.key.a x.key.n x.key.c, .slice x.vs.a x.vs.n x.vs.c, .int .u64 x.it.ts, .int .u64 x.it.tx, .bool x.it.dd, .slice x.it.vl.a x.it.vl.n x.it.vl.c, .slice x.it.ks.a x.it.ks.n x.it.ks.c] 137)).alloc (.cells #[.slice y.key.a y.key.n y.key.c, .slice y.vs.a y.vs.n y.vs.c, .int .u64 y.it.ts, .int .u64 y.it.tx, .bool y.it.dd, .slice y.it.vl.a y.it.vl.n y.it.vl.c, .slice y.it.ks.a y.it.ks.n y.it.ks.c] 137)) ((w.alloc (.cells #[.slice x.key.a x.key.n x.key.c, .slice x.vs.a x.vs.n x.vs.c, .int .u64 x.it.ts, .int .u64 x.it.tx, .bool x.it.dd, .slice x.it.vl.a x.it.vl.n x.it.vl.c, .slice x.it.ks.a x.it.ks.n x.it.ks.c] 137)).alloc (.cells #[.slice y.key.a y.key.n y.key.c, .slice y.vs.a y.vs.n y.vs.c, .int .u64 y.it.ts, .int .u64 y.it.tx, .bool y.it.dd, .slice y.it.vl.a y.it.vl.n y.it.vl.c, .slice y.it.ks.a y.it.ks.n y.it.ks.c] 137))) := Below.refl _ _
  clear h k
  by_cases h0 : x.key.t = y.key.t
  · rw [show decide (x.key.t = y.key.t) = true from decide_eq_true h0] at HC0
    have Hh0 := hide h0
    clear h0
    by_cases h1 : x.vs.xs.map MVe.p = y.vs.xs.map MVe.p
    · rw [show decide (x.vs.xs.map MVe.p = y.vs.xs.map MVe.p) = true from decide_eq_true h1] at HC1
      have Hh1 := hide h1
      clear h1
      by_cases h2 : x.it.p = y.it.p
      · rw [show decide (x.it.p = y.it.p) = true from decide_eq_true h2] at HC2
        have Hh2 := hide h2
        clear h2
        have HR : Hid (decide (x.p = y.p) = true) := decide_eq_true (by show ((x.key.t, x.vs.xs.map MVe.p, x.it.p)) = ((y.key.t, y.vs.xs.map MVe.p, y.it.p)); rw [Hh0.out, Hh1.out, Hh2.out])
        go_enter Tryz.func70, Tryz.ntmps70
        go_wp2_with (first
          | (go_at_call 104; go_must (refine (HC0.out _ HBn.out).mono ?_ <;> skip); rintro e w3 ⟨rfl, hb⟩; have HBn := hide (HBn.out.trans (hb.mono HBn.out.size)); have HBW := hide (HBW.out.trans (hb.mono HBW.out.size)); clear hb; have hq := two_boxes w #[.slice x.key.a x.key.n x.key.c, .slice x.vs.a x.vs.n x.vs.c, .int .u64 x.it.ts, .int .u64 x.it.tx, .bool x.it.dd, .slice x.it.vl.a x.it.vl.n x.it.vl.c, .slice x.it.ks.a x.it.ks.n x.it.ks.c] #[.slice y.key.a y.key.n y.key.c, .slice y.vs.a y.vs.n y.vs.c, .int .u64 y.it.ts, .int .u64 y.it.tx, .bool y.it.dd, .slice y.it.vl.a y.it.vl.n y.it.vl.c, .slice y.it.ks.a y.it.ks.n y.it.ks.c] 137 137 _ HBW.out; have x0w3 : w3.cell? ⟨w.heap.size, 0, none⟩ = some (.slice x.key.a x.key.n x.key.c) := hq.1 0 _ rfl; have y0w3 : w3.cell? ⟨w.heap.size + 1, 0, none⟩ = some (.slice y.key.a y.key.n y.key.c) := hq.2 0 _ rfl; have x1w3 : w3.cell? ⟨w.heap.size, 1, none⟩ = some (.slice x.vs.a x.vs.n x.vs.c) := hq.1 1 _ rfl; have y1w3 : w3.cell? ⟨w.heap.size + 1, 1, none⟩ = some (.slice y.vs.a y.vs.n y.vs.c) := hq.2 1 _ rfl; have x2w3 : w3.cell? ⟨w.heap.size, 2, none⟩ = some (.int .u64 x.it.ts) := hq.1 2 _ rfl; have y2w3 : w3.cell? ⟨w.heap.size + 1, 2, none⟩ = some (.int .u64 y.it.ts) := hq.2 2 _ rfl; have x3w3 : w3.cell? ⟨w.heap.size, 3, none⟩ = some (.int .u64 x.it.tx) := hq.1 3 _ rfl; have y3w3 : w3.cell? ⟨w.heap.size + 1, 3, none⟩ = some (.int .u64 y.it.tx) := hq.2 3 _ rfl; have x4w3 : w3.cell? ⟨w.heap.size, 4, none⟩ = some (.bool x.it.dd) := hq.1 4 _ rfl; have y4w3 : w3.cell? ⟨w.heap.size + 1, 4, none⟩ = some (.bool y.it.dd) := hq.2 4 _ rfl; have x5w3 : w3.cell? ⟨w.heap.size, 5, none⟩ = some (.slice x.it.vl.a x.it.vl.n x.it.vl.c) := hq.1 5 _ rfl; have y5w3 : w3.cell? ⟨w.heap.size + 1, 5, none⟩ = some (.slice y.it.vl.a y.it.vl.n y.it.vl.c) := hq.2 5 _ rfl; have x6w3 : w3.cell? ⟨w.heap.size, 6, none⟩ = some (.slice x.it.ks.a x.it.ks.n x.it.ks.c) := hq.1 6 _ rfl; have y6w3 : w3.cell? ⟨w.heap.size + 1, 6, none⟩ = some (.slice y.it.ks.a y.it.ks.n y.it.ks.c) := hq.2 6 _ rfl; clear hq)
          | (go_at_call 105; go_must (refine (HC1.out _ HBn.out).mono ?_ <;> skip); rintro e w4 ⟨rfl, hb⟩; have HBn := hide (HBn.out.trans (hb.mono HBn.out.size)); have HBW := hide (HBW.out.trans (hb.mono HBW.out.size)); clear hb; have hq := two_boxes w #[.slice x.key.a x.key.n x.key.c, .slice x.vs.a x.vs.n x.vs.c, .int .u64 x.it.ts, .int .u64 x.it.tx, .bool x.it.dd, .slice x.it.vl.a x.it.vl.n x.it.vl.c, .slice x.it.ks.a x.it.ks.n x.it.ks.c] #[.slice y.key.a y.key.n y.key.c, .slice y.vs.a y.vs.n y.vs.c, .int .u64 y.it.ts, .int .u64 y.it.tx, .bool y.it.dd, .slice y.it.vl.a y.it.vl.n y.it.vl.c, .slice y.it.ks.a y.it.ks.n y.it.ks.c] 137 137 _ HBW.out; have x0w4 : w4.cell? ⟨w.heap.size, 0, none⟩ = some (.slice x.key.a x.key.n x.key.c) := hq.1 0 _ rfl; have y0w4 : w4.cell? ⟨w.heap.size + 1, 0, none⟩ = some (.slice y.key.a y.key.n y.key.c) := hq.2 0 _ rfl; have x1w4 : w4.cell? ⟨w.heap.size, 1, none⟩ = some (.slice x.vs.a x.vs.n x.vs.c) := hq.1 1 _ rfl; have y1w4 : w4.cell? ⟨w.heap.size + 1, 1, none⟩ = some (.slice y.vs.a y.vs.n y.vs.c) := hq.2 1 _ rfl; have x2w4 : w4.cell? ⟨w.heap.size, 2, none⟩ = some (.int .u64 x.it.ts) := hq.1 2 _ rfl; have y2w4 : w4.cell? ⟨w.heap.size + 1, 2, none⟩ = some (.int .u64 y.it.ts) := hq.2 2 _ rfl; have x3w4 : w4.cell? ⟨w.heap.size, 3, none⟩ = some (.int .u64 x.it.tx) := hq.1 3 _ rfl; have y3w4 : w4.cell? ⟨w.heap.size + 1, 3, none⟩ = some (.int .u64 y.it.tx) := hq.2 3 _ rfl; have x4w4 : w4.cell? ⟨w.heap.size, 4, none⟩ = some (.bool x.it.dd) := hq.1 4 _ rfl; have y4w4 : w4.cell? ⟨w.heap.size + 1, 4, none⟩ = some (.bool y.it.dd) := hq.2 4 _ rfl; have x5w4 : w4.cell? ⟨w.heap.size, 5, none⟩ = some (.slice x.it.vl.a x.it.vl.n x.it.vl.c) := hq.1 5 _ rfl; have y5w4 : w4.cell? ⟨w.heap.size + 1, 5, none⟩ = some (.slice y.it.vl.a y.it.vl.n y.it.vl.c) := hq.2 5 _ rfl; have x6w4 : w4.cell? ⟨w.heap.size, 6, none⟩ = some (.slice x.it.ks.a x.it.ks.n x.it.ks.c) := hq.1 6 _ rfl; have y6w4 : w4.cell? ⟨w.heap.size + 1, 6, none⟩ = some (.slice y.it.ks.a y.it.ks.n y.it.ks.c) := hq.2 6 _ rfl; clear hq)
          | (go_at_call 106; go_must (refine (HC2.out _ HBn.out).mono ?_ <;> skip); rintro e w5 ⟨rfl, hb⟩; have HBn := hide (HBn.out.trans (hb.mono HBn.out.size)); have HBW := hide (HBW.out.trans (hb.mono HBW.out.size)); clear hb; have hq := two_boxes w #[.slice x.key.a x.key.n x.key.c, .slice x.vs.a x.vs.n x.vs.c, .int .u64 x.it.ts, .int .u64 x.it.tx, .bool x.it.dd, .slice x.it.vl.a x.it.vl.n x.it.vl.c, .slice x.it.ks.a x.it.ks.n x.it.ks.c] #[.slice y.key.a y.key.n y.key.c, .slice y.vs.a y.vs.n y.vs.c, .int .u64 y.it.ts, .int .u64 y.it.tx, .bool y.it.dd, .slice y.it.vl.a y.it.vl.n y.it.vl.c, .slice y.it.ks.a y.it.ks.n y.it.ks.c] 137 137 _ HBW.out; have x0w5 : w5.cell? ⟨w.heap.size, 0, none⟩ = some (.slice x.key.a x.key.n x.key.c) := hq.1 0 _ rfl; have y0w5 : w5.cell? ⟨w.heap.size + 1, 0, none⟩ = some (.slice y.key.a y.key.n y.key.c) := hq.2 0 _ rfl; have x1w5 : w5.cell? ⟨w.heap.size, 1, none⟩ = some (.slice x.vs.a x.vs.n x.vs.c) := hq.1 1 _ rfl; have y1w5 : w5.cell? ⟨w.heap.size + 1, 1, none⟩ = some (.slice y.vs.a y.vs.n y.vs.c) := hq.2 1 _ rfl; have x2w5 : w5.cell? ⟨w.heap.size, 2, none⟩ = some (.int .u64 x.it.ts) := hq.1 2 _ rfl; have y2w5 : w5.cell? ⟨w.heap.size + 1, 2, none⟩ = some (.int .u64 y.it.ts) := hq.2 2 _ rfl; have x3w5 : w5.cell? ⟨w.heap.size, 3, none⟩ = some (.int .u64 x.it.tx) := hq.1 3 _ rfl; have y3w5 : w5.cell? ⟨w.heap.size + 1, 3, none⟩ = some (.int .u64 y.it.tx) := hq.2 3 _ rfl; have x4w5 : w5.cell? ⟨w.heap.size, 4, none⟩ = some (.bool x.it.dd) := hq.1 4 _ rfl; have y4w5 : w5.cell? ⟨w.heap.size + 1, 4, none⟩ = some (.bool y.it.dd) := hq.2 4 _ rfl; have x5w5 : w5.cell? ⟨w.heap.size, 5, none⟩ = some (.slice x.it.vl.a x.it.vl.n x.it.vl.c) := hq.1 5 _ rfl; have y5w5 : w5.cell? ⟨w.heap.size + 1, 5, none⟩ = some (.slice y.it.vl.a y.it.vl.n y.it.vl.c) := hq.2 5 _ rfl; have x6w5 : w5.cell? ⟨w.heap.size, 6, none⟩ = some (.slice x.it.ks.a x.it.ks.n x.it.ks.c) := hq.1 6 _ rfl; have y6w5 : w5.cell? ⟨w.heap.size + 1, 6, none⟩ = some (.slice y.it.ks.a y.it.ks.n y.it.ks.c) := hq.2 6 _ rfl; clear hq))
        go_ret
        exact ⟨by rw [HR.out]; rfl, HBn.out⟩
      · rw [show decide (x.it.p = y.it.p) = false from decide_eq_false h2] at HC2
        have Hn := hide h2
        clear h2
        have HR : Hid (decide (x.p = y.p) = false) := decide_eq_false (fun e => Hn.out (congrArg (fun t => t.2.2) (show ((x.key.t, x.vs.xs.map MVe.p, x.it.p)) = ((y.key.t, y.vs.xs.map MVe.p, y.it.p)) from e)))
        go_enter Tryz.func70, Tryz.ntmps70
        go_wp2_with (first
          | (go_at_call 104; go_must (refine (HC0.out _ HBn.out).mono ?_ <;> skip); rintro e w3 ⟨rfl, hb⟩; have HBn := hide (HBn.out.trans (hb.mono HBn.out.size)); have HBW := hide (HBW.out.trans (hb.mono HBW.out.size)); clear hb; have hq := two_boxes w #[.slice x.key.a x.key.n x.key.c, .slice x.vs.a x.vs.n x.vs.c, .int .u64 x.it.ts, .int .u64 x.it.tx, .bool x.it.dd, .slice x.it.vl.a x.it.vl.n x.it.vl.c, .slice x.it.ks.a x.it.ks.n x.it.ks.c] #[.slice y.key.a y.key.n y.key.c, .slice y.vs.a y.vs.n y.vs.c, .int .u64 y.it.ts, .int .u64 y.it.tx, .bool y.it.dd, .slice y.it.vl.a y.it.vl.n y.it.vl.c, .slice y.it.ks.a y.it.ks.n y.it.ks.c] 137 137 _ HBW.out; have x0w3 : w3.cell? ⟨w.heap.size, 0, none⟩ = some (.slice x.key.a x.key.n x.key.c) := hq.1 0 _ rfl; have y0w3 : w3.cell? ⟨w.heap.size + 1, 0, none⟩ = some (.slice y.key.a y.key.n y.key.c) := hq.2 0 _ rfl; have x1w3 : w3.cell? ⟨w.heap.size, 1, none⟩ = some (.slice x.vs.a x.vs.n x.vs.c) := hq.1 1 _ rfl; have y1w3 : w3.cell? ⟨w.heap.size + 1, 1, none⟩ = some (.slice y.vs.a y.vs.n y.vs.c) := hq.2 1 _ rfl; have x2w3 : w3.cell? ⟨w.heap.size, 2, none⟩ = some (.int .u64 x.it.ts) := hq.1 2 _ rfl; have y2w3 : w3.cell? ⟨w.heap.size + 1, 2, none⟩ = some (.int .u64 y.it.ts) := hq.2 2 _ rfl; have x3w3 : w3.cell? ⟨w.heap.size, 3, none⟩ = some (.int .u64 x.it.tx) := hq.1 3 _ rfl; have y3w3 : w3.cell? ⟨w.heap.size + 1, 3, none⟩ = some (.int .u64 y.it.tx) := hq.2 3 _ rfl; have x4w3 : w3.cell? ⟨w.heap.size, 4, none⟩ = some (.bool x.it.dd) := hq.1 4 _ rfl; have y4w3 : w3.cell? ⟨w.heap.size + 1, 4, none⟩ = some (.bool y.it.dd) := hq.2 4 _ rfl; have x5w3 : w3.cell? ⟨w.heap.size, 5, none⟩ = some (.slice x.it.vl.a x.it.vl.n x.it.vl.c) := hq.1 5 _ rfl; have y5w3 : w3.cell? ⟨w.heap.size + 1, 5, none⟩ = some (.slice y.it.vl.a y.it.vl.n y.it.vl.c) := hq.2 5 _ rfl; have x6w3 : w3.cell? ⟨w.heap.size, 6, none⟩ = some (.slice x.it.ks.a x.it.ks.n x.it.ks.c) := hq.1 6 _ rfl; have y6w3 : w3.cell? ⟨w.heap.size + 1, 6, none⟩ = some (.slice y.it.ks.a y.it.ks.n y.it.ks.c) := hq.2 6 _ rfl; clear hq)
          | (go_at_call 105; go_must (refine (HC1.out _ HBn.out).mono ?_ <;> skip); rintro e w4 ⟨rfl, hb⟩; have HBn := hide (HBn.out.trans (hb.mono HBn.out.size)); have HBW := hide (HBW.out.trans (hb.mono HBW.out.size)); clear hb; have hq := two_boxes w #[.slice x.key.a x.key.n x.key.c, .slice x.vs.a x.vs.n x.vs.c, .int .u64 x.it.ts, .int .u64 x.it.tx, .bool x.it.dd, .slice x.it.vl.a x.it.vl.n x.it.vl.c, .slice x.it.ks.a x.it.ks.n x.it.ks.c] #[.slice y.key.a y.key.n y.key.c, .slice y.vs.a y.vs.n y.vs.c, .int .u64 y.it.ts, .int .u64 y.it.tx, .bool y.it.dd, .slice y.it.vl.a y.it.vl.n y.it.vl.c, .slice y.it.ks.a y.it.ks.n y.it.ks.c] 137 137 _ HBW.out; have x0w4 : w4.cell? ⟨w.heap.size, 0, none⟩ = some (.slice x.key.a x.key.n x.key.c) := hq.1 0 _ rfl; have y0w4 : w4.cell? ⟨w.heap.size + 1, 0, none⟩ = some (.slice y.key.a y.key.n y.key.c) := hq.2 0 _ rfl; have x1w4 : w4.cell? ⟨w.heap.size, 1, none⟩ = some (.slice x.vs.a x.vs.n x.vs.c) := hq.1 1 _ rfl; have y1w4 : w4.cell? ⟨w.heap.size + 1, 1, none⟩ = some (.slice y.vs.a y.vs.n y.vs.c) := hq.2 1 _ rfl; have x2w4 : w4.cell? ⟨w.heap.size, 2, none⟩ = some (.int .u64 x.it.ts) := hq.1 2 _ rfl; have y2w4 : w4.cell? ⟨w.heap.size + 1, 2, none⟩ = some (.int .u64 y.it.ts) := hq.2 2 _ rfl; have x3w4 : w4.cell? ⟨w.heap.size, 3, none⟩ = some (.int .u64 x.it.tx) := hq.1 3 _ rfl; have y3w4 : w4.cell? ⟨w.heap.size + 1, 3, none⟩ = some (.int .u64 y.it.tx) := hq.2 3 _ rfl; have x4w4 : w4.cell? ⟨w.heap.size, 4, none⟩ = some (.bool x.it.dd) := hq.1 4 _ rfl; have y4w4 : w4.cell? ⟨w.heap.size + 1, 4, none⟩ = some (.bool y.it.dd) := hq.2 4 _ rfl; have x5w4 : w4.cell? ⟨w.heap.size, 5, none⟩ = some (.slice x.it.vl.a x.it.vl.n x.it.vl.c) := hq.1 5 _ rfl; have y5w4 : w4.cell? ⟨w.heap.size + 1, 5, none⟩ = some (.slice y.it.vl.a y.it.vl.n y.it.vl.c) := hq.2 5 _ rfl; have x6w4 : w4.cell? ⟨w.heap.size, 6, none⟩ = some (.slice x.it.ks.a x.it.ks.n x.it.ks.c) := hq.1 6 _ rfl; have y6w4 : w4.cell? ⟨w.heap.size + 1, 6, none⟩ = some (.slice y.it.ks.a y.it.ks.n y.it.ks.c) := hq.2 6 _ rfl; clear hq)
          | (go_at_call 106; go_must (refine (HC2.out _ HBn.out).mono ?_ <;> skip); rintro e w5 ⟨rfl, hb⟩; have HBn := hide (HBn.out.trans (hb.mono HBn.out.size)); have HBW := hide (HBW.out.trans (hb.mono HBW.out.size)); clear hb; have hq := two_boxes w #[.slice x.key.a x.key.n x.key.c, .slice x.vs.a x.vs.n x.vs.c, .int .u64 x.it.ts, .int .u64 x.it.tx, .bool x.it.dd, .slice x.it.vl.a x.it.vl.n x.it.vl.c, .slice x.it.ks.a x.it.ks.n x.it.ks.c] #[.slice y.key.a y.key.n y.key.c, .slice y.vs.a y.vs.n y.vs.c, .int .u64 y.it.ts, .int .u64 y.it.tx, .bool y.it.dd, .slice y.it.vl.a y.it.vl.n y.it.vl.c, .slice y.it.ks.a y.it.ks.n y.it.ks.c] 137 137 _ HBW.out; have x0w5 : w5.cell? ⟨w.heap.size, 0, none⟩ = some (.slice x.key.a x.key.n x.key.c) := hq.1 0 _ rfl; have y0w5 : w5.cell? ⟨w.heap.size + 1, 0, none⟩ = some (.slice y.key.a y.key.n y.key.c) := hq.2 0 _ rfl; have x1w5 : w5.cell? ⟨w.heap.size, 1, none⟩ = some (.slice x.vs.a x.vs.n x.vs.c) := hq.1 1 _ rfl; have y1w5 : w5.cell? ⟨w.heap.size + 1, 1, none⟩ = some (.slice y.vs.a y.vs.n y.vs.c) := hq.2 1 _ rfl; have x2w5 : w5.cell? ⟨w.heap.size, 2, none⟩ = some (.int .u64 x.it.ts) := hq.1 2 _ rfl; have y2w5 : w5.cell? ⟨w.heap.size + 1, 2, none⟩ = some (.int .u64 y.it.ts) := hq.2 2 _ rfl; have x3w5 : w5.cell? ⟨w.heap.size, 3, none⟩ = some (.int .u64 x.it.tx) := hq.1 3 _ rfl; have y3w5 : w5.cell? ⟨w.heap.size + 1, 3, none⟩ = some (.int .u64 y.it.tx) := hq.2 3 _ rfl; have x4w5 : w5.cell? ⟨w.heap.size, 4, none⟩ = some (.bool x.it.dd) := hq.1 4 _ rfl; have y4w5 : w5.cell? ⟨w.heap.size + 1, 4, none⟩ = some (.bool y.it.dd) := hq.2 4 _ rfl; have x5w5 : w5.cell? ⟨w.heap.size, 5, none⟩ = some (.slice x.it.vl.a x.it.vl.n x.it.vl.c) := hq.1 5 _ rfl; have y5w5 : w5.cell? ⟨w.heap.size + 1, 5, none⟩ = some (.slice y.it.vl.a y.it.vl.n y.it.vl.c) := hq.2 5 _ rfl; have x6w5 : w5.cell? ⟨w.heap.size, 6, none⟩ = some (.slice x.it.ks.a x.it.ks.n x.it.ks.c) := hq.1 6 _ rfl; have y6w5 : w5.cell? ⟨w.heap.size + 1, 6, none⟩ = some (.slice y.it.ks.a y.it.ks.n y.it.ks.c) := hq.2 6 _ rfl; clear hq))
        go_ret
        exact ⟨by rw [HR.out]; rfl, HBn.out⟩
    · rw [show decide (x.vs.xs.map MVe.p = y.vs.xs.map MVe.p) = false from decide_eq_false h1] at HC1
      have Hn := hide h1
      clear h1
      have HR : Hid (decide (x.p = y.p) = false) := decide_eq_false (fun e => Hn.out (congrArg (fun t => t.2.1) (show ((x.key.t, x.vs.xs.map MVe.p, x.it.p)) = ((y.key.t, y.vs.xs.map MVe.p, y.it.p)) from e)))
      go_enter Tryz.func70, Tryz.ntmps70
      go_wp2_with (first
        | (go_at_call 104; go_must (refine (HC0.out _ HBn.out).mono ?_ <;> skip); rintro e w3 ⟨rfl, hb⟩; have HBn := hide (HBn.out.trans (hb.mono HBn.out.size)); have HBW := hide (HBW.out.trans (hb.mono HBW.out.size)); clear hb; have hq := two_boxes w #[.slice x.key.a x.key.n x.key.c, .slice x.vs.a x.vs.n x.vs.c, .int .u64 x.it.ts, .int .u64 x.it.tx, .bool x.it.dd, .slice x.it.vl.a x.it.vl.n x.it.vl.c, .slice x.it.ks.a x.it.ks.n x.it.ks.c] #[.slice y.key.a y.key.n y.key.c, .slice y.vs.a y.vs.n y.vs.c, .int .u64 y.it.ts, .int .u64 y.it.tx, .bool y.it.dd, .slice y.it.vl.a y.it.vl.n y.it.vl.c, .slice y.it.ks.a y.it.ks.n y.it.ks.c] 137 137 _ HBW.out; have x0w3 : w3.cell? ⟨w.heap.size, 0, none⟩ = some (.slice x.key.a x.key.n x.key.c) := hq.1 0 _ rfl; have y0w3 : w3.cell? ⟨w.heap.size + 1, 0, none⟩ = some (.slice y.key.a y.key.n y.key.c) := hq.2 0 _ rfl; have x1w3 : w3.cell? ⟨w.heap.size, 1, none⟩ = some (.slice x.vs.a x.vs.n x.vs.c) := hq.1 1 _ rfl; have y1w3 : w3.cell? ⟨w.heap.size + 1, 1, none⟩ = some (.slice y.vs.a y.vs.n y.vs.c) := hq.2 1 _ rfl; have x2w3 : w3.cell? ⟨w.heap.size, 2, none⟩ = some (.int .u64 x.it.ts) := hq.1 2 _ rfl; have y2w3 : w3.cell? ⟨w.heap.size + 1, 2, none⟩ = some (.int .u64 y.it.ts) := hq.2 2 _ rfl; have x3w3 : w3.cell? ⟨w.heap.size, 3, none⟩ = some (.int .u64 x.it.tx) := hq.1 3 _ rfl; have y3w3 : w3.cell? ⟨w.heap.size + 1, 3, none⟩ = some (.int .u64 y.it.tx) := hq.2 3 _ rfl; have x4w3 : w3.cell? ⟨w.heap.size, 4, none⟩ = some (.bool x.it.dd) := hq.1 4 _ rfl; have y4w3 : w3.cell? ⟨w.heap.size + 1, 4, none⟩ = some (.bool y.it.dd) := hq.2 4 _ rfl; have x5w3 : w3.cell? ⟨w.heap.size, 5, none⟩ = some (.slice x.it.vl.a x.it.vl.n x.it.vl.c) := hq.1 5 _ rfl; have y5w3 : w3.cell? ⟨w.heap.size + 1, 5, none⟩ = some (.slice y.it.vl.a y.it.vl.n y.it.vl.c) := hq.2 5 _ rfl; have x6w3 : w3.cell? ⟨w.heap.size, 6, none⟩ = some (.slice x.it.ks.a x.it.ks.n x.it.ks.c) := hq.1 6 _ rfl; have y6w3 : w3.cell? ⟨w.heap.size + 1, 6, none⟩ = some (.slice y.it.ks.a y.it.ks.n y.it.ks.c) := hq.2 6 _ rfl; clear hq)
        | (go_at_call 105; go_must (refine (HC1.out _ HBn.out).mono ?_ <;> skip); rintro e w4 ⟨rfl, hb⟩; have HBn := hide (HBn.out.trans (hb.mono HBn.out.size)); have HBW := hide (HBW.out.trans (hb.mono HBW.out.size)); clear hb; have hq := two_boxes w #[.slice x.key.a x.key.n x.key.c, .slice x.vs.a x.vs.n x.vs.c, .int .u64 x.it.ts, .int .u64 x.it.tx, .bool x.it.dd, .slice x.it.vl.a x.it.vl.n x.it.vl.c, .slice x.it.ks.a x.it.ks.n x.it.ks.c] #[.slice y.key.a y.key.n y.key.c, .slice y.vs.a y.vs.n y.vs.c, .int .u64 y.it.ts, .int .u64 y.it.tx, .bool y.it.dd, .slice y.it.vl.a y.it.vl.n y.it.vl.c, .slice y.it.ks.a y.it.ks.n y.it.ks.c] 137 137 _ HBW.out; have x0w4 : w4.cell? ⟨w.heap.size, 0, none⟩ = some (.slice x.key.a x.key.n x.key.c) := hq.1 0 _ rfl; have y0w4 : w4.cell? ⟨w.heap.size + 1, 0, none⟩ = some (.slice y.key.a y.key.n y.key.c) := hq.2 0 _ rfl; have x1w4 : w4.cell? ⟨w.heap.size, 1, none⟩ = some (.slice x.vs.a x.vs.n x.vs.c) := hq.1 1 _ rfl; have y1w4 : w4.cell? ⟨w.heap.size + 1, 1, none⟩ = some (.slice y.vs.a y.vs.n y.vs.c) := hq.2 1 _ rfl; have x2w4 : w4.cell? ⟨w.heap.size, 2, none⟩ = some (.int .u64 x.it.ts) := hq.1 2 _ rfl; have y2w4 : w4.cell? ⟨w.heap.size + 1, 2, none⟩ = some (.int .u64 y.it.ts) := hq.2 2 _ rfl; have x3w4 : w4.cell? ⟨w.heap.size, 3, none⟩ = some (.int .u64 x.it.tx) := hq.1 3 _ rfl; have y3w4 : w4.cell? ⟨w.heap.size + 1, 3, none⟩ = some (.int .u64 y.it.tx) := hq.2 3 _ rfl; have x4w4 : w4.cell? ⟨w.heap.size, 4, none⟩ = some (.bool x.it.dd) := hq.1 4 _ rfl; have y4w4 : w4.cell? ⟨w.heap.size + 1, 4, none⟩ = some (.bool y.it.dd) := hq.2 4 _ rfl; have x5w4 : w4.cell? ⟨w.heap.size, 5, none⟩ = some (.slice x.it.vl.a x.it.vl.n x.it.vl.c) := hq.1 5 _ rfl; have y5w4 : w4.cell? ⟨w.heap.size + 1, 5, none⟩ = some (.slice y.it.vl.a y.it.vl.n y.it.vl.c) := hq.2 5 _ rfl; have x6w4 : w4.cell? ⟨w.heap.size, 6, none⟩ = some (.slice x.it.ks.a x.it.ks.n x.it.ks.c) := hq.1 6 _ rfl; have y6w4 : w4.cell? ⟨w.heap.size + 1, 6, none⟩ = some (.slice y.it.ks.a y.it.ks.n y.it.ks.c) := hq.2 6 _ rfl; clear hq)
        | (go_at_call 106; go_must (refine (HC2.out _ HBn.out).mono ?_ <;> skip); rintro e w5 ⟨rfl, hb⟩; have HBn := hide (HBn.out.trans (hb.mono HBn.out.size)); have HBW := hide (HBW.out.trans (hb.mono HBW.out.size)); clear hb; have hq := two_boxes w #[.slice x.key.a x.key.n x.key.c, .slice x.vs.a x.vs.n x.vs.c, .int .u64 x.it.ts, .int .u64 x.it.tx, .bool x.it.dd, .slice x.it.vl.a x.it.vl.n x.it.vl.c, .slice x.it.ks.a x.it.ks.n x.it.ks.c] #[.slice y.key.a y.key.n y.key.c, .slice y.vs.a y.vs.n y.vs.c, .int .u64 y.it.ts, .int .u64 y.it.tx, .bool y.it.dd, .slice y.it.vl.a y.it.vl.n y.it.vl.c, .slice y.it.ks.a y.it.ks.n y.it.ks.c] 137 137 _ HBW.out; have x0w5 : w5.cell? ⟨w.heap.size, 0, none⟩ = some (.slice x.key.a x.key.n x.key.c) := hq.1 0 _ rfl; have y0w5 : w5.cell? ⟨w.heap.size + 1, 0, none⟩ = some (.slice y.key.a y.key.n y.key.c) := hq.2 0 _ rfl; have x1w5 : w5.cell? ⟨w.heap.size, 1, none⟩ = some (.slice x.vs.a x.vs.n x.vs.c) := hq.1 1 _ rfl; have y1w5 : w5.cell? ⟨w.heap.size + 1, 1, none⟩ = some (.slice y.vs.a y.vs.n y.vs.c) := hq.2 1 _ rfl; have x2w5 : w5.cell? ⟨w.heap.size, 2, none⟩ = some (.int .u64 x.it.ts) := hq.1 2 _ rfl; have y2w5 : w5.cell? ⟨w.heap.size + 1, 2, none⟩ = some (.int .u64 y.it.ts) := hq.2 2 _ rfl; have x3w5 : w5.cell? ⟨w.heap.size, 3, none⟩ = some (.int .u64 x.it.tx) := hq.1 3 _ rfl; have y3w5 : w5.cell? ⟨w.heap.size + 1, 3, none⟩ = some (.int .u64 y.it.tx) := hq.2 3 _ rfl; have x4w5 : w5.cell? ⟨w.heap.size, 4, none⟩ = some (.bool x.it.dd) := hq.1 4 _ rfl; have y4w5 : w5.cell? ⟨w.heap.size + 1, 4, none⟩ = some (.bool y.it.dd) := hq.2 4 _ rfl; have x5w5 : w5.cell? ⟨w.heap.size, 5, none⟩ = some (.slice x.it.vl.a x.it.vl.n x.it.vl.c) := hq.1 5 _ rfl; have y5w5 : w5.cell? ⟨w.heap.size + 1, 5, none⟩ = some (.slice y.it.vl.a y.it.vl.n y.it.vl.c) := hq.2 5 _ rfl; have x6w5 : w5.cell? ⟨w.heap.size, 6, none⟩ = some (.slice x.it.ks.a x.it.ks.n x.it.ks.c) := hq.1 6 _ rfl; have y6w5 : w5.cell? ⟨w.heap.size + 1, 6, none⟩ = some (.slice y.it.ks.a y.it.ks.n y.it.ks.c) := hq.2 6 _ rfl; clear hq))
      go_ret
      exact ⟨by rw [HR.out]; rfl, HBn.out⟩
  · rw [show decide (x.key.t = y.key.t) = false from decide_eq_false h0] at HC0
    have Hn := hide h0
    clear h0
    have HR : Hid (decide (x.p = y.p) = false) := decide_eq_false (fun e => Hn.out (congrArg (fun t => t.1) (show ((x.key.t, x.vs.xs.map MVe.p, x.it.p)) = ((y.key.t, y.vs.xs.map MVe.p, y.it.p)) from e)))
    go_enter Tryz.func70, Tryz.ntmps70
    go_wp2_with (first
      | (go_at_call 104; go_must (refine (HC0.out _ HBn.out).mono ?_ <;> skip); rintro e w3 ⟨rfl, hb⟩; have HBn := hide (HBn.out.trans (hb.mono HBn.out.size)); have HBW := hide (HBW.out.trans (hb.mono HBW.out.size)); clear hb; have hq := two_boxes w #[.slice x.key.a x.key.n x.key.c, .slice x.vs.a x.vs.n x.vs.c, .int .u64 x.it.ts, .int .u64 x.it.tx, .bool x.it.dd, .slice x.it.vl.a x.it.vl.n x.it.vl.c, .slice x.it.ks.a x.it.ks.n x.it.ks.c] #[.slice y.key.a y.key.n y.key.c, .slice y.vs.a y.vs.n y.vs.c, .int .u64 y.it.ts, .int .u64 y.it.tx, .bool y.it.dd, .slice y.it.vl.a y.it.vl.n y.it.vl.c, .slice y.it.ks.a y.it.ks.n y.it.ks.c] 137 137 _ HBW.out; have x0w3 : w3.cell? ⟨w.heap.size, 0, none⟩ = some (.slice x.key.a x.key.n x.key.c) := hq.1 0 _ rfl; have y0w3 : w3.cell? ⟨w.heap.size + 1, 0, none⟩ = some (.slice y.key.a y.key.n y.key.c) := hq.2 0 _ rfl; have x1w3 : w3.cell? ⟨w.heap.size, 1, none⟩ = some (.slice x.vs.a x.vs.n x.vs.c) := hq.1 1 _ rfl; have y1w3 : w3.cell? ⟨w.heap.size + 1, 1, none⟩ = some (.slice y.vs.a y.vs.n y.vs.c) := hq.2 1 _ rfl; have x2w3 : w3.cell? ⟨w.heap.size, 2, none⟩ = some (.int .u64 x.it.ts) := hq.1 2 _ rfl; have y2w3 : w3.cell? ⟨w.heap.size + 1, 2, none⟩ = some (.int .u64 y.it.ts) := hq.2 2 _ rfl; have x3w3 : w3.cell? ⟨w.heap.size, 3, none⟩ = some (.int .u64 x.it.tx) := hq.1 3 _ rfl; have y3w3 : w3.cell? ⟨w.heap.size + 1, 3, none⟩ = some (.int .u64 y.it.tx) := hq.2 3 _ rfl; have x4w3 : w3.cell? ⟨w.heap.size, 4, none⟩ = some (.bool x.it.dd) := hq.1 4 _ rfl; have y4w3 : w3.cell? ⟨w.heap.size + 1, 4, none⟩ = some (.bool y.it.dd) := hq.2 4 _ rfl; have x5w3 : w3.cell? ⟨w.heap.size, 5, none⟩ = some (.slice x.it.vl.a x.it.vl.n x.it.vl.c) := hq.1 5 _ rfl; have y5w3 : w3.cell? ⟨w.heap.size + 1, 5, none⟩ = some (.slice y.it.vl.a y.it.vl.n y.it.vl.c) := hq.2 5 _ rfl; have x6w3 : w3.cell? ⟨w.heap.size, 6, none⟩ = some (.slice x.it.ks.a x.it.ks.n x.it.ks.c) := hq.1 6 _ rfl; have y6w3 : w3.cell? ⟨w.heap.size + 1, 6, none⟩ = some (.slice y.it.ks.a y.it.ks.n y.it.ks.c) := hq.2 6 _ rfl; clear hq)
      | (go_at_call 105; go_must (refine (HC1.out _ HBn.out).mono ?_ <;> skip); rintro e w4 ⟨rfl, hb⟩; have HBn := hide (HBn.out.trans (hb.mono HBn.out.size)); have HBW := hide (HBW.out.trans (hb.mono HBW.out.size)); clear hb; have hq := two_boxes w #[.slice x.key.a x.key.n x.key.c, .slice x.vs.a x.vs.n x.vs.c, .int .u64 x.it.ts, .int .u64 x.it.tx, .bool x.it.dd, .slice x.it.vl.a x.it.vl.n x.it.vl.c, .slice x.it.ks.a x.it.ks.n x.it.ks.c] #[.slice y.key.a y.key.n y.key.c, .slice y.vs.a y.vs.n y.vs.c, .int .u64 y.it.ts, .int .u64 y.it.tx, .bool y.it.dd, .slice y.it.vl.a y.it.vl.n y.it.vl.c, .slice y.it.ks.a y.it.ks.n y.it.ks.c] 137 137 _ HBW.out; have x0w4 : w4.cell? ⟨w.heap.size, 0, none⟩ = some (.slice x.key.a x.key.n x.key.c) := hq.1 0 _ rfl; have y0w4 : w4.cell? ⟨w.heap.size + 1, 0, none⟩ = some (.slice y.key.a y.key.n y.key.c) := hq.2 0 _ rfl; have x1w4 : w4.cell? ⟨w.heap.size, 1, none⟩ = some (.slice x.vs.a x.vs.n x.vs.c) := hq.1 1 _ rfl; have y1w4 : w4.cell? ⟨w.heap.size + 1, 1, none⟩ = some (.slice y.vs.a y.vs.n y.vs.c) := hq.2 1 _ rfl; have x2w4 : w4.cell? ⟨w.heap.size, 2, none⟩ = some (.int .u64 x.it.ts) := hq.1 2 _ rfl; have y2w4 : w4.cell? ⟨w.heap.size + 1, 2, none⟩ = some (.int .u64 y.it.ts) := hq.2 2 _ rfl; have x3w4 : w4.cell? ⟨w.heap.size, 3, none⟩ = some (.int .u64 x.it.tx) := hq.1 3 _ rfl; have y3w4 : w4.cell? ⟨w.heap.size + 1, 3, none⟩ = some (.int .u64 y.it.tx) := hq.2 3 _ rfl; have x4w4 : w4.cell? ⟨w.heap.size, 4, none⟩ = some (.bool x.it.dd) := hq.1 4 _ rfl; have y4w4 : w4.cell? ⟨w.heap.size + 1, 4, none⟩ = some (.bool y.it.dd) := hq.2 4 _ rfl; have x5w4 : w4.cell? ⟨w.heap.size, 5, none⟩ = some (.slice x.it.vl.a x.it.vl.n x.it.vl.c) := hq.1 5 _ rfl; have y5w4 : w4.cell? ⟨w.heap.size + 1, 5, none⟩ = some (.slice y.it.vl.a y.it.vl.n y.it.vl.c) := hq.2 5 _ rfl; have x6w4 : w4.cell? ⟨w.heap.size, 6, none⟩ = some (.slice x.it.ks.a x.it.ks.n x.it.ks.c) := hq.1 6 _ rfl; have y6w4 : w4.cell? ⟨w.heap.size + 1, 6, none⟩ = some (.slice y.it.ks.a y.it.ks.n y.it.ks.c) := hq.2 6 _ rfl; clear hq)
      | (go_at_call 106; go_must (refine (HC2.out _ HBn.out).mono ?_ <;> skip); rintro e w5 ⟨rfl, hb⟩; have HBn := hide (HBn.out.trans (hb.mono HBn.out.size)); have HBW := hide (HBW.out.trans (hb.mono HBW.out.size)); clear hb; have hq := two_boxes w #[.slice x.key.a x.key.n x.key.c, .slice x.vs.a x.vs.n x.vs.c, .int .u64 x.it.ts, .int .u64 x.it.tx, .bool x.it.dd, .slice x.it.vl.a x.it.vl.n x.it.vl.c, .slice x.it.ks.a x.it.ks.n x.it.ks.c] #[.slice y.key.a y.key.n y.key.c, .slice y.vs.a y.vs.n y.vs.c, .int .u64 y.it.ts, .int .u64 y.it.tx, .bool y.it.dd, .slice y.it.vl.a y.it.vl.n y.it.vl.c, .slice y.it.ks.a y.it.ks.n y.it.ks.c] 137 137 _ HBW.out; have x0w5 : w5.cell? ⟨w.heap.size, 0, none⟩ = some (.slice x.key.a x.key.n x.key.c) := hq.1 0 _ rfl; have y0w5 : w5.cell? ⟨w.heap.size + 1, 0, none⟩ = some (.slice y.key.a y.key.n y.key.c) := hq.2 0 _ rfl; have x1w5 : w5.cell? ⟨w.heap.size, 1, none⟩ = some (.slice x.vs.a x.vs.n x.vs.c) := hq.1 1 _ rfl; have y1w5 : w5.cell? ⟨w.heap.size + 1, 1, none⟩ = some (.slice y.vs.a y.vs.n y.vs.c) := hq.2 1 _ rfl; have x2w5 : w5.cell? ⟨w.heap.size, 2, none⟩ = some (.int .u64 x.it.ts) := hq.1 2 _ rfl; have y2w5 : w5.cell? ⟨w.heap.size + 1, 2, none⟩ = some (.int .u64 y.it.ts) := hq.2 2 _ rfl; have x3w5 : w5.cell? ⟨w.heap.size, 3, none⟩ = some (.int .u64 x.it.tx) := hq.1 3 _ rfl; have y3w5 : w5.cell? ⟨w.heap.size + 1, 3, none⟩ = some (.int .u64 y.it.tx) := hq.2 3 _ rfl; have x4w5 : w5.cell? ⟨w.heap.size, 4, none⟩ = some (.bool x.it.dd) := hq.1 4 _ rfl; have y4w5 : w5.cell? ⟨w.heap.size + 1, 4, none⟩ = some (.bool y.it.dd) := hq.2 4 _ rfl; have x5w5 : w5.cell? ⟨w.heap.size, 5, none⟩ = some (.slice x.it.vl.a x.it.vl.n x.it.vl.c) := hq.1 5 _ rfl; have y5w5 : w5.cell? ⟨w.heap.size + 1, 5, none⟩ = some (.slice y.it.vl.a y.it.vl.n y.it.vl.c) := hq.2 5 _ rfl; have x6w5 : w5.cell? ⟨w.heap.size, 6, none⟩ = some (.slice x.it.ks.a x.it.ks.n x.it.ks.c) := hq.1 6 _ rfl; have y6w5 : w5.cell? ⟨w.heap.size + 1, 6, none⟩ = some (.slice y.it.ks.a y.it.ks.n y.it.ks.c) := hq.2 6 _ rfl; clear hq))
    go_ret
    exact ⟨by rw [HR.out]; rfl, HBn.out⟩

set_option maxHeartbeats 8000000 in
theorem psameT_any (x y : MTb) (w : World) (h : x.ok w) (k : y.ok w) :
    Calls Tryz.prog 72 #[.agg #[.int .i64 x.id, .string (strB x.nm), .slice x.cs.a x.cs.n x.cs.c, .int .i64 x.ky, .slice x.ix.a x.ix.n x.ix.c], .agg #[.int .i64 y.id, .string (strB y.nm), .slice y.cs.a y.cs.n y.cs.c, .int .i64 y.ky, .slice y.ix.a y.ix.n y.ix.c]] w fun e w' => e = .returned (.bool (decide (x.b = y.b))) ∧ Below w.heap.size w w' := by
  have HBn : Hid (Below w.heap.size w ((w.alloc (.cells #[.int .i64 x.id, .string (strB x.nm), .slice x.cs.a x.cs.n x.cs.c, .int .i64 x.ky, .slice x.ix.a x.ix.n x.ix.c] 48)).alloc (.cells #[.int .i64 y.id, .string (strB y.nm), .slice y.cs.a y.cs.n y.cs.c, .int .i64 y.ky, .slice y.ix.a y.ix.n y.ix.c] 48))) := (new_below w _).trans ((new_below _ _).mono (new_below w _).size)
  have HC2 := hide (fun W (hb : Below w.heap.size w W) => eqCo_any x.cs.xs y.cs.xs x.cs.a y.cs.a x.cs.n x.cs.c y.cs.n y.cs.c W (h.cs.keep hb) (k.cs.keep hb))
  have HC4 := hide (fun W (hb : Below w.heap.size w W) => eqIn_any x.ix.xs y.ix.xs x.ix.a y.ix.a x.ix.n x.ix.c y.ix.n y.ix.c W (h.ix.keep hb) (k.ix.keep hb))
  have HBW : Hid (Below ((w.alloc (.cells #[.int .i64 x.id, .string (strB x.nm), .slice x.cs.a x.cs.n x.cs.c, .int .i64 x.ky, .slice x.ix.a x.ix.n x.ix.c] 48)).alloc (.cells #[.int .i64 y.id, .string (strB y.nm), .slice y.cs.a y.cs.n y.cs.c, .int .i64 y.ky, .slice y.ix.a y.ix.n y.ix.c] 48)).heap.size ((w.alloc (.cells #[.int .i64 x.id, .string (strB x.nm), .slice x.cs.a x.cs.n x.cs.c, .int .i64 x.ky, .slice x.ix.a x.ix.n x.ix.c] 48)).alloc (.cells #[.int .i64 y.id, .string (strB y.nm), .slice y.cs.a y.cs.n y.cs.c, .int .i64 y.ky, .slice y.ix.a y.ix.n y.ix.c] 48)) ((w.alloc (.cells #[.int .i64 x.id, .string (strB x.nm), .slice x.cs.a x.cs.n x.cs.c, .int .i64 x.ky, .slice x.ix.a x.ix.n x.ix.c] 48)).alloc (.cells #[.int .i64 y.id, .string (strB y.nm), .slice y.cs.a y.cs.n y.cs.c, .int .i64 y.ky, .slice y.ix.a y.ix.n y.ix.c] 48))) := Below.refl _ _
  clear h k
  by_cases h0 : x.id = y.id
  · have d0 : (x.id == y.id) = true := by simpa using h0
    have c0 : decide (x.id = y.id) = true := by simpa using h0
    have Hh0 := hide h0
    clear h0
    by_cases h1 : (strB x.nm).toList = (strB y.nm).toList
    · have d1 : ((strB x.nm).toList == (strB y.nm).toList) = true := by simpa using h1
      have c1 : decide ((strB x.nm).toList = (strB y.nm).toList) = true := by simpa using h1
      have Hh1 := hide h1
      clear h1
      by_cases h2 : x.cs.xs.map Colm.b = y.cs.xs.map Colm.b
      · rw [show decide (x.cs.xs.map Colm.b = y.cs.xs.map Colm.b) = true from decide_eq_true h2] at HC2
        have Hh2 := hide h2
        clear h2
        by_cases h3 : x.ky = y.ky
        · have d3 : (x.ky == y.ky) = true := by simpa using h3
          have c3 : decide (x.ky = y.ky) = true := by simpa using h3
          have Hh3 := hide h3
          clear h3
          by_cases h4 : x.ix.xs = y.ix.xs
          · rw [show decide (x.ix.xs = y.ix.xs) = true from decide_eq_true h4] at HC4
            have Hh4 := hide h4
            clear h4
            have HR : Hid (decide (x.b = y.b) = true) := decide_eq_true (by show ((x.id, (strB x.nm).toList, x.cs.xs.map Colm.b, x.ky, x.ix.xs)) = ((y.id, (strB y.nm).toList, y.cs.xs.map Colm.b, y.ky, y.ix.xs)); rw [Hh0.out, Hh1.out, Hh2.out, Hh3.out, Hh4.out])
            go_enter Tryz.func72, Tryz.ntmps72
            go_wp2_with (first
              | (go_at_call 107; go_must (refine (HC2.out _ HBn.out).mono ?_ <;> skip); rintro e w5 ⟨rfl, hb⟩; have HBn := hide (HBn.out.trans (hb.mono HBn.out.size)); have HBW := hide (HBW.out.trans (hb.mono HBW.out.size)); clear hb; have hq := two_boxes w #[.int .i64 x.id, .string (strB x.nm), .slice x.cs.a x.cs.n x.cs.c, .int .i64 x.ky, .slice x.ix.a x.ix.n x.ix.c] #[.int .i64 y.id, .string (strB y.nm), .slice y.cs.a y.cs.n y.cs.c, .int .i64 y.ky, .slice y.ix.a y.ix.n y.ix.c] 48 48 _ HBW.out; have x0w5 : w5.cell? ⟨w.heap.size, 0, none⟩ = some (.int .i64 x.id) := hq.1 0 _ rfl; have y0w5 : w5.cell? ⟨w.heap.size + 1, 0, none⟩ = some (.int .i64 y.id) := hq.2 0 _ rfl; have x1w5 : w5.cell? ⟨w.heap.size, 1, none⟩ = some (.string (strB x.nm)) := hq.1 1 _ rfl; have y1w5 : w5.cell? ⟨w.heap.size + 1, 1, none⟩ = some (.string (strB y.nm)) := hq.2 1 _ rfl; have x2w5 : w5.cell? ⟨w.heap.size, 2, none⟩ = some (.slice x.cs.a x.cs.n x.cs.c) := hq.1 2 _ rfl; have y2w5 : w5.cell? ⟨w.heap.size + 1, 2, none⟩ = some (.slice y.cs.a y.cs.n y.cs.c) := hq.2 2 _ rfl; have x3w5 : w5.cell? ⟨w.heap.size, 3, none⟩ = some (.int .i64 x.ky) := hq.1 3 _ rfl; have y3w5 : w5.cell? ⟨w.heap.size + 1, 3, none⟩ = some (.int .i64 y.ky) := hq.2 3 _ rfl; have x4w5 : w5.cell? ⟨w.heap.size, 4, none⟩ = some (.slice x.ix.a x.ix.n x.ix.c) := hq.1 4 _ rfl; have y4w5 : w5.cell? ⟨w.heap.size + 1, 4, none⟩ = some (.slice y.ix.a y.ix.n y.ix.c) := hq.2 4 _ rfl; clear hq)
              | (go_at_call 108; go_must (refine (HC4.out _ HBn.out).mono ?_ <;> skip); rintro e w7 ⟨rfl, hb⟩; have HBn := hide (HBn.out.trans (hb.mono HBn.out.size)); have HBW := hide (HBW.out.trans (hb.mono HBW.out.size)); clear hb; have hq := two_boxes w #[.int .i64 x.id, .string (strB x.nm), .slice x.cs.a x.cs.n x.cs.c, .int .i64 x.ky, .slice x.ix.a x.ix.n x.ix.c] #[.int .i64 y.id, .string (strB y.nm), .slice y.cs.a y.cs.n y.cs.c, .int .i64 y.ky, .slice y.ix.a y.ix.n y.ix.c] 48 48 _ HBW.out; have x0w7 : w7.cell? ⟨w.heap.size, 0, none⟩ = some (.int .i64 x.id) := hq.1 0 _ rfl; have y0w7 : w7.cell? ⟨w.heap.size + 1, 0, none⟩ = some (.int .i64 y.id) := hq.2 0 _ rfl; have x1w7 : w7.cell? ⟨w.heap.size, 1, none⟩ = some (.string (strB x.nm)) := hq.1 1 _ rfl; have y1w7 : w7.cell? ⟨w.heap.size + 1, 1, none⟩ = some (.string (strB y.nm)) := hq.2 1 _ rfl; have x2w7 : w7.cell? ⟨w.heap.size, 2, none⟩ = some (.slice x.cs.a x.cs.n x.cs.c) := hq.1 2 _ rfl; have y2w7 : w7.cell? ⟨w.heap.size + 1, 2, none⟩ = some (.slice y.cs.a y.cs.n y.cs.c) := hq.2 2 _ rfl; have x3w7 : w7.cell? ⟨w.heap.size, 3, none⟩ = some (.int .i64 x.ky) := hq.1 3 _ rfl; have y3w7 : w7.cell? ⟨w.heap.size + 1, 3, none⟩ = some (.int .i64 y.ky) := hq.2 3 _ rfl; have x4w7 : w7.cell? ⟨w.heap.size, 4, none⟩ = some (.slice x.ix.a x.ix.n x.ix.c) := hq.1 4 _ rfl; have y4w7 : w7.cell? ⟨w.heap.size + 1, 4, none⟩ = some (.slice y.ix.a y.ix.n y.ix.c) := hq.2 4 _ rfl; clear hq))
            go_ret
            exact ⟨by rw [HR.out]; rfl, HBn.out⟩
          · rw [show decide (x.ix.xs = y.ix.xs) = false from decide_eq_false h4] at HC4
            have Hn := hide h4
            clear h4
            have HR : Hid (decide (x.b = y.b) = false) := decide_eq_false (fun e => Hn.out (congrArg (fun t => t.2.2.2.2) (show ((x.id, (strB x.nm).toList, x.cs.xs.map Colm.b, x.ky, x.ix.xs)) = ((y.id, (strB y.nm).toList, y.cs.xs.map Colm.b, y.ky, y.ix.xs)) from e)))
            go_enter Tryz.func72, Tryz.ntmps72
            go_wp2_with (first
              | (go_at_call 107; go_must (refine (HC2.out _ HBn.out).mono ?_ <;> skip); rintro e w5 ⟨rfl, hb⟩; have HBn := hide (HBn.out.trans (hb.mono HBn.out.size)); have HBW := hide (HBW.out.trans (hb.mono HBW.out.size)); clear hb; have hq := two_boxes w #[.int .i64 x.id, .string (strB x.nm), .slice x.cs.a x.cs.n x.cs.c, .int .i64 x.ky, .slice x.ix.a x.ix.n x.ix.c] #[.int .i64 y.id, .string (strB y.nm), .slice y.cs.a y.cs.n y.cs.c, .int .i64 y.ky, .slice y.ix.a y.ix.n y.ix.c] 48 48 _ HBW.out; have x0w5 : w5.cell? ⟨w.heap.size, 0, none⟩ = some (.int .i64 x.id) := hq.1 0 _ rfl; have y0w5 : w5.cell? ⟨w.heap.size + 1, 0, none⟩ = some (.int .i64 y.id) := hq.2 0 _ rfl; have x1w5 : w5.cell? ⟨w.heap.size, 1, none⟩ = some (.string (strB x.nm)) := hq.1 1 _ rfl; have y1w5 : w5.cell? ⟨w.heap.size + 1, 1, none⟩ = some (.string (strB y.nm)) := hq.2 1 _ rfl; have x2w5 : w5.cell? ⟨w.heap.size, 2, none⟩ = some (.slice x.cs.a x.cs.n x.cs.c) := hq.1 2 _ rfl; have y2w5 : w5.cell? ⟨w.heap.size + 1, 2, none⟩ = some (.slice y.cs.a y.cs.n y.cs.c) := hq.2 2 _ rfl; have x3w5 : w5.cell? ⟨w.heap.size, 3, none⟩ = some (.int .i64 x.ky) := hq.1 3 _ rfl; have y3w5 : w5.cell? ⟨w.heap.size + 1, 3, none⟩ = some (.int .i64 y.ky) := hq.2 3 _ rfl; have x4w5 : w5.cell? ⟨w.heap.size, 4, none⟩ = some (.slice x.ix.a x.ix.n x.ix.c) := hq.1 4 _ rfl; have y4w5 : w5.cell? ⟨w.heap.size + 1, 4, none⟩ = some (.slice y.ix.a y.ix.n y.ix.c) := hq.2 4 _ rfl; clear hq)
              | (go_at_call 108; go_must (refine (HC4.out _ HBn.out).mono ?_ <;> skip); rintro e w7 ⟨rfl, hb⟩; have HBn := hide (HBn.out.trans (hb.mono HBn.out.size)); have HBW := hide (HBW.out.trans (hb.mono HBW.out.size)); clear hb; have hq := two_boxes w #[.int .i64 x.id, .string (strB x.nm), .slice x.cs.a x.cs.n x.cs.c, .int .i64 x.ky, .slice x.ix.a x.ix.n x.ix.c] #[.int .i64 y.id, .string (strB y.nm), .slice y.cs.a y.cs.n y.cs.c, .int .i64 y.ky, .slice y.ix.a y.ix.n y.ix.c] 48 48 _ HBW.out; have x0w7 : w7.cell? ⟨w.heap.size, 0, none⟩ = some (.int .i64 x.id) := hq.1 0 _ rfl; have y0w7 : w7.cell? ⟨w.heap.size + 1, 0, none⟩ = some (.int .i64 y.id) := hq.2 0 _ rfl; have x1w7 : w7.cell? ⟨w.heap.size, 1, none⟩ = some (.string (strB x.nm)) := hq.1 1 _ rfl; have y1w7 : w7.cell? ⟨w.heap.size + 1, 1, none⟩ = some (.string (strB y.nm)) := hq.2 1 _ rfl; have x2w7 : w7.cell? ⟨w.heap.size, 2, none⟩ = some (.slice x.cs.a x.cs.n x.cs.c) := hq.1 2 _ rfl; have y2w7 : w7.cell? ⟨w.heap.size + 1, 2, none⟩ = some (.slice y.cs.a y.cs.n y.cs.c) := hq.2 2 _ rfl; have x3w7 : w7.cell? ⟨w.heap.size, 3, none⟩ = some (.int .i64 x.ky) := hq.1 3 _ rfl; have y3w7 : w7.cell? ⟨w.heap.size + 1, 3, none⟩ = some (.int .i64 y.ky) := hq.2 3 _ rfl; have x4w7 : w7.cell? ⟨w.heap.size, 4, none⟩ = some (.slice x.ix.a x.ix.n x.ix.c) := hq.1 4 _ rfl; have y4w7 : w7.cell? ⟨w.heap.size + 1, 4, none⟩ = some (.slice y.ix.a y.ix.n y.ix.c) := hq.2 4 _ rfl; clear hq))
            go_ret
            exact ⟨by rw [HR.out]; rfl, HBn.out⟩
        · have d3 : (x.ky == y.ky) = false := by simpa using h3
          have c3 : decide (x.ky = y.ky) = false := by simpa using h3
          have Hn := hide h3
          clear h3
          have HR : Hid (decide (x.b = y.b) = false) := decide_eq_false (fun e => Hn.out (congrArg (fun t => t.2.2.2.1) (show ((x.id, (strB x.nm).toList, x.cs.xs.map Colm.b, x.ky, x.ix.xs)) = ((y.id, (strB y.nm).toList, y.cs.xs.map Colm.b, y.ky, y.ix.xs)) from e)))
          go_enter Tryz.func72, Tryz.ntmps72
          go_wp2_with (first
            | (go_at_call 107; go_must (refine (HC2.out _ HBn.out).mono ?_ <;> skip); rintro e w5 ⟨rfl, hb⟩; have HBn := hide (HBn.out.trans (hb.mono HBn.out.size)); have HBW := hide (HBW.out.trans (hb.mono HBW.out.size)); clear hb; have hq := two_boxes w #[.int .i64 x.id, .string (strB x.nm), .slice x.cs.a x.cs.n x.cs.c, .int .i64 x.ky, .slice x.ix.a x.ix.n x.ix.c] #[.int .i64 y.id, .string (strB y.nm), .slice y.cs.a y.cs.n y.cs.c, .int .i64 y.ky, .slice y.ix.a y.ix.n y.ix.c] 48 48 _ HBW.out; have x0w5 : w5.cell? ⟨w.heap.size, 0, none⟩ = some (.int .i64 x.id) := hq.1 0 _ rfl; have y0w5 : w5.cell? ⟨w.heap.size + 1, 0, none⟩ = some (.int .i64 y.id) := hq.2 0 _ rfl; have x1w5 : w5.cell? ⟨w.heap.size, 1, none⟩ = some (.string (strB x.nm)) := hq.1 1 _ rfl; have y1w5 : w5.cell? ⟨w.heap.size + 1, 1, none⟩ = some (.string (strB y.nm)) := hq.2 1 _ rfl; have x2w5 : w5.cell? ⟨w.heap.size, 2, none⟩ = some (.slice x.cs.a x.cs.n x.cs.c) := hq.1 2 _ rfl; have y2w5 : w5.cell? ⟨w.heap.size + 1, 2, none⟩ = some (.slice y.cs.a y.cs.n y.cs.c) := hq.2 2 _ rfl; have x3w5 : w5.cell? ⟨w.heap.size, 3, none⟩ = some (.int .i64 x.ky) := hq.1 3 _ rfl; have y3w5 : w5.cell? ⟨w.heap.size + 1, 3, none⟩ = some (.int .i64 y.ky) := hq.2 3 _ rfl; have x4w5 : w5.cell? ⟨w.heap.size, 4, none⟩ = some (.slice x.ix.a x.ix.n x.ix.c) := hq.1 4 _ rfl; have y4w5 : w5.cell? ⟨w.heap.size + 1, 4, none⟩ = some (.slice y.ix.a y.ix.n y.ix.c) := hq.2 4 _ rfl; clear hq)
            | (go_at_call 108; go_must (refine (HC4.out _ HBn.out).mono ?_ <;> skip); rintro e w7 ⟨rfl, hb⟩; have HBn := hide (HBn.out.trans (hb.mono HBn.out.size)); have HBW := hide (HBW.out.trans (hb.mono HBW.out.size)); clear hb; have hq := two_boxes w #[.int .i64 x.id, .string (strB x.nm), .slice x.cs.a x.cs.n x.cs.c, .int .i64 x.ky, .slice x.ix.a x.ix.n x.ix.c] #[.int .i64 y.id, .string (strB y.nm), .slice y.cs.a y.cs.n y.cs.c, .int .i64 y.ky, .slice y.ix.a y.ix.n y.ix.c] 48 48 _ HBW.out; have x0w7 : w7.cell? ⟨w.heap.size, 0, none⟩ = some (.int .i64 x.id) := hq.1 0 _ rfl; have y0w7 : w7.cell? ⟨w.heap.size + 1, 0, none⟩ = some (.int .i64 y.id) := hq.2 0 _ rfl; have x1w7 : w7.cell? ⟨w.heap.size, 1, none⟩ = some (.string (strB x.nm)) := hq.1 1 _ rfl; have y1w7 : w7.cell? ⟨w.heap.size + 1, 1, none⟩ = some (.string (strB y.nm)) := hq.2 1 _ rfl; have x2w7 : w7.cell? ⟨w.heap.size, 2, none⟩ = some (.slice x.cs.a x.cs.n x.cs.c) := hq.1 2 _ rfl; have y2w7 : w7.cell? ⟨w.heap.size + 1, 2, none⟩ = some (.slice y.cs.a y.cs.n y.cs.c) := hq.2 2 _ rfl; have x3w7 : w7.cell? ⟨w.heap.size, 3, none⟩ = some (.int .i64 x.ky) := hq.1 3 _ rfl; have y3w7 : w7.cell? ⟨w.heap.size + 1, 3, none⟩ = some (.int .i64 y.ky) := hq.2 3 _ rfl; have x4w7 : w7.cell? ⟨w.heap.size, 4, none⟩ = some (.slice x.ix.a x.ix.n x.ix.c) := hq.1 4 _ rfl; have y4w7 : w7.cell? ⟨w.heap.size + 1, 4, none⟩ = some (.slice y.ix.a y.ix.n y.ix.c) := hq.2 4 _ rfl; clear hq))
          go_ret
          exact ⟨by rw [HR.out]; rfl, HBn.out⟩
      · rw [show decide (x.cs.xs.map Colm.b = y.cs.xs.map Colm.b) = false from decide_eq_false h2] at HC2
        have Hn := hide h2
        clear h2
        have HR : Hid (decide (x.b = y.b) = false) := decide_eq_false (fun e => Hn.out (congrArg (fun t => t.2.2.1) (show ((x.id, (strB x.nm).toList, x.cs.xs.map Colm.b, x.ky, x.ix.xs)) = ((y.id, (strB y.nm).toList, y.cs.xs.map Colm.b, y.ky, y.ix.xs)) from e)))
        go_enter Tryz.func72, Tryz.ntmps72
        go_wp2_with (first
          | (go_at_call 107; go_must (refine (HC2.out _ HBn.out).mono ?_ <;> skip); rintro e w5 ⟨rfl, hb⟩; have HBn := hide (HBn.out.trans (hb.mono HBn.out.size)); have HBW := hide (HBW.out.trans (hb.mono HBW.out.size)); clear hb; have hq := two_boxes w #[.int .i64 x.id, .string (strB x.nm), .slice x.cs.a x.cs.n x.cs.c, .int .i64 x.ky, .slice x.ix.a x.ix.n x.ix.c] #[.int .i64 y.id, .string (strB y.nm), .slice y.cs.a y.cs.n y.cs.c, .int .i64 y.ky, .slice y.ix.a y.ix.n y.ix.c] 48 48 _ HBW.out; have x0w5 : w5.cell? ⟨w.heap.size, 0, none⟩ = some (.int .i64 x.id) := hq.1 0 _ rfl; have y0w5 : w5.cell? ⟨w.heap.size + 1, 0, none⟩ = some (.int .i64 y.id) := hq.2 0 _ rfl; have x1w5 : w5.cell? ⟨w.heap.size, 1, none⟩ = some (.string (strB x.nm)) := hq.1 1 _ rfl; have y1w5 : w5.cell? ⟨w.heap.size + 1, 1, none⟩ = some (.string (strB y.nm)) := hq.2 1 _ rfl; have x2w5 : w5.cell? ⟨w.heap.size, 2, none⟩ = some (.slice x.cs.a x.cs.n x.cs.c) := hq.1 2 _ rfl; have y2w5 : w5.cell? ⟨w.heap.size + 1, 2, none⟩ = some (.slice y.cs.a y.cs.n y.cs.c) := hq.2 2 _ rfl; have x3w5 : w5.cell? ⟨w.heap.size, 3, none⟩ = some (.int .i64 x.ky) := hq.1 3 _ rfl; have y3w5 : w5.cell? ⟨w.heap.size + 1, 3, none⟩ = some (.int .i64 y.ky) := hq.2 3 _ rfl; have x4w5 : w5.cell? ⟨w.heap.size, 4, none⟩ = some (.slice x.ix.a x.ix.n x.ix.c) := hq.1 4 _ rfl; have y4w5 : w5.cell? ⟨w.heap.size + 1, 4, none⟩ = some (.slice y.ix.a y.ix.n y.ix.c) := hq.2 4 _ rfl; clear hq)
          | (go_at_call 108; go_must (refine (HC4.out _ HBn.out).mono ?_ <;> skip); rintro e w7 ⟨rfl, hb⟩; have HBn := hide (HBn.out.trans (hb.mono HBn.out.size)); have HBW := hide (HBW.out.trans (hb.mono HBW.out.size)); clear hb; have hq := two_boxes w #[.int .i64 x.id, .string (strB x.nm), .slice x.cs.a x.cs.n x.cs.c, .int .i64 x.ky, .slice x.ix.a x.ix.n x.ix.c] #[.int .i64 y.id, .string (strB y.nm), .slice y.cs.a y.cs.n y.cs.c, .int .i64 y.ky, .slice y.ix.a y.ix.n y.ix.c] 48 48 _ HBW.out; have x0w7 : w7.cell? ⟨w.heap.size, 0, none⟩ = some (.int .i64 x.id) := hq.1 0 _ rfl; have y0w7 : w7.cell? ⟨w.heap.size + 1, 0, none⟩ = some (.int .i64 y.id) := hq.2 0 _ rfl; have x1w7 : w7.cell? ⟨w.heap.size, 1, none⟩ = some (.string (strB x.nm)) := hq.1 1 _ rfl; have y1w7 : w7.cell? ⟨w.heap.size + 1, 1, none⟩ = some (.string (strB y.nm)) := hq.2 1 _ rfl; have x2w7 : w7.cell? ⟨w.heap.size, 2, none⟩ = some (.slice x.cs.a x.cs.n x.cs.c) := hq.1 2 _ rfl; have y2w7 : w7.cell? ⟨w.heap.size + 1, 2, none⟩ = some (.slice y.cs.a y.cs.n y.cs.c) := hq.2 2 _ rfl; have x3w7 : w7.cell? ⟨w.heap.size, 3, none⟩ = some (.int .i64 x.ky) := hq.1 3 _ rfl; have y3w7 : w7.cell? ⟨w.heap.size + 1, 3, none⟩ = some (.int .i64 y.ky) := hq.2 3 _ rfl; have x4w7 : w7.cell? ⟨w.heap.size, 4, none⟩ = some (.slice x.ix.a x.ix.n x.ix.c) := hq.1 4 _ rfl; have y4w7 : w7.cell? ⟨w.heap.size + 1, 4, none⟩ = some (.slice y.ix.a y.ix.n y.ix.c) := hq.2 4 _ rfl; clear hq))
        go_ret
        exact ⟨by rw [HR.out]; rfl, HBn.out⟩
    · have d1 : ((strB x.nm).toList == (strB y.nm).toList) = false := by simpa using h1
      have c1 : decide ((strB x.nm).toList = (strB y.nm).toList) = false := by simpa using h1
      have Hn := hide h1
      clear h1
      have HR : Hid (decide (x.b = y.b) = false) := decide_eq_false (fun e => Hn.out (congrArg (fun t => t.2.1) (show ((x.id, (strB x.nm).toList, x.cs.xs.map Colm.b, x.ky, x.ix.xs)) = ((y.id, (strB y.nm).toList, y.cs.xs.map Colm.b, y.ky, y.ix.xs)) from e)))
      go_enter Tryz.func72, Tryz.ntmps72
      go_wp2_with (first
        | (go_at_call 107; go_must (refine (HC2.out _ HBn.out).mono ?_ <;> skip); rintro e w5 ⟨rfl, hb⟩; have HBn := hide (HBn.out.trans (hb.mono HBn.out.size)); have HBW := hide (HBW.out.trans (hb.mono HBW.out.size)); clear hb; have hq := two_boxes w #[.int .i64 x.id, .string (strB x.nm), .slice x.cs.a x.cs.n x.cs.c, .int .i64 x.ky, .slice x.ix.a x.ix.n x.ix.c] #[.int .i64 y.id, .string (strB y.nm), .slice y.cs.a y.cs.n y.cs.c, .int .i64 y.ky, .slice y.ix.a y.ix.n y.ix.c] 48 48 _ HBW.out; have x0w5 : w5.cell? ⟨w.heap.size, 0, none⟩ = some (.int .i64 x.id) := hq.1 0 _ rfl; have y0w5 : w5.cell? ⟨w.heap.size + 1, 0, none⟩ = some (.int .i64 y.id) := hq.2 0 _ rfl; have x1w5 : w5.cell? ⟨w.heap.size, 1, none⟩ = some (.string (strB x.nm)) := hq.1 1 _ rfl; have y1w5 : w5.cell? ⟨w.heap.size + 1, 1, none⟩ = some (.string (strB y.nm)) := hq.2 1 _ rfl; have x2w5 : w5.cell? ⟨w.heap.size, 2, none⟩ = some (.slice x.cs.a x.cs.n x.cs.c) := hq.1 2 _ rfl; have y2w5 : w5.cell? ⟨w.heap.size + 1, 2, none⟩ = some (.slice y.cs.a y.cs.n y.cs.c) := hq.2 2 _ rfl; have x3w5 : w5.cell? ⟨w.heap.size, 3, none⟩ = some (.int .i64 x.ky) := hq.1 3 _ rfl; have y3w5 : w5.cell? ⟨w.heap.size + 1, 3, none⟩ = some (.int .i64 y.ky) := hq.2 3 _ rfl; have x4w5 : w5.cell? ⟨w.heap.size, 4, none⟩ = some (.slice x.ix.a x.ix.n x.ix.c) := hq.1 4 _ rfl; have y4w5 : w5.cell? ⟨w.heap.size + 1, 4, none⟩ = some (.slice y.ix.a y.ix.n y.ix.c) := hq.2 4 _ rfl; clear hq)
        | (go_at_call 108; go_must (refine (HC4.out _ HBn.out).mono ?_ <;> skip); rintro e w7 ⟨rfl, hb⟩; have HBn := hide (HBn.out.trans (hb.mono HBn.out.size)); have HBW := hide (HBW.out.trans (hb.mono HBW.out.size)); clear hb; have hq := two_boxes w #[.int .i64 x.id, .string (strB x.nm), .slice x.cs.a x.cs.n x.cs.c, .int .i64 x.ky, .slice x.ix.a x.ix.n x.ix.c] #[.int .i64 y.id, .string (strB y.nm), .slice y.cs.a y.cs.n y.cs.c, .int .i64 y.ky, .slice y.ix.a y.ix.n y.ix.c] 48 48 _ HBW.out; have x0w7 : w7.cell? ⟨w.heap.size, 0, none⟩ = some (.int .i64 x.id) := hq.1 0 _ rfl; have y0w7 : w7.cell? ⟨w.heap.size + 1, 0, none⟩ = some (.int .i64 y.id) := hq.2 0 _ rfl; have x1w7 : w7.cell? ⟨w.heap.size, 1, none⟩ = some (.string (strB x.nm)) := hq.1 1 _ rfl; have y1w7 : w7.cell? ⟨w.heap.size + 1, 1, none⟩ = some (.string (strB y.nm)) := hq.2 1 _ rfl; have x2w7 : w7.cell? ⟨w.heap.size, 2, none⟩ = some (.slice x.cs.a x.cs.n x.cs.c) := hq.1 2 _ rfl; have y2w7 : w7.cell? ⟨w.heap.size + 1, 2, none⟩ = some (.slice y.cs.a y.cs.n y.cs.c) := hq.2 2 _ rfl; have x3w7 : w7.cell? ⟨w.heap.size, 3, none⟩ = some (.int .i64 x.ky) := hq.1 3 _ rfl; have y3w7 : w7.cell? ⟨w.heap.size + 1, 3, none⟩ = some (.int .i64 y.ky) := hq.2 3 _ rfl; have x4w7 : w7.cell? ⟨w.heap.size, 4, none⟩ = some (.slice x.ix.a x.ix.n x.ix.c) := hq.1 4 _ rfl; have y4w7 : w7.cell? ⟨w.heap.size + 1, 4, none⟩ = some (.slice y.ix.a y.ix.n y.ix.c) := hq.2 4 _ rfl; clear hq))
      go_ret
      exact ⟨by rw [HR.out]; rfl, HBn.out⟩
  · have d0 : (x.id == y.id) = false := by simpa using h0
    have c0 : decide (x.id = y.id) = false := by simpa using h0
    have Hn := hide h0
    clear h0
    have HR : Hid (decide (x.b = y.b) = false) := decide_eq_false (fun e => Hn.out (congrArg (fun t => t.1) (show ((x.id, (strB x.nm).toList, x.cs.xs.map Colm.b, x.ky, x.ix.xs)) = ((y.id, (strB y.nm).toList, y.cs.xs.map Colm.b, y.ky, y.ix.xs)) from e)))
    go_enter Tryz.func72, Tryz.ntmps72
    go_wp2_with (first
      | (go_at_call 107; go_must (refine (HC2.out _ HBn.out).mono ?_ <;> skip); rintro e w5 ⟨rfl, hb⟩; have HBn := hide (HBn.out.trans (hb.mono HBn.out.size)); have HBW := hide (HBW.out.trans (hb.mono HBW.out.size)); clear hb; have hq := two_boxes w #[.int .i64 x.id, .string (strB x.nm), .slice x.cs.a x.cs.n x.cs.c, .int .i64 x.ky, .slice x.ix.a x.ix.n x.ix.c] #[.int .i64 y.id, .string (strB y.nm), .slice y.cs.a y.cs.n y.cs.c, .int .i64 y.ky, .slice y.ix.a y.ix.n y.ix.c] 48 48 _ HBW.out; have x0w5 : w5.cell? ⟨w.heap.size, 0, none⟩ = some (.int .i64 x.id) := hq.1 0 _ rfl; have y0w5 : w5.cell? ⟨w.heap.size + 1, 0, none⟩ = some (.int .i64 y.id) := hq.2 0 _ rfl; have x1w5 : w5.cell? ⟨w.heap.size, 1, none⟩ = some (.string (strB x.nm)) := hq.1 1 _ rfl; have y1w5 : w5.cell? ⟨w.heap.size + 1, 1, none⟩ = some (.string (strB y.nm)) := hq.2 1 _ rfl; have x2w5 : w5.cell? ⟨w.heap.size, 2, none⟩ = some (.slice x.cs.a x.cs.n x.cs.c) := hq.1 2 _ rfl; have y2w5 : w5.cell? ⟨w.heap.size + 1, 2, none⟩ = some (.slice y.cs.a y.cs.n y.cs.c) := hq.2 2 _ rfl; have x3w5 : w5.cell? ⟨w.heap.size, 3, none⟩ = some (.int .i64 x.ky) := hq.1 3 _ rfl; have y3w5 : w5.cell? ⟨w.heap.size + 1, 3, none⟩ = some (.int .i64 y.ky) := hq.2 3 _ rfl; have x4w5 : w5.cell? ⟨w.heap.size, 4, none⟩ = some (.slice x.ix.a x.ix.n x.ix.c) := hq.1 4 _ rfl; have y4w5 : w5.cell? ⟨w.heap.size + 1, 4, none⟩ = some (.slice y.ix.a y.ix.n y.ix.c) := hq.2 4 _ rfl; clear hq)
      | (go_at_call 108; go_must (refine (HC4.out _ HBn.out).mono ?_ <;> skip); rintro e w7 ⟨rfl, hb⟩; have HBn := hide (HBn.out.trans (hb.mono HBn.out.size)); have HBW := hide (HBW.out.trans (hb.mono HBW.out.size)); clear hb; have hq := two_boxes w #[.int .i64 x.id, .string (strB x.nm), .slice x.cs.a x.cs.n x.cs.c, .int .i64 x.ky, .slice x.ix.a x.ix.n x.ix.c] #[.int .i64 y.id, .string (strB y.nm), .slice y.cs.a y.cs.n y.cs.c, .int .i64 y.ky, .slice y.ix.a y.ix.n y.ix.c] 48 48 _ HBW.out; have x0w7 : w7.cell? ⟨w.heap.size, 0, none⟩ = some (.int .i64 x.id) := hq.1 0 _ rfl; have y0w7 : w7.cell? ⟨w.heap.size + 1, 0, none⟩ = some (.int .i64 y.id) := hq.2 0 _ rfl; have x1w7 : w7.cell? ⟨w.heap.size, 1, none⟩ = some (.string (strB x.nm)) := hq.1 1 _ rfl; have y1w7 : w7.cell? ⟨w.heap.size + 1, 1, none⟩ = some (.string (strB y.nm)) := hq.2 1 _ rfl; have x2w7 : w7.cell? ⟨w.heap.size, 2, none⟩ = some (.slice x.cs.a x.cs.n x.cs.c) := hq.1 2 _ rfl; have y2w7 : w7.cell? ⟨w.heap.size + 1, 2, none⟩ = some (.slice y.cs.a y.cs.n y.cs.c) := hq.2 2 _ rfl; have x3w7 : w7.cell? ⟨w.heap.size, 3, none⟩ = some (.int .i64 x.ky) := hq.1 3 _ rfl; have y3w7 : w7.cell? ⟨w.heap.size + 1, 3, none⟩ = some (.int .i64 y.ky) := hq.2 3 _ rfl; have x4w7 : w7.cell? ⟨w.heap.size, 4, none⟩ = some (.slice x.ix.a x.ix.n x.ix.c) := hq.1 4 _ rfl; have y4w7 : w7.cell? ⟨w.heap.size + 1, 4, none⟩ = some (.slice y.ix.a y.ix.n y.ix.c) := hq.2 4 _ rfl; clear hq))
    go_ret
    exact ⟨by rw [HR.out]; rfl, HBn.out⟩

set_option maxHeartbeats 8000000 in
theorem psameR_any (x y : MRr) (w : World) (h : x.ok w) (k : y.ok w) :
    Calls Tryz.prog 22 #[.agg #[.int .i64 x.er, .int .u64 x.tx, .int .u64 x.ts, .bool x.fl, .slice x.ss.a x.ss.n x.ss.c, .slice x.ce.a x.ce.n x.ce.c, .slice x.tb.a x.tb.n x.tb.c], .agg #[.int .i64 y.er, .int .u64 y.tx, .int .u64 y.ts, .bool y.fl, .slice y.ss.a y.ss.n y.ss.c, .slice y.ce.a y.ce.n y.ce.c, .slice y.tb.a y.tb.n y.tb.c]] w fun e w' => e = .returned (.bool (decide (x.p = y.p))) ∧ Below w.heap.size w w' := by
  have HBn : Hid (Below w.heap.size w ((w.alloc (.cells #[.int .i64 x.er, .int .u64 x.tx, .int .u64 x.ts, .bool x.fl, .slice x.ss.a x.ss.n x.ss.c, .slice x.ce.a x.ce.n x.ce.c, .slice x.tb.a x.tb.n x.tb.c] 55)).alloc (.cells #[.int .i64 y.er, .int .u64 y.tx, .int .u64 y.ts, .bool y.fl, .slice y.ss.a y.ss.n y.ss.c, .slice y.ce.a y.ce.n y.ce.c, .slice y.tb.a y.tb.n y.tb.c] 55))) := (new_below w _).trans ((new_below _ _).mono (new_below w _).size)
  have HC4 := hide (fun W (hb : Below w.heap.size w W) => eqSt_any x.ss.xs y.ss.xs x.ss.a y.ss.a x.ss.n x.ss.c y.ss.n y.ss.c W (h.ss.keep hb) (k.ss.keep hb))
  have HC5 := hide (fun W (hb : Below w.heap.size w W) => efCe_any MCe.p x.ce.xs y.ce.xs x.ce.a y.ce.a x.ce.n x.ce.c y.ce.n y.ce.c W (h.ce.keep hb) (k.ce.keep hb) (fun p hp q hq V hV => psameC_any p q V ((h.co p hp).keep (hb.trans (hV.mono hb.size))) ((k.co q hq).keep (hb.trans (hV.mono hb.size)))))
  have HC6 := hide (fun W (hb : Below w.heap.size w W) => efTb_any MTb.b x.tb.xs y.tb.xs x.tb.a y.tb.a x.tb.n x.tb.c y.tb.n y.tb.c W (h.tb.keep hb) (k.tb.keep hb) (fun p hp q hq V hV => psameT_any p q V ((h.tok p hp).keep (hb.trans (hV.mono hb.size))) ((k.tok q hq).keep (hb.trans (hV.mono hb.size)))))
  have HBW : Hid (Below ((w.alloc (.cells #[.int .i64 x.er, .int .u64 x.tx, .int .u64 x.ts, .bool x.fl, .slice x.ss.a x.ss.n x.ss.c, .slice x.ce.a x.ce.n x.ce.c, .slice x.tb.a x.tb.n x.tb.c] 55)).alloc (.cells #[.int .i64 y.er, .int .u64 y.tx, .int .u64 y.ts, .bool y.fl, .slice y.ss.a y.ss.n y.ss.c, .slice y.ce.a y.ce.n y.ce.c, .slice y.tb.a y.tb.n y.tb.c] 55)).heap.size ((w.alloc (.cells #[.int .i64 x.er, .int .u64 x.tx, .int .u64 x.ts, .bool x.fl, .slice x.ss.a x.ss.n x.ss.c, .slice x.ce.a x.ce.n x.ce.c, .slice x.tb.a x.tb.n x.tb.c] 55)).alloc (.cells #[.int .i64 y.er, .int .u64 y.tx, .int .u64 y.ts, .bool y.fl, .slice y.ss.a y.ss.n y.ss.c, .slice y.ce.a y.ce.n y.ce.c, .slice y.tb.a y.tb.n y.tb.c] 55)) ((w.alloc (.cells #[.int .i64 x.er, .int .u64 x.tx, .int .u64 x.ts, .bool x.fl, .slice x.ss.a x.ss.n x.ss.c, .slice x.ce.a x.ce.n x.ce.c, .slice x.tb.a x.tb.n x.tb.c] 55)).alloc (.cells #[.int .i64 y.er, .int .u64 y.tx, .int .u64 y.ts, .bool y.fl, .slice y.ss.a y.ss.n y.ss.c, .slice y.ce.a y.ce.n y.ce.c, .slice y.tb.a y.tb.n y.tb.c] 55))) := Below.refl _ _
  clear h k
  by_cases h0 : x.er = y.er
  · have d0 : (x.er == y.er) = true := by simpa using h0
    have c0 : decide (x.er = y.er) = true := by simpa using h0
    have Hh0 := hide h0
    clear h0
    by_cases h1 : x.tx = y.tx
    · have d1 : (x.tx == y.tx) = true := by simpa using h1
      have c1 : decide (x.tx = y.tx) = true := by simpa using h1
      have Hh1 := hide h1
      clear h1
      by_cases h2 : x.ts = y.ts
      · have d2 : (x.ts == y.ts) = true := by simpa using h2
        have c2 : decide (x.ts = y.ts) = true := by simpa using h2
        have Hh2 := hide h2
        clear h2
        by_cases h3 : x.fl = y.fl
        · have d3 : (x.fl == y.fl) = true := by simpa using h3
          have c3 : decide (x.fl = y.fl) = true := by simpa using h3
          have Hh3 := hide h3
          clear h3
          by_cases h4 : x.ss.xs = y.ss.xs
          · rw [show decide (x.ss.xs = y.ss.xs) = true from decide_eq_true h4] at HC4
            have Hh4 := hide h4
            clear h4
            by_cases h5 : x.ce.xs.map MCe.p = y.ce.xs.map MCe.p
            · rw [show decide (x.ce.xs.map MCe.p = y.ce.xs.map MCe.p) = true from decide_eq_true h5] at HC5
              have Hh5 := hide h5
              clear h5
              by_cases h6 : x.tb.xs.map MTb.b = y.tb.xs.map MTb.b
              · rw [show decide (x.tb.xs.map MTb.b = y.tb.xs.map MTb.b) = true from decide_eq_true h6] at HC6
                have Hh6 := hide h6
                clear h6
                have HR : Hid (decide (x.p = y.p) = true) := decide_eq_true (by show ((x.er, x.tx, x.ts, x.fl, x.ss.xs, x.ce.xs.map MCe.p, x.tb.xs.map MTb.b)) = ((y.er, y.tx, y.ts, y.fl, y.ss.xs, y.ce.xs.map MCe.p, y.tb.xs.map MTb.b)); rw [Hh0.out, Hh1.out, Hh2.out, Hh3.out, Hh4.out, Hh5.out, Hh6.out])
                go_enter Tryz.func22, Tryz.ntmps22
                go_wp2_with (first
                  | (go_at_call 68; go_must (refine (HC4.out _ HBn.out).mono ?_ <;> skip); rintro e w7 ⟨rfl, hb⟩; have HBn := hide (HBn.out.trans (hb.mono HBn.out.size)); have HBW := hide (HBW.out.trans (hb.mono HBW.out.size)); clear hb; have hq := two_boxes w #[.int .i64 x.er, .int .u64 x.tx, .int .u64 x.ts, .bool x.fl, .slice x.ss.a x.ss.n x.ss.c, .slice x.ce.a x.ce.n x.ce.c, .slice x.tb.a x.tb.n x.tb.c] #[.int .i64 y.er, .int .u64 y.tx, .int .u64 y.ts, .bool y.fl, .slice y.ss.a y.ss.n y.ss.c, .slice y.ce.a y.ce.n y.ce.c, .slice y.tb.a y.tb.n y.tb.c] 55 55 _ HBW.out; have x0w7 : w7.cell? ⟨w.heap.size, 0, none⟩ = some (.int .i64 x.er) := hq.1 0 _ rfl; have y0w7 : w7.cell? ⟨w.heap.size + 1, 0, none⟩ = some (.int .i64 y.er) := hq.2 0 _ rfl; have x1w7 : w7.cell? ⟨w.heap.size, 1, none⟩ = some (.int .u64 x.tx) := hq.1 1 _ rfl; have y1w7 : w7.cell? ⟨w.heap.size + 1, 1, none⟩ = some (.int .u64 y.tx) := hq.2 1 _ rfl; have x2w7 : w7.cell? ⟨w.heap.size, 2, none⟩ = some (.int .u64 x.ts) := hq.1 2 _ rfl; have y2w7 : w7.cell? ⟨w.heap.size + 1, 2, none⟩ = some (.int .u64 y.ts) := hq.2 2 _ rfl; have x3w7 : w7.cell? ⟨w.heap.size, 3, none⟩ = some (.bool x.fl) := hq.1 3 _ rfl; have y3w7 : w7.cell? ⟨w.heap.size + 1, 3, none⟩ = some (.bool y.fl) := hq.2 3 _ rfl; have x4w7 : w7.cell? ⟨w.heap.size, 4, none⟩ = some (.slice x.ss.a x.ss.n x.ss.c) := hq.1 4 _ rfl; have y4w7 : w7.cell? ⟨w.heap.size + 1, 4, none⟩ = some (.slice y.ss.a y.ss.n y.ss.c) := hq.2 4 _ rfl; have x5w7 : w7.cell? ⟨w.heap.size, 5, none⟩ = some (.slice x.ce.a x.ce.n x.ce.c) := hq.1 5 _ rfl; have y5w7 : w7.cell? ⟨w.heap.size + 1, 5, none⟩ = some (.slice y.ce.a y.ce.n y.ce.c) := hq.2 5 _ rfl; have x6w7 : w7.cell? ⟨w.heap.size, 6, none⟩ = some (.slice x.tb.a x.tb.n x.tb.c) := hq.1 6 _ rfl; have y6w7 : w7.cell? ⟨w.heap.size + 1, 6, none⟩ = some (.slice y.tb.a y.tb.n y.tb.c) := hq.2 6 _ rfl; clear hq)
                  | (go_at_call 69; go_must (refine (HC5.out _ HBn.out).mono ?_ <;> skip); rintro e w8 ⟨rfl, hb⟩; have HBn := hide (HBn.out.trans (hb.mono HBn.out.size)); have HBW := hide (HBW.out.trans (hb.mono HBW.out.size)); clear hb; have hq := two_boxes w #[.int .i64 x.er, .int .u64 x.tx, .int .u64 x.ts, .bool x.fl, .slice x.ss.a x.ss.n x.ss.c, .slice x.ce.a x.ce.n x.ce.c, .slice x.tb.a x.tb.n x.tb.c] #[.int .i64 y.er, .int .u64 y.tx, .int .u64 y.ts, .bool y.fl, .slice y.ss.a y.ss.n y.ss.c, .slice y.ce.a y.ce.n y.ce.c, .slice y.tb.a y.tb.n y.tb.c] 55 55 _ HBW.out; have x0w8 : w8.cell? ⟨w.heap.size, 0, none⟩ = some (.int .i64 x.er) := hq.1 0 _ rfl; have y0w8 : w8.cell? ⟨w.heap.size + 1, 0, none⟩ = some (.int .i64 y.er) := hq.2 0 _ rfl; have x1w8 : w8.cell? ⟨w.heap.size, 1, none⟩ = some (.int .u64 x.tx) := hq.1 1 _ rfl; have y1w8 : w8.cell? ⟨w.heap.size + 1, 1, none⟩ = some (.int .u64 y.tx) := hq.2 1 _ rfl; have x2w8 : w8.cell? ⟨w.heap.size, 2, none⟩ = some (.int .u64 x.ts) := hq.1 2 _ rfl; have y2w8 : w8.cell? ⟨w.heap.size + 1, 2, none⟩ = some (.int .u64 y.ts) := hq.2 2 _ rfl; have x3w8 : w8.cell? ⟨w.heap.size, 3, none⟩ = some (.bool x.fl) := hq.1 3 _ rfl; have y3w8 : w8.cell? ⟨w.heap.size + 1, 3, none⟩ = some (.bool y.fl) := hq.2 3 _ rfl; have x4w8 : w8.cell? ⟨w.heap.size, 4, none⟩ = some (.slice x.ss.a x.ss.n x.ss.c) := hq.1 4 _ rfl; have y4w8 : w8.cell? ⟨w.heap.size + 1, 4, none⟩ = some (.slice y.ss.a y.ss.n y.ss.c) := hq.2 4 _ rfl; have x5w8 : w8.cell? ⟨w.heap.size, 5, none⟩ = some (.slice x.ce.a x.ce.n x.ce.c) := hq.1 5 _ rfl; have y5w8 : w8.cell? ⟨w.heap.size + 1, 5, none⟩ = some (.slice y.ce.a y.ce.n y.ce.c) := hq.2 5 _ rfl; have x6w8 : w8.cell? ⟨w.heap.size, 6, none⟩ = some (.slice x.tb.a x.tb.n x.tb.c) := hq.1 6 _ rfl; have y6w8 : w8.cell? ⟨w.heap.size + 1, 6, none⟩ = some (.slice y.tb.a y.tb.n y.tb.c) := hq.2 6 _ rfl; clear hq)
                  | (go_at_call 71; go_must (refine (HC6.out _ HBn.out).mono ?_ <;> skip); rintro e w9 ⟨rfl, hb⟩; have HBn := hide (HBn.out.trans (hb.mono HBn.out.size)); have HBW := hide (HBW.out.trans (hb.mono HBW.out.size)); clear hb; have hq := two_boxes w #[.int .i64 x.er, .int .u64 x.tx, .int .u64 x.ts, .bool x.fl, .slice x.ss.a x.ss.n x.ss.c, .slice x.ce.a x.ce.n x.ce.c, .slice x.tb.a x.tb.n x.tb.c] #[.int .i64 y.er, .int .u64 y.tx, .int .u64 y.ts, .bool y.fl, .slice y.ss.a y.ss.n y.ss.c, .slice y.ce.a y.ce.n y.ce.c, .slice y.tb.a y.tb.n y.tb.c] 55 55 _ HBW.out; have x0w9 : w9.cell? ⟨w.heap.size, 0, none⟩ = some (.int .i64 x.er) := hq.1 0 _ rfl; have y0w9 : w9.cell? ⟨w.heap.size + 1, 0, none⟩ = some (.int .i64 y.er) := hq.2 0 _ rfl; have x1w9 : w9.cell? ⟨w.heap.size, 1, none⟩ = some (.int .u64 x.tx) := hq.1 1 _ rfl; have y1w9 : w9.cell? ⟨w.heap.size + 1, 1, none⟩ = some (.int .u64 y.tx) := hq.2 1 _ rfl; have x2w9 : w9.cell? ⟨w.heap.size, 2, none⟩ = some (.int .u64 x.ts) := hq.1 2 _ rfl; have y2w9 : w9.cell? ⟨w.heap.size + 1, 2, none⟩ = some (.int .u64 y.ts) := hq.2 2 _ rfl; have x3w9 : w9.cell? ⟨w.heap.size, 3, none⟩ = some (.bool x.fl) := hq.1 3 _ rfl; have y3w9 : w9.cell? ⟨w.heap.size + 1, 3, none⟩ = some (.bool y.fl) := hq.2 3 _ rfl; have x4w9 : w9.cell? ⟨w.heap.size, 4, none⟩ = some (.slice x.ss.a x.ss.n x.ss.c) := hq.1 4 _ rfl; have y4w9 : w9.cell? ⟨w.heap.size + 1, 4, none⟩ = some (.slice y.ss.a y.ss.n y.ss.c) := hq.2 4 _ rfl; have x5w9 : w9.cell? ⟨w.heap.size, 5, none⟩ = some (.slice x.ce.a x.ce.n x.ce.c) := hq.1 5 _ rfl; have y5w9 : w9.cell? ⟨w.heap.size + 1, 5, none⟩ = some (.slice y.ce.a y.ce.n y.ce.c) := hq.2 5 _ rfl; have x6w9 : w9.cell? ⟨w.heap.size, 6, none⟩ = some (.slice x.tb.a x.tb.n x.tb.c) := hq.1 6 _ rfl; have y6w9 : w9.cell? ⟨w.heap.size + 1, 6, none⟩ = some (.slice y.tb.a y.tb.n y.tb.c) := hq.2 6 _ rfl; clear hq))
                go_ret
                exact ⟨by rw [HR.out]; rfl, HBn.out⟩
              · rw [show decide (x.tb.xs.map MTb.b = y.tb.xs.map MTb.b) = false from decide_eq_false h6] at HC6
                have Hn := hide h6
                clear h6
                have HR : Hid (decide (x.p = y.p) = false) := decide_eq_false (fun e => Hn.out (congrArg (fun t => t.2.2.2.2.2.2) (show ((x.er, x.tx, x.ts, x.fl, x.ss.xs, x.ce.xs.map MCe.p, x.tb.xs.map MTb.b)) = ((y.er, y.tx, y.ts, y.fl, y.ss.xs, y.ce.xs.map MCe.p, y.tb.xs.map MTb.b)) from e)))
                go_enter Tryz.func22, Tryz.ntmps22
                go_wp2_with (first
                  | (go_at_call 68; go_must (refine (HC4.out _ HBn.out).mono ?_ <;> skip); rintro e w7 ⟨rfl, hb⟩; have HBn := hide (HBn.out.trans (hb.mono HBn.out.size)); have HBW := hide (HBW.out.trans (hb.mono HBW.out.size)); clear hb; have hq := two_boxes w #[.int .i64 x.er, .int .u64 x.tx, .int .u64 x.ts, .bool x.fl, .slice x.ss.a x.ss.n x.ss.c, .slice x.ce.a x.ce.n x.ce.c, .slice x.tb.a x.tb.n x.tb.c] #[.int .i64 y.er, .int .u64 y.tx, .int .u64 y.ts, .bool y.fl, .slice y.ss.a y.ss.n y.ss.c, .slice y.ce.a y.ce.n y.ce.c, .slice y.tb.a y.tb.n y.tb.c] 55 55 _ HBW.out; have x0w7 : w7.cell? ⟨w.heap.size, 0, none⟩ = some (.int .i64 x.er) := hq.1 0 _ rfl; have y0w7 : w7.cell? ⟨w.heap.size + 1, 0, none⟩ = some (.int .i64 y.er) := hq.2 0 _ rfl; have x1w7 : w7.cell? ⟨w.heap.size, 1, none⟩ = some (.int .u64 x.tx) := hq.1 1 _ rfl; have y1w7 : w7.cell? ⟨w.heap.size + 1, 1, none⟩ = some (.int .u64 y.tx) := hq.2 1 _ rfl; have x2w7 : w7.cell? ⟨w.heap.size, 2, none⟩ = some (.int .u64 x.ts) := hq.1 2 _ rfl; have y2w7 : w7.cell? ⟨w.heap.size + 1, 2, none⟩ = some (.int .u64 y.ts) := hq.2 2 _ rfl; have x3w7 : w7.cell? ⟨w.heap.size, 3, none⟩ = some (.bool x.fl) := hq.1 3 _ rfl; have y3w7 : w7.cell? ⟨w.heap.size + 1, 3, none⟩ = some (.bool y.fl) := hq.2 3 _ rfl; have x4w7 : w7.cell? ⟨w.heap.size, 4, none⟩ = some (.slice x.ss.a x.ss.n x.ss.c) := hq.1 4 _ rfl; have y4w7 : w7.cell? ⟨w.heap.size + 1, 4, none⟩ = some (.slice y.ss.a y.ss.n y.ss.c) := hq.2 4 _ rfl; have x5w7 : w7.cell? ⟨w.heap.size, 5, none⟩ = some (.slice x.ce.a x.ce.n x.ce.c) := hq.1 5 _ rfl; have y5w7 : w7.cell? ⟨w.heap.size + 1, 5, none⟩ = some (.slice y.ce.a y.ce.n y.ce.c) := hq.2 5 _ rfl; have x6w7 : w7.cell? ⟨w.heap.size, 6, none⟩ = some (.slice x.tb.a x.tb.n x.tb.c) := hq.1 6 _ rfl; have y6w7 : w7.cell? ⟨w.heap.size + 1, 6, none⟩ = some (.slice y.tb.a y.tb.n y.tb.c) := hq.2 6 _ rfl; clear hq)
                  | (go_at_call 69; go_must (refine (HC5.out _ HBn.out).mono ?_ <;> skip); rintro e w8 ⟨rfl, hb⟩; have HBn := hide (HBn.out.trans (hb.mono HBn.out.size)); have HBW := hide (HBW.out.trans (hb.mono HBW.out.size)); clear hb; have hq := two_boxes w #[.int .i64 x.er, .int .u64 x.tx, .int .u64 x.ts, .bool x.fl, .slice x.ss.a x.ss.n x.ss.c, .slice x.ce.a x.ce.n x.ce.c, .slice x.tb.a x.tb.n x.tb.c] #[.int .i64 y.er, .int .u64 y.tx, .int .u64 y.ts, .bool y.fl, .slice y.ss.a y.ss.n y.ss.c, .slice y.ce.a y.ce.n y.ce.c, .slice y.tb.a y.tb.n y.tb.c] 55 55 _ HBW.out; have x0w8 : w8.cell? ⟨w.heap.size, 0, none⟩ = some (.int .i64 x.er) := hq.1 0 _ rfl; have y0w8 : w8.cell? ⟨w.heap.size + 1, 0, none⟩ = some (.int .i64 y.er) := hq.2 0 _ rfl; have x1w8 : w8.cell? ⟨w.heap.size, 1, none⟩ = some (.int .u64 x.tx) := hq.1 1 _ rfl; have y1w8 : w8.cell? ⟨w.heap.size + 1, 1, none⟩ = some (.int .u64 y.tx) := hq.2 1 _ rfl; have x2w8 : w8.cell? ⟨w.heap.size, 2, none⟩ = some (.int .u64 x.ts) := hq.1 2 _ rfl; have y2w8 : w8.cell? ⟨w.heap.size + 1, 2, none⟩ = some (.int .u64 y.ts) := hq.2 2 _ rfl; have x3w8 : w8.cell? ⟨w.heap.size, 3, none⟩ = some (.bool x.fl) := hq.1 3 _ rfl; have y3w8 : w8.cell? ⟨w.heap.size + 1, 3, none⟩ = some (.bool y.fl) := hq.2 3 _ rfl; have x4w8 : w8.cell? ⟨w.heap.size, 4, none⟩ = some (.slice x.ss.a x.ss.n x.ss.c) := hq.1 4 _ rfl; have y4w8 : w8.cell? ⟨w.heap.size + 1, 4, none⟩ = some (.slice y.ss.a y.ss.n y.ss.c) := hq.2 4 _ rfl; have x5w8 : w8.cell? ⟨w.heap.size, 5, none⟩ = some (.slice x.ce.a x.ce.n x.ce.c) := hq.1 5 _ rfl; have y5w8 : w8.cell? ⟨w.heap.size + 1, 5, none⟩ = some (.slice y.ce.a y.ce.n y.ce.c) := hq.2 5 _ rfl; have x6w8 : w8.cell? ⟨w.heap.size, 6, none⟩ = some (.slice x.tb.a x.tb.n x.tb.c) := hq.1 6 _ rfl; have y6w8 : w8.cell? ⟨w.heap.size + 1, 6, none⟩ = some (.slice y.tb.a y.tb.n y.tb.c) := hq.2 6 _ rfl; clear hq)
                  | (go_at_call 71; go_must (refine (HC6.out _ HBn.out).mono ?_ <;> skip); rintro e w9 ⟨rfl, hb⟩; have HBn := hide (HBn.out.trans (hb.mono HBn.out.size)); have HBW := hide (HBW.out.trans (hb.mono HBW.out.size)); clear hb; have hq := two_boxes w #[.int .i64 x.er, .int .u64 x.tx, .int .u64 x.ts, .bool x.fl, .slice x.ss.a x.ss.n x.ss.c, .slice x.ce.a x.ce.n x.ce.c, .slice x.tb.a x.tb.n x.tb.c] #[.int .i64 y.er, .int .u64 y.tx, .int .u64 y.ts, .bool y.fl, .slice y.ss.a y.ss.n y.ss.c, .slice y.ce.a y.ce.n y.ce.c, .slice y.tb.a y.tb.n y.tb.c] 55 55 _ HBW.out; have x0w9 : w9.cell? ⟨w.heap.size, 0, none⟩ = some (.int .i64 x.er) := hq.1 0 _ rfl; have y0w9 : w9.cell? ⟨w.heap.size + 1, 0, none⟩ = some (.int .i64 y.er) := hq.2 0 _ rfl; have x1w9 : w9.cell? ⟨w.heap.size, 1, none⟩ = some (.int .u64 x.tx) := hq.1 1 _ rfl; have y1w9 : w9.cell? ⟨w.heap.size + 1, 1, none⟩ = some (.int .u64 y.tx) := hq.2 1 _ rfl; have x2w9 : w9.cell? ⟨w.heap.size, 2, none⟩ = some (.int .u64 x.ts) := hq.1 2 _ rfl; have y2w9 : w9.cell? ⟨w.heap.size + 1, 2, none⟩ = some (.int .u64 y.ts) := hq.2 2 _ rfl; have x3w9 : w9.cell? ⟨w.heap.size, 3, none⟩ = some (.bool x.fl) := hq.1 3 _ rfl; have y3w9 : w9.cell? ⟨w.heap.size + 1, 3, none⟩ = some (.bool y.fl) := hq.2 3 _ rfl; have x4w9 : w9.cell? ⟨w.heap.size, 4, none⟩ = some (.slice x.ss.a x.ss.n x.ss.c) := hq.1 4 _ rfl; have y4w9 : w9.cell? ⟨w.heap.size + 1, 4, none⟩ = some (.slice y.ss.a y.ss.n y.ss.c) := hq.2 4 _ rfl; have x5w9 : w9.cell? ⟨w.heap.size, 5, none⟩ = some (.slice x.ce.a x.ce.n x.ce.c) := hq.1 5 _ rfl; have y5w9 : w9.cell? ⟨w.heap.size + 1, 5, none⟩ = some (.slice y.ce.a y.ce.n y.ce.c) := hq.2 5 _ rfl; have x6w9 : w9.cell? ⟨w.heap.size, 6, none⟩ = some (.slice x.tb.a x.tb.n x.tb.c) := hq.1 6 _ rfl; have y6w9 : w9.cell? ⟨w.heap.size + 1, 6, none⟩ = some (.slice y.tb.a y.tb.n y.tb.c) := hq.2 6 _ rfl; clear hq))
                go_ret
                exact ⟨by rw [HR.out]; rfl, HBn.out⟩
            · rw [show decide (x.ce.xs.map MCe.p = y.ce.xs.map MCe.p) = false from decide_eq_false h5] at HC5
              have Hn := hide h5
              clear h5
              have HR : Hid (decide (x.p = y.p) = false) := decide_eq_false (fun e => Hn.out (congrArg (fun t => t.2.2.2.2.2.1) (show ((x.er, x.tx, x.ts, x.fl, x.ss.xs, x.ce.xs.map MCe.p, x.tb.xs.map MTb.b)) = ((y.er, y.tx, y.ts, y.fl, y.ss.xs, y.ce.xs.map MCe.p, y.tb.xs.map MTb.b)) from e)))
              go_enter Tryz.func22, Tryz.ntmps22
              go_wp2_with (first
                | (go_at_call 68; go_must (refine (HC4.out _ HBn.out).mono ?_ <;> skip); rintro e w7 ⟨rfl, hb⟩; have HBn := hide (HBn.out.trans (hb.mono HBn.out.size)); have HBW := hide (HBW.out.trans (hb.mono HBW.out.size)); clear hb; have hq := two_boxes w #[.int .i64 x.er, .int .u64 x.tx, .int .u64 x.ts, .bool x.fl, .slice x.ss.a x.ss.n x.ss.c, .slice x.ce.a x.ce.n x.ce.c, .slice x.tb.a x.tb.n x.tb.c] #[.int .i64 y.er, .int .u64 y.tx, .int .u64 y.ts, .bool y.fl, .slice y.ss.a y.ss.n y.ss.c, .slice y.ce.a y.ce.n y.ce.c, .slice y.tb.a y.tb.n y.tb.c] 55 55 _ HBW.out; have x0w7 : w7.cell? ⟨w.heap.size, 0, none⟩ = some (.int .i64 x.er) := hq.1 0 _ rfl; have y0w7 : w7.cell? ⟨w.heap.size + 1, 0, none⟩ = some (.int .i64 y.er) := hq.2 0 _ rfl; have x1w7 : w7.cell? ⟨w.heap.size, 1, none⟩ = some (.int .u64 x.tx) := hq.1 1 _ rfl; have y1w7 : w7.cell? ⟨w.heap.size + 1, 1, none⟩ = some (.int .u64 y.tx) := hq.2 1 _ rfl; have x2w7 : w7.cell? ⟨w.heap.size, 2, none⟩ = some (.int .u64 x.ts) := hq.1 2 _ rfl; have y2w7 : w7.cell? ⟨w.heap.size + 1, 2, none⟩ = some (.int .u64 y.ts) := hq.2 2 _ rfl; have x3w7 : w7.cell? ⟨w.heap.size, 3, none⟩ = some (.bool x.fl) := hq.1 3 _ rfl; have y3w7 : w7.cell? ⟨w.heap.size + 1, 3, none⟩ = some (.bool y.fl) := hq.2 3 _ rfl; have x4w7 : w7.cell? ⟨w.heap.size, 4, none⟩ = some (.slice x.ss.a x.ss.n x.ss.c) := hq.1 4 _ rfl; have y4w7 : w7.cell? ⟨w.heap.size + 1, 4, none⟩ = some (.slice y.ss.a y.ss.n y.ss.c) := hq.2 4 _ rfl; have x5w7 : w7.cell? ⟨w.heap.size, 5, none⟩ = some (.slice x.ce.a x.ce.n x.ce.c) := hq.1 5 _ rfl; have y5w7 : w7.cell? ⟨w.heap.size + 1, 5, none⟩ = some (.slice y.ce.a y.ce.n y.ce.c) := hq.2 5 _ rfl; have x6w7 : w7.cell? ⟨w.heap.size, 6, none⟩ = some (.slice x.tb.a x.tb.n x.tb.c) := hq.1 6 _ rfl; have y6w7 : w7.cell? ⟨w.heap.size + 1, 6, none⟩ = some (.slice y.tb.a y.tb.n y.tb.c) := hq.2 6 _ rfl; clear hq)
                | (go_at_call 69; go_must (refine (HC5.out _ HBn.out).mono ?_ <;> skip); rintro e w8 ⟨rfl, hb⟩; have HBn := hide (HBn.out.trans (hb.mono HBn.out.size)); have HBW := hide (HBW.out.trans (hb.mono HBW.out.size)); clear hb; have hq := two_boxes w #[.int .i64 x.er, .int .u64 x.tx, .int .u64 x.ts, .bool x.fl, .slice x.ss.a x.ss.n x.ss.c, .slice x.ce.a x.ce.n x.ce.c, .slice x.tb.a x.tb.n x.tb.c] #[.int .i64 y.er, .int .u64 y.tx, .int .u64 y.ts, .bool y.fl, .slice y.ss.a y.ss.n y.ss.c, .slice y.ce.a y.ce.n y.ce.c, .slice y.tb.a y.tb.n y.tb.c] 55 55 _ HBW.out; have x0w8 : w8.cell? ⟨w.heap.size, 0, none⟩ = some (.int .i64 x.er) := hq.1 0 _ rfl; have y0w8 : w8.cell? ⟨w.heap.size + 1, 0, none⟩ = some (.int .i64 y.er) := hq.2 0 _ rfl; have x1w8 : w8.cell? ⟨w.heap.size, 1, none⟩ = some (.int .u64 x.tx) := hq.1 1 _ rfl; have y1w8 : w8.cell? ⟨w.heap.size + 1, 1, none⟩ = some (.int .u64 y.tx) := hq.2 1 _ rfl; have x2w8 : w8.cell? ⟨w.heap.size, 2, none⟩ = some (.int .u64 x.ts) := hq.1 2 _ rfl; have y2w8 : w8.cell? ⟨w.heap.size + 1, 2, none⟩ = some (.int .u64 y.ts) := hq.2 2 _ rfl; have x3w8 : w8.cell? ⟨w.heap.size, 3, none⟩ = some (.bool x.fl) := hq.1 3 _ rfl; have y3w8 : w8.cell? ⟨w.heap.size + 1, 3, none⟩ = some (.bool y.fl) := hq.2 3 _ rfl; have x4w8 : w8.cell? ⟨w.heap.size, 4, none⟩ = some (.slice x.ss.a x.ss.n x.ss.c) := hq.1 4 _ rfl; have y4w8 : w8.cell? ⟨w.heap.size + 1, 4, none⟩ = some (.slice y.ss.a y.ss.n y.ss.c) := hq.2 4 _ rfl; have x5w8 : w8.cell? ⟨w.heap.size, 5, none⟩ = some (.slice x.ce.a x.ce.n x.ce.c) := hq.1 5 _ rfl; have y5w8 : w8.cell? ⟨w.heap.size + 1, 5, none⟩ = some (.slice y.ce.a y.ce.n y.ce.c) := hq.2 5 _ rfl; have x6w8 : w8.cell? ⟨w.heap.size, 6, none⟩ = some (.slice x.tb.a x.tb.n x.tb.c) := hq.1 6 _ rfl; have y6w8 : w8.cell? ⟨w.heap.size + 1, 6, none⟩ = some (.slice y.tb.a y.tb.n y.tb.c) := hq.2 6 _ rfl; clear hq)
                | (go_at_call 71; go_must (refine (HC6.out _ HBn.out).mono ?_ <;> skip); rintro e w9 ⟨rfl, hb⟩; have HBn := hide (HBn.out.trans (hb.mono HBn.out.size)); have HBW := hide (HBW.out.trans (hb.mono HBW.out.size)); clear hb; have hq := two_boxes w #[.int .i64 x.er, .int .u64 x.tx, .int .u64 x.ts, .bool x.fl, .slice x.ss.a x.ss.n x.ss.c, .slice x.ce.a x.ce.n x.ce.c, .slice x.tb.a x.tb.n x.tb.c] #[.int .i64 y.er, .int .u64 y.tx, .int .u64 y.ts, .bool y.fl, .slice y.ss.a y.ss.n y.ss.c, .slice y.ce.a y.ce.n y.ce.c, .slice y.tb.a y.tb.n y.tb.c] 55 55 _ HBW.out; have x0w9 : w9.cell? ⟨w.heap.size, 0, none⟩ = some (.int .i64 x.er) := hq.1 0 _ rfl; have y0w9 : w9.cell? ⟨w.heap.size + 1, 0, none⟩ = some (.int .i64 y.er) := hq.2 0 _ rfl; have x1w9 : w9.cell? ⟨w.heap.size, 1, none⟩ = some (.int .u64 x.tx) := hq.1 1 _ rfl; have y1w9 : w9.cell? ⟨w.heap.size + 1, 1, none⟩ = some (.int .u64 y.tx) := hq.2 1 _ rfl; have x2w9 : w9.cell? ⟨w.heap.size, 2, none⟩ = some (.int .u64 x.ts) := hq.1 2 _ rfl; have y2w9 : w9.cell? ⟨w.heap.size + 1, 2, none⟩ = some (.int .u64 y.ts) := hq.2 2 _ rfl; have x3w9 : w9.cell? ⟨w.heap.size, 3, none⟩ = some (.bool x.fl) := hq.1 3 _ rfl; have y3w9 : w9.cell? ⟨w.heap.size + 1, 3, none⟩ = some (.bool y.fl) := hq.2 3 _ rfl; have x4w9 : w9.cell? ⟨w.heap.size, 4, none⟩ = some (.slice x.ss.a x.ss.n x.ss.c) := hq.1 4 _ rfl; have y4w9 : w9.cell? ⟨w.heap.size + 1, 4, none⟩ = some (.slice y.ss.a y.ss.n y.ss.c) := hq.2 4 _ rfl; have x5w9 : w9.cell? ⟨w.heap.size, 5, none⟩ = some (.slice x.ce.a x.ce.n x.ce.c) := hq.1 5 _ rfl; have y5w9 : w9.cell? ⟨w.heap.size + 1, 5, none⟩ = some (.slice y.ce.a y.ce.n y.ce.c) := hq.2 5 _ rfl; have x6w9 : w9.cell? ⟨w.heap.size, 6, none⟩ = some (.slice x.tb.a x.tb.n x.tb.c) := hq.1 6 _ rfl; have y6w9 : w9.cell? ⟨w.heap.size + 1, 6, none⟩ = some (.slice y.tb.a y.tb.n y.tb.c) := hq.2 6 _ rfl; clear hq))
              go_ret
              exact ⟨by rw [HR.out]; rfl, HBn.out⟩
          · rw [show decide (x.ss.xs = y.ss.xs) = false from decide_eq_false h4] at HC4
            have Hn := hide h4
            clear h4
            have HR : Hid (decide (x.p = y.p) = false) := decide_eq_false (fun e => Hn.out (congrArg (fun t => t.2.2.2.2.1) (show ((x.er, x.tx, x.ts, x.fl, x.ss.xs, x.ce.xs.map MCe.p, x.tb.xs.map MTb.b)) = ((y.er, y.tx, y.ts, y.fl, y.ss.xs, y.ce.xs.map MCe.p, y.tb.xs.map MTb.b)) from e)))
            go_enter Tryz.func22, Tryz.ntmps22
            go_wp2_with (first
              | (go_at_call 68; go_must (refine (HC4.out _ HBn.out).mono ?_ <;> skip); rintro e w7 ⟨rfl, hb⟩; have HBn := hide (HBn.out.trans (hb.mono HBn.out.size)); have HBW := hide (HBW.out.trans (hb.mono HBW.out.size)); clear hb; have hq := two_boxes w #[.int .i64 x.er, .int .u64 x.tx, .int .u64 x.ts, .bool x.fl, .slice x.ss.a x.ss.n x.ss.c, .slice x.ce.a x.ce.n x.ce.c, .slice x.tb.a x.tb.n x.tb.c] #[.int .i64 y.er, .int .u64 y.tx, .int .u64 y.ts, .bool y.fl, .slice y.ss.a y.ss.n y.ss.c, .slice y.ce.a y.ce.n y.ce.c, .slice y.tb.a y.tb.n y.tb.c] 55 55 _ HBW.out; have x0w7 : w7.cell? ⟨w.heap.size, 0, none⟩ = some (.int .i64 x.er) := hq.1 0 _ rfl; have y0w7 : w7.cell? ⟨w.heap.size + 1, 0, none⟩ = some (.int .i64 y.er) := hq.2 0 _ rfl; have x1w7 : w7.cell? ⟨w.heap.size, 1, none⟩ = some (.int .u64 x.tx) := hq.1 1 _ rfl; have y1w7 : w7.cell? ⟨w.heap.size + 1, 1, none⟩ = some (.int .u64 y.tx) := hq.2 1 _ rfl; have x2w7 : w7.cell? ⟨w.heap.size, 2, none⟩ = some (.int .u64 x.ts) := hq.1 2 _ rfl; have y2w7 : w7.cell? ⟨w.heap.size + 1, 2, none⟩ = some (.int .u64 y.ts) := hq.2 2 _ rfl; have x3w7 : w7.cell? ⟨w.heap.size, 3, none⟩ = some (.bool x.fl) := hq.1 3 _ rfl; have y3w7 : w7.cell? ⟨w.heap.size + 1, 3, none⟩ = some (.bool y.fl) := hq.2 3 _ rfl; have x4w7 : w7.cell? ⟨w.heap.size, 4, none⟩ = some (.slice x.ss.a x.ss.n x.ss.c) := hq.1 4 _ rfl; have y4w7 : w7.cell? ⟨w.heap.size + 1, 4, none⟩ = some (.slice y.ss.a y.ss.n y.ss.c) := hq.2 4 _ rfl; have x5w7 : w7.cell? ⟨w.heap.size, 5, none⟩ = some (.slice x.ce.a x.ce.n x.ce.c) := hq.1 5 _ rfl; have y5w7 : w7.cell? ⟨w.heap.size + 1, 5, none⟩ = some (.slice y.ce.a y.ce.n y.ce.c) := hq.2 5 _ rfl; have x6w7 : w7.cell? ⟨w.heap.size, 6, none⟩ = some (.slice x.tb.a x.tb.n x.tb.c) := hq.1 6 _ rfl; have y6w7 : w7.cell? ⟨w.heap.size + 1, 6, none⟩ = some (.slice y.tb.a y.tb.n y.tb.c) := hq.2 6 _ rfl; clear hq)
              | (go_at_call 69; go_must (refine (HC5.out _ HBn.out).mono ?_ <;> skip); rintro e w8 ⟨rfl, hb⟩; have HBn := hide (HBn.out.trans (hb.mono HBn.out.size)); have HBW := hide (HBW.out.trans (hb.mono HBW.out.size)); clear hb; have hq := two_boxes w #[.int .i64 x.er, .int .u64 x.tx, .int .u64 x.ts, .bool x.fl, .slice x.ss.a x.ss.n x.ss.c, .slice x.ce.a x.ce.n x.ce.c, .slice x.tb.a x.tb.n x.tb.c] #[.int .i64 y.er, .int .u64 y.tx, .int .u64 y.ts, .bool y.fl, .slice y.ss.a y.ss.n y.ss.c, .slice y.ce.a y.ce.n y.ce.c, .slice y.tb.a y.tb.n y.tb.c] 55 55 _ HBW.out; have x0w8 : w8.cell? ⟨w.heap.size, 0, none⟩ = some (.int .i64 x.er) := hq.1 0 _ rfl; have y0w8 : w8.cell? ⟨w.heap.size + 1, 0, none⟩ = some (.int .i64 y.er) := hq.2 0 _ rfl; have x1w8 : w8.cell? ⟨w.heap.size, 1, none⟩ = some (.int .u64 x.tx) := hq.1 1 _ rfl; have y1w8 : w8.cell? ⟨w.heap.size + 1, 1, none⟩ = some (.int .u64 y.tx) := hq.2 1 _ rfl; have x2w8 : w8.cell? ⟨w.heap.size, 2, none⟩ = some (.int .u64 x.ts) := hq.1 2 _ rfl; have y2w8 : w8.cell? ⟨w.heap.size + 1, 2, none⟩ = some (.int .u64 y.ts) := hq.2 2 _ rfl; have x3w8 : w8.cell? ⟨w.heap.size, 3, none⟩ = some (.bool x.fl) := hq.1 3 _ rfl; have y3w8 : w8.cell? ⟨w.heap.size + 1, 3, none⟩ = some (.bool y.fl) := hq.2 3 _ rfl; have x4w8 : w8.cell? ⟨w.heap.size, 4, none⟩ = some (.slice x.ss.a x.ss.n x.ss.c) := hq.1 4 _ rfl; have y4w8 : w8.cell? ⟨w.heap.size + 1, 4, none⟩ = some (.slice y.ss.a y.ss.n y.ss.c) := hq.2 4 _ rfl; have x5w8 : w8.cell? ⟨w.heap.size, 5, none⟩ = some (.slice x.ce.a x.ce.n x.ce.c) := hq.1 5 _ rfl; have y5w8 : w8.cell? ⟨w.heap.size + 1, 5, none⟩ = some (.slice y.ce.a y.ce.n y.ce.c) := hq.2 5 _ rfl; have x6w8 : w8.cell? ⟨w.heap.size, 6, none⟩ = some (.slice x.tb.a x.tb.n x.tb.c) := hq.1 6 _ rfl; have y6w8 : w8.cell? ⟨w.heap.size + 1, 6, none⟩ = some (.slice y.tb.a y.tb.n y.tb.c) := hq.2 6 _ rfl; clear hq)
              | (go_at_call 71; go_must (refine (HC6.out _ HBn.out).mono ?_ <;> skip); rintro e w9 ⟨rfl, hb⟩; have HBn := hide (HBn.out.trans (hb.mono HBn.out.size)); have HBW := hide (HBW.out.trans (hb.mono HBW.out.size)); clear hb; have hq := two_boxes w #[.int .i64 x.er, .int .u64 x.tx, .int .u64 x.ts, .bool x.fl, .slice x.ss.a x.ss.n x.ss.c, .slice x.ce.a x.ce.n x.ce.c, .slice x.tb.a x.tb.n x.tb.c] #[.int .i64 y.er, .int .u64 y.tx, .int .u64 y.ts, .bool y.fl, .slice y.ss.a y.ss.n y.ss.c, .slice y.ce.a y.ce.n y.ce.c, .slice y.tb.a y.tb.n y.tb.c] 55 55 _ HBW.out; have x0w9 : w9.cell? ⟨w.heap.size, 0, none⟩ = some (.int .i64 x.er) := hq.1 0 _ rfl; have y0w9 : w9.cell? ⟨w.heap.size + 1, 0, none⟩ = some (.int .i64 y.er) := hq.2 0 _ rfl; have x1w9 : w9.cell? ⟨w.heap.size, 1, none⟩ = some (.int .u64 x.tx) := hq.1 1 _ rfl; have y1w9 : w9.cell? ⟨w.heap.size + 1, 1, none⟩ = some (.int .u64 y.tx) := hq.2 1 _ rfl; have x2w9 : w9.cell? ⟨w.heap.size, 2, none⟩ = some (.int .u64 x.ts) := hq.1 2 _ rfl; have y2w9 : w9.cell? ⟨w.heap.size + 1, 2, none⟩ = some (.int .u64 y.ts) := hq.2 2 _ rfl; have x3w9 : w9.cell? ⟨w.heap.size, 3, none⟩ = some (.bool x.fl) := hq.1 3 _ rfl; have y3w9 : w9.cell? ⟨w.heap.size + 1, 3, none⟩ = some (.bool y.fl) := hq.2 3 _ rfl; have x4w9 : w9.cell? ⟨w.heap.size, 4, none⟩ = some (.slice x.ss.a x.ss.n x.ss.c) := hq.1 4 _ rfl; have y4w9 : w9.cell? ⟨w.heap.size + 1, 4, none⟩ = some (.slice y.ss.a y.ss.n y.ss.c) := hq.2 4 _ rfl; have x5w9 : w9.cell? ⟨w.heap.size, 5, none⟩ = some (.slice x.ce.a x.ce.n x.ce.c) := hq.1 5 _ rfl; have y5w9 : w9.cell? ⟨w.heap.size + 1, 5, none⟩ = some (.slice y.ce.a y.ce.n y.ce.c) := hq.2 5 _ rfl; have x6w9 : w9.cell? ⟨w.heap.size, 6, none⟩ = some (.slice x.tb.a x.tb.n x.tb.c) := hq.1 6 _ rfl; have y6w9 : w9.cell? ⟨w.heap.size + 1, 6, none⟩ = some (.slice y.tb.a y.tb.n y.tb.c) := hq.2 6 _ rfl; clear hq))
            go_ret
            exact ⟨by rw [HR.out]; rfl, HBn.out⟩
        · have d3 : (x.fl == y.fl) = false := by simpa using h3
          have c3 : decide (x.fl = y.fl) = false := by simpa using h3
          have Hn := hide h3
          clear h3
          have HR : Hid (decide (x.p = y.p) = false) := decide_eq_false (fun e => Hn.out (congrArg (fun t => t.2.2.2.1) (show ((x.er, x.tx, x.ts, x.fl, x.ss.xs, x.ce.xs.map MCe.p, x.tb.xs.map MTb.b)) = ((y.er, y.tx, y.ts, y.fl, y.ss.xs, y.ce.xs.map MCe.p, y.tb.xs.map MTb.b)) from e)))
          go_enter Tryz.func22, Tryz.ntmps22
          go_wp2_with (first
            | (go_at_call 68; go_must (refine (HC4.out _ HBn.out).mono ?_ <;> skip); rintro e w7 ⟨rfl, hb⟩; have HBn := hide (HBn.out.trans (hb.mono HBn.out.size)); have HBW := hide (HBW.out.trans (hb.mono HBW.out.size)); clear hb; have hq := two_boxes w #[.int .i64 x.er, .int .u64 x.tx, .int .u64 x.ts, .bool x.fl, .slice x.ss.a x.ss.n x.ss.c, .slice x.ce.a x.ce.n x.ce.c, .slice x.tb.a x.tb.n x.tb.c] #[.int .i64 y.er, .int .u64 y.tx, .int .u64 y.ts, .bool y.fl, .slice y.ss.a y.ss.n y.ss.c, .slice y.ce.a y.ce.n y.ce.c, .slice y.tb.a y.tb.n y.tb.c] 55 55 _ HBW.out; have x0w7 : w7.cell? ⟨w.heap.size, 0, none⟩ = some (.int .i64 x.er) := hq.1 0 _ rfl; have y0w7 : w7.cell? ⟨w.heap.size + 1, 0, none⟩ = some (.int .i64 y.er) := hq.2 0 _ rfl; have x1w7 : w7.cell? ⟨w.heap.size, 1, none⟩ = some (.int .u64 x.tx) := hq.1 1 _ rfl; have y1w7 : w7.cell? ⟨w.heap.size + 1, 1, none⟩ = some (.int .u64 y.tx) := hq.2 1 _ rfl; have x2w7 : w7.cell? ⟨w.heap.size, 2, none⟩ = some (.int .u64 x.ts) := hq.1 2 _ rfl; have y2w7 : w7.cell? ⟨w.heap.size + 1, 2, none⟩ = some (.int .u64 y.ts) := hq.2 2 _ rfl; have x3w7 : w7.cell? ⟨w.heap.size, 3, none⟩ = some (.bool x.fl) := hq.1 3 _ rfl; have y3w7 : w7.cell? ⟨w.heap.size + 1, 3, none⟩ = some (.bool y.fl) := hq.2 3 _ rfl; have x4w7 : w7.cell? ⟨w.heap.size, 4, none⟩ = some (.slice x.ss.a x.ss.n x.ss.c) := hq.1 4 _ rfl; have y4w7 : w7.cell? ⟨w.heap.size + 1, 4, none⟩ = some (.slice y.ss.a y.ss.n y.ss.c) := hq.2 4 _ rfl; have x5w7 : w7.cell? ⟨w.heap.size, 5, none⟩ = some (.slice x.ce.a x.ce.n x.ce.c) := hq.1 5 _ rfl; have y5w7 : w7.cell? ⟨w.heap.size + 1, 5, none⟩ = some (.slice y.ce.a y.ce.n y.ce.c) := hq.2 5 _ rfl; have x6w7 : w7.cell? ⟨w.heap.size, 6, none⟩ = some (.slice x.tb.a x.tb.n x.tb.c) := hq.1 6 _ rfl; have y6w7 : w7.cell? ⟨w.heap.size + 1, 6, none⟩ = some (.slice y.tb.a y.tb.n y.tb.c) := hq.2 6 _ rfl; clear hq)
            | (go_at_call 69; go_must (refine (HC5.out _ HBn.out).mono ?_ <;> skip); rintro e w8 ⟨rfl, hb⟩; have HBn := hide (HBn.out.trans (hb.mono HBn.out.size)); have HBW := hide (HBW.out.trans (hb.mono HBW.out.size)); clear hb; have hq := two_boxes w #[.int .i64 x.er, .int .u64 x.tx, .int .u64 x.ts, .bool x.fl, .slice x.ss.a x.ss.n x.ss.c, .slice x.ce.a x.ce.n x.ce.c, .slice x.tb.a x.tb.n x.tb.c] #[.int .i64 y.er, .int .u64 y.tx, .int .u64 y.ts, .bool y.fl, .slice y.ss.a y.ss.n y.ss.c, .slice y.ce.a y.ce.n y.ce.c, .slice y.tb.a y.tb.n y.tb.c] 55 55 _ HBW.out; have x0w8 : w8.cell? ⟨w.heap.size, 0, none⟩ = some (.int .i64 x.er) := hq.1 0 _ rfl; have y0w8 : w8.cell? ⟨w.heap.size + 1, 0, none⟩ = some (.int .i64 y.er) := hq.2 0 _ rfl; have x1w8 : w8.cell? ⟨w.heap.size, 1, none⟩ = some (.int .u64 x.tx) := hq.1 1 _ rfl; have y1w8 : w8.cell? ⟨w.heap.size + 1, 1, none⟩ = some (.int .u64 y.tx) := hq.2 1 _ rfl; have x2w8 : w8.cell? ⟨w.heap.size, 2, none⟩ = some (.int .u64 x.ts) := hq.1 2 _ rfl; have y2w8 : w8.cell? ⟨w.heap.size + 1, 2, none⟩ = some (.int .u64 y.ts) := hq.2 2 _ rfl; have x3w8 : w8.cell? ⟨w.heap.size, 3, none⟩ = some (.bool x.fl) := hq.1 3 _ rfl; have y3w8 : w8.cell? ⟨w.heap.size + 1, 3, none⟩ = some (.bool y.fl) := hq.2 3 _ rfl; have x4w8 : w8.cell? ⟨w.heap.size, 4, none⟩ = some (.slice x.ss.a x.ss.n x.ss.c) := hq.1 4 _ rfl; have y4w8 : w8.cell? ⟨w.heap.size + 1, 4, none⟩ = some (.slice y.ss.a y.ss.n y.ss.c) := hq.2 4 _ rfl; have x5w8 : w8.cell? ⟨w.heap.size, 5, none⟩ = some (.slice x.ce.a x.ce.n x.ce.c) := hq.1 5 _ rfl; have y5w8 : w8.cell? ⟨w.heap.size + 1, 5, none⟩ = some (.slice y.ce.a y.ce.n y.ce.c) := hq.2 5 _ rfl; have x6w8 : w8.cell? ⟨w.heap.size, 6, none⟩ = some (.slice x.tb.a x.tb.n x.tb.c) := hq.1 6 _ rfl; have y6w8 : w8.cell? ⟨w.heap.size + 1, 6, none⟩ = some (.slice y.tb.a y.tb.n y.tb.c) := hq.2 6 _ rfl; clear hq)
            | (go_at_call 71; go_must (refine (HC6.out _ HBn.out).mono ?_ <;> skip); rintro e w9 ⟨rfl, hb⟩; have HBn := hide (HBn.out.trans (hb.mono HBn.out.size)); have HBW := hide (HBW.out.trans (hb.mono HBW.out.size)); clear hb; have hq := two_boxes w #[.int .i64 x.er, .int .u64 x.tx, .int .u64 x.ts, .bool x.fl, .slice x.ss.a x.ss.n x.ss.c, .slice x.ce.a x.ce.n x.ce.c, .slice x.tb.a x.tb.n x.tb.c] #[.int .i64 y.er, .int .u64 y.tx, .int .u64 y.ts, .bool y.fl, .slice y.ss.a y.ss.n y.ss.c, .slice y.ce.a y.ce.n y.ce.c, .slice y.tb.a y.tb.n y.tb.c] 55 55 _ HBW.out; have x0w9 : w9.cell? ⟨w.heap.size, 0, none⟩ = some (.int .i64 x.er) := hq.1 0 _ rfl; have y0w9 : w9.cell? ⟨w.heap.size + 1, 0, none⟩ = some (.int .i64 y.er) := hq.2 0 _ rfl; have x1w9 : w9.cell? ⟨w.heap.size, 1, none⟩ = some (.int .u64 x.tx) := hq.1 1 _ rfl; have y1w9 : w9.cell? ⟨w.heap.size + 1, 1, none⟩ = some (.int .u64 y.tx) := hq.2 1 _ rfl; have x2w9 : w9.cell? ⟨w.heap.size, 2, none⟩ = some (.int .u64 x.ts) := hq.1 2 _ rfl; have y2w9 : w9.cell? ⟨w.heap.size + 1, 2, none⟩ = some (.int .u64 y.ts) := hq.2 2 _ rfl; have x3w9 : w9.cell? ⟨w.heap.size, 3, none⟩ = some (.bool x.fl) := hq.1 3 _ rfl; have y3w9 : w9.cell? ⟨w.heap.size + 1, 3, none⟩ = some (.bool y.fl) := hq.2 3 _ rfl; have x4w9 : w9.cell? ⟨w.heap.size, 4, none⟩ = some (.slice x.ss.a x.ss.n x.ss.c) := hq.1 4 _ rfl; have y4w9 : w9.cell? ⟨w.heap.size + 1, 4, none⟩ = some (.slice y.ss.a y.ss.n y.ss.c) := hq.2 4 _ rfl; have x5w9 : w9.cell? ⟨w.heap.size, 5, none⟩ = some (.slice x.ce.a x.ce.n x.ce.c) := hq.1 5 _ rfl; have y5w9 : w9.cell? ⟨w.heap.size + 1, 5, none⟩ = some (.slice y.ce.a y.ce.n y.ce.c) := hq.2 5 _ rfl; have x6w9 : w9.cell? ⟨w.heap.size, 6, none⟩ = some (.slice x.tb.a x.tb.n x.tb.c) := hq.1 6 _ rfl; have y6w9 : w9.cell? ⟨w.heap.size + 1, 6, none⟩ = some (.slice y.tb.a y.tb.n y.tb.c) := hq.2 6 _ rfl; clear hq))
          go_ret
          exact ⟨by rw [HR.out]; rfl, HBn.out⟩
      · have d2 : (x.ts == y.ts) = false := by simpa using h2
        have c2 : decide (x.ts = y.ts) = false := by simpa using h2
        have Hn := hide h2
        clear h2
        have HR : Hid (decide (x.p = y.p) = false) := decide_eq_false (fun e => Hn.out (congrArg (fun t => t.2.2.1) (show ((x.er, x.tx, x.ts, x.fl, x.ss.xs, x.ce.xs.map MCe.p, x.tb.xs.map MTb.b)) = ((y.er, y.tx, y.ts, y.fl, y.ss.xs, y.ce.xs.map MCe.p, y.tb.xs.map MTb.b)) from e)))
        go_enter Tryz.func22, Tryz.ntmps22
        go_wp2_with (first
          | (go_at_call 68; go_must (refine (HC4.out _ HBn.out).mono ?_ <;> skip); rintro e w7 ⟨rfl, hb⟩; have HBn := hide (HBn.out.trans (hb.mono HBn.out.size)); have HBW := hide (HBW.out.trans (hb.mono HBW.out.size)); clear hb; have hq := two_boxes w #[.int .i64 x.er, .int .u64 x.tx, .int .u64 x.ts, .bool x.fl, .slice x.ss.a x.ss.n x.ss.c, .slice x.ce.a x.ce.n x.ce.c, .slice x.tb.a x.tb.n x.tb.c] #[.int .i64 y.er, .int .u64 y.tx, .int .u64 y.ts, .bool y.fl, .slice y.ss.a y.ss.n y.ss.c, .slice y.ce.a y.ce.n y.ce.c, .slice y.tb.a y.tb.n y.tb.c] 55 55 _ HBW.out; have x0w7 : w7.cell? ⟨w.heap.size, 0, none⟩ = some (.int .i64 x.er) := hq.1 0 _ rfl; have y0w7 : w7.cell? ⟨w.heap.size + 1, 0, none⟩ = some (.int .i64 y.er) := hq.2 0 _ rfl; have x1w7 : w7.cell? ⟨w.heap.size, 1, none⟩ = some (.int .u64 x.tx) := hq.1 1 _ rfl; have y1w7 : w7.cell? ⟨w.heap.size + 1, 1, none⟩ = some (.int .u64 y.tx) := hq.2 1 _ rfl; have x2w7 : w7.cell? ⟨w.heap.size, 2, none⟩ = some (.int .u64 x.ts) := hq.1 2 _ rfl; have y2w7 : w7.cell? ⟨w.heap.size + 1, 2, none⟩ = some (.int .u64 y.ts) := hq.2 2 _ rfl; have x3w7 : w7.cell? ⟨w.heap.size, 3, none⟩ = some (.bool x.fl) := hq.1 3 _ rfl; have y3w7 : w7.cell? ⟨w.heap.size + 1, 3, none⟩ = some (.bool y.fl) := hq.2 3 _ rfl; have x4w7 : w7.cell? ⟨w.heap.size, 4, none⟩ = some (.slice x.ss.a x.ss.n x.ss.c) := hq.1 4 _ rfl; have y4w7 : w7.cell? ⟨w.heap.size + 1, 4, none⟩ = some (.slice y.ss.a y.ss.n y.ss.c) := hq.2 4 _ rfl; have x5w7 : w7.cell? ⟨w.heap.size, 5, none⟩ = some (.slice x.ce.a x.ce.n x.ce.c) := hq.1 5 _ rfl; have y5w7 : w7.cell? ⟨w.heap.size + 1, 5, none⟩ = some (.slice y.ce.a y.ce.n y.ce.c) := hq.2 5 _ rfl; have x6w7 : w7.cell? ⟨w.heap.size, 6, none⟩ = some (.slice x.tb.a x.tb.n x.tb.c) := hq.1 6 _ rfl; have y6w7 : w7.cell? ⟨w.heap.size + 1, 6, none⟩ = some (.slice y.tb.a y.tb.n y.tb.c) := hq.2 6 _ rfl; clear hq)
          | (go_at_call 69; go_must (refine (HC5.out _ HBn.out).mono ?_ <;> skip); rintro e w8 ⟨rfl, hb⟩; have HBn := hide (HBn.out.trans (hb.mono HBn.out.size)); have HBW := hide (HBW.out.trans (hb.mono HBW.out.size)); clear hb; have hq := two_boxes w #[.int .i64 x.er, .int .u64 x.tx, .int .u64 x.ts, .bool x.fl, .slice x.ss.a x.ss.n x.ss.c, .slice x.ce.a x.ce.n x.ce.c, .slice x.tb.a x.tb.n x.tb.c] #[.int .i64 y.er, .int .u64 y.tx, .int .u64 y.ts, .bool y.fl, .slice y.ss.a y.ss.n y.ss.c, .slice y.ce.a y.ce.n y.ce.c, .slice y.tb.a y.tb.n y.tb.c] 55 55 _ HBW.out; have x0w8 : w8.cell? ⟨w.heap.size, 0, none⟩ = some (.int .i64 x.er) := hq.1 0 _ rfl; have y0w8 : w8.cell? ⟨w.heap.size + 1, 0, none⟩ = some (.int .i64 y.er) := hq.2 0 _ rfl; have x1w8 : w8.cell? ⟨w.heap.size, 1, none⟩ = some (.int .u64 x.tx) := hq.1 1 _ rfl; have y1w8 : w8.cell? ⟨w.heap.size + 1, 1, none⟩ = some (.int .u64 y.tx) := hq.2 1 _ rfl; have x2w8 : w8.cell? ⟨w.heap.size, 2, none⟩ = some (.int .u64 x.ts) := hq.1 2 _ rfl; have y2w8 : w8.cell? ⟨w.heap.size + 1, 2, none⟩ = some (.int .u64 y.ts) := hq.2 2 _ rfl; have x3w8 : w8.cell? ⟨w.heap.size, 3, none⟩ = some (.bool x.fl) := hq.1 3 _ rfl; have y3w8 : w8.cell? ⟨w.heap.size + 1, 3, none⟩ = some (.bool y.fl) := hq.2 3 _ rfl; have x4w8 : w8.cell? ⟨w.heap.size, 4, none⟩ = some (.slice x.ss.a x.ss.n x.ss.c) := hq.1 4 _ rfl; have y4w8 : w8.cell? ⟨w.heap.size + 1, 4, none⟩ = some (.slice y.ss.a y.ss.n y.ss.c) := hq.2 4 _ rfl; have x5w8 : w8.cell? ⟨w.heap.size, 5, none⟩ = some (.slice x.ce.a x.ce.n x.ce.c) := hq.1 5 _ rfl; have y5w8 : w8.cell? ⟨w.heap.size + 1, 5, none⟩ = some (.slice y.ce.a y.ce.n y.ce.c) := hq.2 5 _ rfl; have x6w8 : w8.cell? ⟨w.heap.size, 6, none⟩ = some (.slice x.tb.a x.tb.n x.tb.c) := hq.1 6 _ rfl; have y6w8 : w8.cell? ⟨w.heap.size + 1, 6, none⟩ = some (.slice y.tb.a y.tb.n y.tb.c) := hq.2 6 _ rfl; clear hq)
          | (go_at_call 71; go_must (refine (HC6.out _ HBn.out).mono ?_ <;> skip); rintro e w9 ⟨rfl, hb⟩; have HBn := hide (HBn.out.trans (hb.mono HBn.out.size)); have HBW := hide (HBW.out.trans (hb.mono HBW.out.size)); clear hb; have hq := two_boxes w #[.int .i64 x.er, .int .u64 x.tx, .int .u64 x.ts, .bool x.fl, .slice x.ss.a x.ss.n x.ss.c, .slice x.ce.a x.ce.n x.ce.c, .slice x.tb.a x.tb.n x.tb.c] #[.int .i64 y.er, .int .u64 y.tx, .int .u64 y.ts, .bool y.fl, .slice y.ss.a y.ss.n y.ss.c, .slice y.ce.a y.ce.n y.ce.c, .slice y.tb.a y.tb.n y.tb.c] 55 55 _ HBW.out; have x0w9 : w9.cell? ⟨w.heap.size, 0, none⟩ = some (.int .i64 x.er) := hq.1 0 _ rfl; have y0w9 : w9.cell? ⟨w.heap.size + 1, 0, none⟩ = some (.int .i64 y.er) := hq.2 0 _ rfl; have x1w9 : w9.cell? ⟨w.heap.size, 1, none⟩ = some (.int .u64 x.tx) := hq.1 1 _ rfl; have y1w9 : w9.cell? ⟨w.heap.size + 1, 1, none⟩ = some (.int .u64 y.tx) := hq.2 1 _ rfl; have x2w9 : w9.cell? ⟨w.heap.size, 2, none⟩ = some (.int .u64 x.ts) := hq.1 2 _ rfl; have y2w9 : w9.cell? ⟨w.heap.size + 1, 2, none⟩ = some (.int .u64 y.ts) := hq.2 2 _ rfl; have x3w9 : w9.cell? ⟨w.heap.size, 3, none⟩ = some (.bool x.fl) := hq.1 3 _ rfl; have y3w9 : w9.cell? ⟨w.heap.size + 1, 3, none⟩ = some (.bool y.fl) := hq.2 3 _ rfl; have x4w9 : w9.cell? ⟨w.heap.size, 4, none⟩ = some (.slice x.ss.a x.ss.n x.ss.c) := hq.1 4 _ rfl; have y4w9 : w9.cell? ⟨w.heap.size + 1, 4, none⟩ = some (.slice y.ss.a y.ss.n y.ss.c) := hq.2 4 _ rfl; have x5w9 : w9.cell? ⟨w.heap.size, 5, none⟩ = some (.slice x.ce.a x.ce.n x.ce.c) := hq.1 5 _ rfl; have y5w9 : w9.cell? ⟨w.heap.size + 1, 5, none⟩ = some (.slice y.ce.a y.ce.n y.ce.c) := hq.2 5 _ rfl; have x6w9 : w9.cell? ⟨w.heap.size, 6, none⟩ = some (.slice x.tb.a x.tb.n x.tb.c) := hq.1 6 _ rfl; have y6w9 : w9.cell? ⟨w.heap.size + 1, 6, none⟩ = some (.slice y.tb.a y.tb.n y.tb.c) := hq.2 6 _ rfl; clear hq))
        go_ret
        exact ⟨by rw [HR.out]; rfl, HBn.out⟩
    · have d1 : (x.tx == y.tx) = false := by simpa using h1
      have c1 : decide (x.tx = y.tx) = false := by simpa using h1
      have Hn := hide h1
      clear h1
      have HR : Hid (decide (x.p = y.p) = false) := decide_eq_false (fun e => Hn.out (congrArg (fun t => t.2.1) (show ((x.er, x.tx, x.ts, x.fl, x.ss.xs, x.ce.xs.map MCe.p, x.tb.xs.map MTb.b)) = ((y.er, y.tx, y.ts, y.fl, y.ss.xs, y.ce.xs.map MCe.p, y.tb.xs.map MTb.b)) from e)))
      go_enter Tryz.func22, Tryz.ntmps22
      go_wp2_with (first
        | (go_at_call 68; go_must (refine (HC4.out _ HBn.out).mono ?_ <;> skip); rintro e w7 ⟨rfl, hb⟩; have HBn := hide (HBn.out.trans (hb.mono HBn.out.size)); have HBW := hide (HBW.out.trans (hb.mono HBW.out.size)); clear hb; have hq := two_boxes w #[.int .i64 x.er, .int .u64 x.tx, .int .u64 x.ts, .bool x.fl, .slice x.ss.a x.ss.n x.ss.c, .slice x.ce.a x.ce.n x.ce.c, .slice x.tb.a x.tb.n x.tb.c] #[.int .i64 y.er, .int .u64 y.tx, .int .u64 y.ts, .bool y.fl, .slice y.ss.a y.ss.n y.ss.c, .slice y.ce.a y.ce.n y.ce.c, .slice y.tb.a y.tb.n y.tb.c] 55 55 _ HBW.out; have x0w7 : w7.cell? ⟨w.heap.size, 0, none⟩ = some (.int .i64 x.er) := hq.1 0 _ rfl; have y0w7 : w7.cell? ⟨w.heap.size + 1, 0, none⟩ = some (.int .i64 y.er) := hq.2 0 _ rfl; have x1w7 : w7.cell? ⟨w.heap.size, 1, none⟩ = some (.int .u64 x.tx) := hq.1 1 _ rfl; have y1w7 : w7.cell? ⟨w.heap.size + 1, 1, none⟩ = some (.int .u64 y.tx) := hq.2 1 _ rfl; have x2w7 : w7.cell? ⟨w.heap.size, 2, none⟩ = some (.int .u64 x.ts) := hq.1 2 _ rfl; have y2w7 : w7.cell? ⟨w.heap.size + 1, 2, none⟩ = some (.int .u64 y.ts) := hq.2 2 _ rfl; have x3w7 : w7.cell? ⟨w.heap.size, 3, none⟩ = some (.bool x.fl) := hq.1 3 _ rfl; have y3w7 : w7.cell? ⟨w.heap.size + 1, 3, none⟩ = some (.bool y.fl) := hq.2 3 _ rfl; have x4w7 : w7.cell? ⟨w.heap.size, 4, none⟩ = some (.slice x.ss.a x.ss.n x.ss.c) := hq.1 4 _ rfl; have y4w7 : w7.cell? ⟨w.heap.size + 1, 4, none⟩ = some (.slice y.ss.a y.ss.n y.ss.c) := hq.2 4 _ rfl; have x5w7 : w7.cell? ⟨w.heap.size, 5, none⟩ = some (.slice x.ce.a x.ce.n x.ce.c) := hq.1 5 _ rfl; have y5w7 : w7.cell? ⟨w.heap.size + 1, 5, none⟩ = some (.slice y.ce.a y.ce.n y.ce.c) := hq.2 5 _ rfl; have x6w7 : w7.cell? ⟨w.heap.size, 6, none⟩ = some (.slice x.tb.a x.tb.n x.tb.c) := hq.1 6 _ rfl; have y6w7 : w7.cell? ⟨w.heap.size + 1, 6, none⟩ = some (.slice y.tb.a y.tb.n y.tb.c) := hq.2 6 _ rfl; clear hq)
        | (go_at_call 69; go_must (refine (HC5.out _ HBn.out).mono ?_ <;> skip); rintro e w8 ⟨rfl, hb⟩; have HBn := hide (HBn.out.trans (hb.mono HBn.out.size)); have HBW := hide (HBW.out.trans (hb.mono HBW.out.size)); clear hb; have hq := two_boxes w #[.int .i64 x.er, .int .u64 x.tx, .int .u64 x.ts, .bool x.fl, .slice x.ss.a x.ss.n x.ss.c, .slice x.ce.a x.ce.n x.ce.c, .slice x.tb.a x.tb.n x.tb.c] #[.int .i64 y.er, .int .u64 y.tx, .int .u64 y.ts, .bool y.fl, .slice y.ss.a y.ss.n y.ss.c, .slice y.ce.a y.ce.n y.ce.c, .slice y.tb.a y.tb.n y.tb.c] 55 55 _ HBW.out; have x0w8 : w8.cell? ⟨w.heap.size, 0, none⟩ = some (.int .i64 x.er) := hq.1 0 _ rfl; have y0w8 : w8.cell? ⟨w.heap.size + 1, 0, none⟩ = some (.int .i64 y.er) := hq.2 0 _ rfl; have x1w8 : w8.cell? ⟨w.heap.size, 1, none⟩ = some (.int .u64 x.tx) := hq.1 1 _ rfl; have y1w8 : w8.cell? ⟨w.heap.size + 1, 1, none⟩ = some (.int .u64 y.tx) := hq.2 1 _ rfl; have x2w8 : w8.cell? ⟨w.heap.size, 2, none⟩ = some (.int .u64 x.ts) := hq.1 2 _ rfl; have y2w8 : w8.cell? ⟨w.heap.size + 1, 2, none⟩ = some (.int .u64 y.ts) := hq.2 2 _ rfl; have x3w8 : w8.cell? ⟨w.heap.size, 3, none⟩ = some (.bool x.fl) := hq.1 3 _ rfl; have y3w8 : w8.cell? ⟨w.heap.size + 1, 3, none⟩ = some (.bool y.fl) := hq.2 3 _ rfl; have x4w8 : w8.cell? ⟨w.heap.size, 4, none⟩ = some (.slice x.ss.a x.ss.n x.ss.c) := hq.1 4 _ rfl; have y4w8 : w8.cell? ⟨w.heap.size + 1, 4, none⟩ = some (.slice y.ss.a y.ss.n y.ss.c) := hq.2 4 _ rfl; have x5w8 : w8.cell? ⟨w.heap.size, 5, none⟩ = some (.slice x.ce.a x.ce.n x.ce.c) := hq.1 5 _ rfl; have y5w8 : w8.cell? ⟨w.heap.size + 1, 5, none⟩ = some (.slice y.ce.a y.ce.n y.ce.c) := hq.2 5 _ rfl; have x6w8 : w8.cell? ⟨w.heap.size, 6, none⟩ = some (.slice x.tb.a x.tb.n x.tb.c) := hq.1 6 _ rfl; have y6w8 : w8.cell? ⟨w.heap.size + 1, 6, none⟩ = some (.slice y.tb.a y.tb.n y.tb.c) := hq.2 6 _ rfl; clear hq)
        | (go_at_call 71; go_must (refine (HC6.out _ HBn.out).mono ?_ <;> skip); rintro e w9 ⟨rfl, hb⟩; have HBn := hide (HBn.out.trans (hb.mono HBn.out.size)); have HBW := hide (HBW.out.trans (hb.mono HBW.out.size)); clear hb; have hq := two_boxes w #[.int .i64 x.er, .int .u64 x.tx, .int .u64 x.ts, .bool x.fl, .slice x.ss.a x.ss.n x.ss.c, .slice x.ce.a x.ce.n x.ce.c, .slice x.tb.a x.tb.n x.tb.c] #[.int .i64 y.er, .int .u64 y.tx, .int .u64 y.ts, .bool y.fl, .slice y.ss.a y.ss.n y.ss.c, .slice y.ce.a y.ce.n y.ce.c, .slice y.tb.a y.tb.n y.tb.c] 55 55 _ HBW.out; have x0w9 : w9.cell? ⟨w.heap.size, 0, none⟩ = some (.int .i64 x.er) := hq.1 0 _ rfl; have y0w9 : w9.cell? ⟨w.heap.size + 1, 0, none⟩ = some (.int .i64 y.er) := hq.2 0 _ rfl; have x1w9 : w9.cell? ⟨w.heap.size, 1, none⟩ = some (.int .u64 x.tx) := hq.1 1 _ rfl; have y1w9 : w9.cell? ⟨w.heap.size + 1, 1, none⟩ = some (.int .u64 y.tx) := hq.2 1 _ rfl; have x2w9 : w9.cell? ⟨w.heap.size, 2, none⟩ = some (.int .u64 x.ts) := hq.1 2 _ rfl; have y2w9 : w9.cell? ⟨w.heap.size + 1, 2, none⟩ = some (.int .u64 y.ts) := hq.2 2 _ rfl; have x3w9 : w9.cell? ⟨w.heap.size, 3, none⟩ = some (.bool x.fl) := hq.1 3 _ rfl; have y3w9 : w9.cell? ⟨w.heap.size + 1, 3, none⟩ = some (.bool y.fl) := hq.2 3 _ rfl; have x4w9 : w9.cell? ⟨w.heap.size, 4, none⟩ = some (.slice x.ss.a x.ss.n x.ss.c) := hq.1 4 _ rfl; have y4w9 : w9.cell? ⟨w.heap.size + 1, 4, none⟩ = some (.slice y.ss.a y.ss.n y.ss.c) := hq.2 4 _ rfl; have x5w9 : w9.cell? ⟨w.heap.size, 5, none⟩ = some (.slice x.ce.a x.ce.n x.ce.c) := hq.1 5 _ rfl; have y5w9 : w9.cell? ⟨w.heap.size + 1, 5, none⟩ = some (.slice y.ce.a y.ce.n y.ce.c) := hq.2 5 _ rfl; have x6w9 : w9.cell? ⟨w.heap.size, 6, none⟩ = some (.slice x.tb.a x.tb.n x.tb.c) := hq.1 6 _ rfl; have y6w9 : w9.cell? ⟨w.heap.size + 1, 6, none⟩ = some (.slice y.tb.a y.tb.n y.tb.c) := hq.2 6 _ rfl; clear hq))
      go_ret
      exact ⟨by rw [HR.out]; rfl, HBn.out⟩
  · have d0 : (x.er == y.er) = false := by simpa using h0
    have c0 : decide (x.er = y.er) = false := by simpa using h0
    have Hn := hide h0
    clear h0
    have HR : Hid (decide (x.p = y.p) = false) := decide_eq_false (fun e => Hn.out (congrArg (fun t => t.1) (show ((x.er, x.tx, x.ts, x.fl, x.ss.xs, x.ce.xs.map MCe.p, x.tb.xs.map MTb.b)) = ((y.er, y.tx, y.ts, y.fl, y.ss.xs, y.ce.xs.map MCe.p, y.tb.xs.map MTb.b)) from e)))
    go_enter Tryz.func22, Tryz.ntmps22
    go_wp2_with (first
      | (go_at_call 68; go_must (refine (HC4.out _ HBn.out).mono ?_ <;> skip); rintro e w7 ⟨rfl, hb⟩; have HBn := hide (HBn.out.trans (hb.mono HBn.out.size)); have HBW := hide (HBW.out.trans (hb.mono HBW.out.size)); clear hb; have hq := two_boxes w #[.int .i64 x.er, .int .u64 x.tx, .int .u64 x.ts, .bool x.fl, .slice x.ss.a x.ss.n x.ss.c, .slice x.ce.a x.ce.n x.ce.c, .slice x.tb.a x.tb.n x.tb.c] #[.int .i64 y.er, .int .u64 y.tx, .int .u64 y.ts, .bool y.fl, .slice y.ss.a y.ss.n y.ss.c, .slice y.ce.a y.ce.n y.ce.c, .slice y.tb.a y.tb.n y.tb.c] 55 55 _ HBW.out; have x0w7 : w7.cell? ⟨w.heap.size, 0, none⟩ = some (.int .i64 x.er) := hq.1 0 _ rfl; have y0w7 : w7.cell? ⟨w.heap.size + 1, 0, none⟩ = some (.int .i64 y.er) := hq.2 0 _ rfl; have x1w7 : w7.cell? ⟨w.heap.size, 1, none⟩ = some (.int .u64 x.tx) := hq.1 1 _ rfl; have y1w7 : w7.cell? ⟨w.heap.size + 1, 1, none⟩ = some (.int .u64 y.tx) := hq.2 1 _ rfl; have x2w7 : w7.cell? ⟨w.heap.size, 2, none⟩ = some (.int .u64 x.ts) := hq.1 2 _ rfl; have y2w7 : w7.cell? ⟨w.heap.size + 1, 2, none⟩ = some (.int .u64 y.ts) := hq.2 2 _ rfl; have x3w7 : w7.cell? ⟨w.heap.size, 3, none⟩ = some (.bool x.fl) := hq.1 3 _ rfl; have y3w7 : w7.cell? ⟨w.heap.size + 1, 3, none⟩ = some (.bool y.fl) := hq.2 3 _ rfl; have x4w7 : w7.cell? ⟨w.heap.size, 4, none⟩ = some (.slice x.ss.a x.ss.n x.ss.c) := hq.1 4 _ rfl; have y4w7 : w7.cell? ⟨w.heap.size + 1, 4, none⟩ = some (.slice y.ss.a y.ss.n y.ss.c) := hq.2 4 _ rfl; have x5w7 : w7.cell? ⟨w.heap.size, 5, none⟩ = some (.slice x.ce.a x.ce.n x.ce.c) := hq.1 5 _ rfl; have y5w7 : w7.cell? ⟨w.heap.size + 1, 5, none⟩ = some (.slice y.ce.a y.ce.n y.ce.c) := hq.2 5 _ rfl; have x6w7 : w7.cell? ⟨w.heap.size, 6, none⟩ = some (.slice x.tb.a x.tb.n x.tb.c) := hq.1 6 _ rfl; have y6w7 : w7.cell? ⟨w.heap.size + 1, 6, none⟩ = some (.slice y.tb.a y.tb.n y.tb.c) := hq.2 6 _ rfl; clear hq)
      | (go_at_call 69; go_must (refine (HC5.out _ HBn.out).mono ?_ <;> skip); rintro e w8 ⟨rfl, hb⟩; have HBn := hide (HBn.out.trans (hb.mono HBn.out.size)); have HBW := hide (HBW.out.trans (hb.mono HBW.out.size)); clear hb; have hq := two_boxes w #[.int .i64 x.er, .int .u64 x.tx, .int .u64 x.ts, .bool x.fl, .slice x.ss.a x.ss.n x.ss.c, .slice x.ce.a x.ce.n x.ce.c, .slice x.tb.a x.tb.n x.tb.c] #[.int .i64 y.er, .int .u64 y.tx, .int .u64 y.ts, .bool y.fl, .slice y.ss.a y.ss.n y.ss.c, .slice y.ce.a y.ce.n y.ce.c, .slice y.tb.a y.tb.n y.tb.c] 55 55 _ HBW.out; have x0w8 : w8.cell? ⟨w.heap.size, 0, none⟩ = some (.int .i64 x.er) := hq.1 0 _ rfl; have y0w8 : w8.cell? ⟨w.heap.size + 1, 0, none⟩ = some (.int .i64 y.er) := hq.2 0 _ rfl; have x1w8 : w8.cell? ⟨w.heap.size, 1, none⟩ = some (.int .u64 x.tx) := hq.1 1 _ rfl; have y1w8 : w8.cell? ⟨w.heap.size + 1, 1, none⟩ = some (.int .u64 y.tx) := hq.2 1 _ rfl; have x2w8 : w8.cell? ⟨w.heap.size, 2, none⟩ = some (.int .u64 x.ts) := hq.1 2 _ rfl; have y2w8 : w8.cell? ⟨w.heap.size + 1, 2, none⟩ = some (.int .u64 y.ts) := hq.2 2 _ rfl; have x3w8 : w8.cell? ⟨w.heap.size, 3, none⟩ = some (.bool x.fl) := hq.1 3 _ rfl; have y3w8 : w8.cell? ⟨w.heap.size + 1, 3, none⟩ = some (.bool y.fl) := hq.2 3 _ rfl; have x4w8 : w8.cell? ⟨w.heap.size, 4, none⟩ = some (.slice x.ss.a x.ss.n x.ss.c) := hq.1 4 _ rfl; have y4w8 : w8.cell? ⟨w.heap.size + 1, 4, none⟩ = some (.slice y.ss.a y.ss.n y.ss.c) := hq.2 4 _ rfl; have x5w8 : w8.cell? ⟨w.heap.size, 5, none⟩ = some (.slice x.ce.a x.ce.n x.ce.c) := hq.1 5 _ rfl; have y5w8 : w8.cell? ⟨w.heap.size + 1, 5, none⟩ = some (.slice y.ce.a y.ce.n y.ce.c) := hq.2 5 _ rfl; have x6w8 : w8.cell? ⟨w.heap.size, 6, none⟩ = some (.slice x.tb.a x.tb.n x.tb.c) := hq.1 6 _ rfl; have y6w8 : w8.cell? ⟨w.heap.size + 1, 6, none⟩ = some (.slice y.tb.a y.tb.n y.tb.c) := hq.2 6 _ rfl; clear hq)
      | (go_at_call 71; go_must (refine (HC6.out _ HBn.out).mono ?_ <;> skip); rintro e w9 ⟨rfl, hb⟩; have HBn := hide (HBn.out.trans (hb.mono HBn.out.size)); have HBW := hide (HBW.out.trans (hb.mono HBW.out.size)); clear hb; have hq := two_boxes w #[.int .i64 x.er, .int .u64 x.tx, .int .u64 x.ts, .bool x.fl, .slice x.ss.a x.ss.n x.ss.c, .slice x.ce.a x.ce.n x.ce.c, .slice x.tb.a x.tb.n x.tb.c] #[.int .i64 y.er, .int .u64 y.tx, .int .u64 y.ts, .bool y.fl, .slice y.ss.a y.ss.n y.ss.c, .slice y.ce.a y.ce.n y.ce.c, .slice y.tb.a y.tb.n y.tb.c] 55 55 _ HBW.out; have x0w9 : w9.cell? ⟨w.heap.size, 0, none⟩ = some (.int .i64 x.er) := hq.1 0 _ rfl; have y0w9 : w9.cell? ⟨w.heap.size + 1, 0, none⟩ = some (.int .i64 y.er) := hq.2 0 _ rfl; have x1w9 : w9.cell? ⟨w.heap.size, 1, none⟩ = some (.int .u64 x.tx) := hq.1 1 _ rfl; have y1w9 : w9.cell? ⟨w.heap.size + 1, 1, none⟩ = some (.int .u64 y.tx) := hq.2 1 _ rfl; have x2w9 : w9.cell? ⟨w.heap.size, 2, none⟩ = some (.int .u64 x.ts) := hq.1 2 _ rfl; have y2w9 : w9.cell? ⟨w.heap.size + 1, 2, none⟩ = some (.int .u64 y.ts) := hq.2 2 _ rfl; have x3w9 : w9.cell? ⟨w.heap.size, 3, none⟩ = some (.bool x.fl) := hq.1 3 _ rfl; have y3w9 : w9.cell? ⟨w.heap.size + 1, 3, none⟩ = some (.bool y.fl) := hq.2 3 _ rfl; have x4w9 : w9.cell? ⟨w.heap.size, 4, none⟩ = some (.slice x.ss.a x.ss.n x.ss.c) := hq.1 4 _ rfl; have y4w9 : w9.cell? ⟨w.heap.size + 1, 4, none⟩ = some (.slice y.ss.a y.ss.n y.ss.c) := hq.2 4 _ rfl; have x5w9 : w9.cell? ⟨w.heap.size, 5, none⟩ = some (.slice x.ce.a x.ce.n x.ce.c) := hq.1 5 _ rfl; have y5w9 : w9.cell? ⟨w.heap.size + 1, 5, none⟩ = some (.slice y.ce.a y.ce.n y.ce.c) := hq.2 5 _ rfl; have x6w9 : w9.cell? ⟨w.heap.size, 6, none⟩ = some (.slice x.tb.a x.tb.n x.tb.c) := hq.1 6 _ rfl; have y6w9 : w9.cell? ⟨w.heap.size + 1, 6, none⟩ = some (.slice y.tb.a y.tb.n y.tb.c) := hq.2 6 _ rfl; clear hq))
    go_ret
    exact ⟨by rw [HR.out]; rfl, HBn.out⟩

end Go.Proofs.YtcgiicmmfleinaaGreatDoor

namespace Go.Proofs.YtcgiicmmfleinaaGreatDoor
open Go.RowKit NumMath Go.ChangeShapes Go.WideShapes Go.Deep
set_option linter.unusedVariables false
set_option maxRecDepth 100000

set_option maxHeartbeats 2000000 in
theorem xsameTx_any (xs ys : List MB) (a b : Option Addr) (n c n' c' : Nat) (w : World) (hx : IsY layT w a n c xs) (hy : IsY layT w b n' c' ys) (hxo : ∀ x ∈ xs, x.is w) (hyo : ∀ x ∈ ys, x.is w) :
    Calls Tryz.prog 109 #[.slice a n c, .slice b n' c'] w fun e w' => e = .returned (.bool (decide ((xs.map MB.t) = (ys.map MB.t)))) ∧ Below w.heap.size w w' := by
  have HX := hide hx
  have HY := hide hy
  have hm : (n : Int) ≤ 9223372036854775807 := by have := hx.2.1; have := hx.2.2.1; unfold maxLen at this; omega
  have HXO := hide hxo
  have HYO := hide hyo
  clear hx hy hxo hyo
  by_cases hl : n = n'
  · subst hl
    go_enter Tryz.func109, Tryz.ntmps109
    go_wp2
    go_loopg [13] n (fun gk ix wr => ∃ k : Nat, gk = n - k ∧ ix = .int .i64 k ∧ k ≤ n ∧ (xs.map MB.t).take k = (ys.map MB.t).take k ∧ Below w.heap.size w wr)
    case atStart => exact ⟨0, rfl, rfl, Nat.zero_le _, rfl, Below.refl _ _⟩
    case round =>
      obtain ⟨k, rfl, rfl, hk, hT, hB⟩ := hrel
      have HT := hide hT
      have HB := hide hB
      clear hT hB
      by_cases hlt : k < n
      · have hlt' : (k : Int) < (n : Int) := by omega
        obtain ⟨x, hx⟩ := at_of HX.out.1 hlt
        obtain ⟨y, hy⟩ := at_of HY.out.1 hlt
        obtain ⟨g1, o1, rfl, hg1, hC1⟩ := (HX.out.keep HB.out).at hlt
        obtain ⟨g2, o2, rfl, hg2, hC2⟩ := (HY.out.keep HB.out).at hlt
        have e0 : wr.cell? ⟨g1, o1 + k, none⟩ = some (.slice x.a x.n x.c) := by simpa [layT] using hC1 k x hx 0 _ rfl
        have f0 : wr.cell? ⟨g2, o2 + k, none⟩ = some (.slice y.a y.n y.c) := by simpa [layT] using hC2 k y hy 0 _ rfl
        have hxb : IsBytes wr x.a x.n x.c x.t := MB.is.keep (HXO.out x (List.mem_of_getElem? hx)) HB.out
        have hyb : IsBytes wr y.a y.n y.c y.t := MB.is.keep (HYO.out y (List.mem_of_getElem? hy)) HB.out
        have q1 := fun nd => (hxb.keep (below_drewN (Below.refl _ wr) nd)).conv
        have q2 := fun nd => (hyb.keep (below_drewN (Below.refl _ wr) nd)).conv
        have hq := strB_eq x.t y.t hxb.2.2.2.1 hyb.2.2.2.1
        clear hxb hyb
        have HAx : Hid ((xs.map MB.t)[k]? = some x.t) := by show _ = _; rw [List.getElem?_map, hx]; rfl
        have HAy : Hid ((ys.map MB.t)[k]? = some y.t) := by show _ = _; rw [List.getElem?_map, hy]; rfl
        clear hx hy hC1 hC2
        by_cases hxy : x.t = y.t
        · rw [decide_eq_true hxy] at hq
          have HXY := hide hxy
          clear hxy
          go_wp2
          go_quiet (fail)
          go_wp2
          go_roundg (n - (k + 1))
          case measure => omega
          case rel => exact ⟨k + 1, rfl, by go_num, hlt, take_at HT.out HAx.out HAy.out HXY.out, below_drewN HB.out _⟩
        · have HR : Hid (decide ((xs.map MB.t) = (ys.map MB.t)) = false) := decide_eq_false (no_at HAx.out HAy.out hxy)
          rw [decide_eq_false hxy] at hq
          have HXY := hide hxy
          clear hxy
          go_wp2
          go_quiet (fail)
          go_wp2
          refine bodyPost_ret (v := .bool false) (by simp [results, Tryz.results109, go_sem]) rfl ⟨by rw [HR.out], below_drewN HB.out _⟩
      · obtain rfl : k = n := by omega
        have HR : Hid (decide ((xs.map MB.t) = (ys.map MB.t)) = true) := decide_eq_true (take_all HT.out ((List.length_map MB.t).trans HX.out.1) ((List.length_map MB.t).trans HY.out.1))
        go_wp2
        go_ret
        exact ⟨by rw [HR.out]; rfl, HB.out⟩
  · have hl' : ¬ (n : Int) = (n' : Int) := by omega
    have HR : Hid (decide ((xs.map MB.t) = (ys.map MB.t)) = false) := decide_eq_false (fun e => hl (by have h1 := ((List.length_map MB.t).trans HX.out.1); have h2 := ((List.length_map MB.t).trans HY.out.1); rw [e] at h1; omega))
    go_enter Tryz.func109, Tryz.ntmps109
    go_wp2
    go_ret
    exact ⟨by rw [HR.out]; rfl, Below.refl _ _⟩

set_option maxHeartbeats 8000000 in
theorem xsameV_any (x y : MVe) (w : World) (h : x.ok w) (k : y.ok w) :
    Calls Tryz.prog 73 #[.agg #[.int .u64 x.ts, .int .u64 x.tx, .bool x.dd, .slice x.vl.a x.vl.n x.vl.c, .slice x.ks.a x.ks.n x.ks.c], .agg #[.int .u64 y.ts, .int .u64 y.tx, .bool y.dd, .slice y.vl.a y.vl.n y.vl.c, .slice y.ks.a y.ks.n y.ks.c]] w fun e w' => e = .returned (.bool (decide (x.p = y.p))) ∧ Below w.heap.size w w' := by
  have HBn : Hid (Below w.heap.size w ((w.alloc (.cells #[.int .u64 x.ts, .int .u64 x.tx, .bool x.dd, .slice x.vl.a x.vl.n x.vl.c, .slice x.ks.a x.ks.n x.ks.c] 135)).alloc (.cells #[.int .u64 y.ts, .int .u64 y.tx, .bool y.dd, .slice y.vl.a y.vl.n y.vl.c, .slice y.ks.a y.ks.n y.ks.c] 135))) := (new_below w _).trans ((new_below _ _).mono (new_below w _).size)
  have HC4 := hide (fun W (hb : Below w.heap.size w W) => xsameTx_any x.ks.xs y.ks.xs x.ks.a y.ks.a x.ks.n x.ks.c y.ks.n y.ks.c W (h.ks.keep hb) (k.ks.keep hb) (fun p hp => (h.ko p hp).keep hb) (fun q hq => (k.ko q hq).keep hb))
  have q3x := (IsBytes.keep h.vl HBn.out).conv
  have q3y := (IsBytes.keep k.vl HBn.out).conv
  have hq3 := strB_eq x.vl.t y.vl.t (IsBytes.keep h.vl HBn.out).2.2.2.1 (IsBytes.keep k.vl HBn.out).2.2.2.1
  have HBW : Hid (Below ((w.alloc (.cells #[.int .u64 x.ts, .int .u64 x.tx, .bool x.dd, .slice x.vl.a x.vl.n x.vl.c, .slice x.ks.a x.ks.n x.ks.c] 135)).alloc (.cells #[.int .u64 y.ts, .int .u64 y.tx, .bool y.dd, .slice y.vl.a y.vl.n y.vl.c, .slice y.ks.a y.ks.n y.ks.c] 135)).heap.size ((w.alloc (.cells #[.int .u64 x.ts, .int .u64 x.tx, .bool x.dd, .slice x.vl.a x.vl.n x.vl.c, .slice x.ks.a x.ks.n x.ks.c] 135)).alloc (.cells #[.int .u64 y.ts, .int .u64 y.tx, .bool y.dd, .slice y.vl.a y.vl.n y.vl.c, .slice y.ks.a y.ks.n y.ks.c] 135)) ((w.alloc (.cells #[.int .u64 x.ts, .int .u64 x.tx, .bool x.dd, .slice x.vl.a x.vl.n x.vl.c, .slice x.ks.a x.ks.n x.ks.c] 135)).alloc (.cells #[.int .u64 y.ts, .int .u64 y.tx, .bool y.dd, .slice y.vl.a y.vl.n y.vl.c, .slice y.ks.a y.ks.n y.ks.c] 135))) := Below.refl _ _
  clear h k
  by_cases h0 : x.ts = y.ts
  · have d0 : (x.ts == y.ts) = true := by simpa using h0
    have c0 : decide (x.ts = y.ts) = true := by simpa using h0
    have Hh0 := hide h0
    clear h0
    by_cases h1 : x.tx = y.tx
    · have d1 : (x.tx == y.tx) = true := by simpa using h1
      have c1 : decide (x.tx = y.tx) = true := by simpa using h1
      have Hh1 := hide h1
      clear h1
      by_cases h2 : x.dd = y.dd
      · have d2 : (x.dd == y.dd) = true := by simpa using h2
        have c2 : decide (x.dd = y.dd) = true := by simpa using h2
        have Hh2 := hide h2
        clear h2
        by_cases h3 : x.vl.t = y.vl.t
        · rw [decide_eq_true h3] at hq3
          have Hh3 := hide h3
          clear h3
          by_cases h4 : x.ks.xs.map MB.t = y.ks.xs.map MB.t
          · rw [show decide (x.ks.xs.map MB.t = y.ks.xs.map MB.t) = true from decide_eq_true h4] at HC4
            have Hh4 := hide h4
            clear h4
            have HR : Hid (decide (x.p = y.p) = true) := decide_eq_true (by show ((x.ts, x.tx, x.dd, x.vl.t, x.ks.xs.map MB.t)) = ((y.ts, y.tx, y.dd, y.vl.t, y.ks.xs.map MB.t)); rw [Hh0.out, Hh1.out, Hh2.out, Hh3.out, Hh4.out])
            go_enter Tryz.func73, Tryz.ntmps73
            go_wp2_with (first
              | (go_at_call 109; go_must (refine (HC4.out _ HBn.out).mono ?_ <;> skip); rintro e w7 ⟨rfl, hb⟩; have HBn := hide (HBn.out.trans (hb.mono HBn.out.size)); have HBW := hide (HBW.out.trans (hb.mono HBW.out.size)); clear hb; have hq := two_boxes w #[.int .u64 x.ts, .int .u64 x.tx, .bool x.dd, .slice x.vl.a x.vl.n x.vl.c, .slice x.ks.a x.ks.n x.ks.c] #[.int .u64 y.ts, .int .u64 y.tx, .bool y.dd, .slice y.vl.a y.vl.n y.vl.c, .slice y.ks.a y.ks.n y.ks.c] 135 135 _ HBW.out; have x0w7 : w7.cell? ⟨w.heap.size, 0, none⟩ = some (.int .u64 x.ts) := hq.1 0 _ rfl; have y0w7 : w7.cell? ⟨w.heap.size + 1, 0, none⟩ = some (.int .u64 y.ts) := hq.2 0 _ rfl; have x1w7 : w7.cell? ⟨w.heap.size, 1, none⟩ = some (.int .u64 x.tx) := hq.1 1 _ rfl; have y1w7 : w7.cell? ⟨w.heap.size + 1, 1, none⟩ = some (.int .u64 y.tx) := hq.2 1 _ rfl; have x2w7 : w7.cell? ⟨w.heap.size, 2, none⟩ = some (.bool x.dd) := hq.1 2 _ rfl; have y2w7 : w7.cell? ⟨w.heap.size + 1, 2, none⟩ = some (.bool y.dd) := hq.2 2 _ rfl; have x3w7 : w7.cell? ⟨w.heap.size, 3, none⟩ = some (.slice x.vl.a x.vl.n x.vl.c) := hq.1 3 _ rfl; have y3w7 : w7.cell? ⟨w.heap.size + 1, 3, none⟩ = some (.slice y.vl.a y.vl.n y.vl.c) := hq.2 3 _ rfl; have x4w7 : w7.cell? ⟨w.heap.size, 4, none⟩ = some (.slice x.ks.a x.ks.n x.ks.c) := hq.1 4 _ rfl; have y4w7 : w7.cell? ⟨w.heap.size + 1, 4, none⟩ = some (.slice y.ks.a y.ks.n y.ks.c) := hq.2 4 _ rfl; clear hq))
            go_ret
            exact ⟨by rw [HR.out]; rfl, HBn.out⟩
          · rw [show decide (x.ks.xs.map MB.t = y.ks.xs.map MB.t) = false from decide_eq_false h4] at HC4
            have Hn := hide h4
            clear h4
            have HR : Hid (decide (x.p = y.p) = false) := decide_eq_false (fun e => Hn.out (congrArg (fun t => t.2.2.2.2) (show ((x.ts, x.tx, x.dd, x.vl.t, x.ks.xs.map MB.t)) = ((y.ts, y.tx, y.dd, y.vl.t, y.ks.xs.map MB.t)) from e)))
            go_enter Tryz.func73, Tryz.ntmps73
            go_wp2_with (first
              | (go_at_call 109; go_must (refine (HC4.out _ HBn.out).mono ?_ <;> skip); rintro e w7 ⟨rfl, hb⟩; have HBn := hide (HBn.out.trans (hb.mono HBn.out.size)); have HBW := hide (HBW.out.trans (hb.mono HBW.out.size)); clear hb; have hq := two_boxes w #[.int .u64 x.ts, .int .u64 x.tx, .bool x.dd, .slice x.vl.a x.vl.n x.vl.c, .slice x.ks.a x.ks.n x.ks.c] #[.int .u64 y.ts, .int .u64 y.tx, .bool y.dd, .slice y.vl.a y.vl.n y.vl.c, .slice y.ks.a y.ks.n y.ks.c] 135 135 _ HBW.out; have x0w7 : w7.cell? ⟨w.heap.size, 0, none⟩ = some (.int .u64 x.ts) := hq.1 0 _ rfl; have y0w7 : w7.cell? ⟨w.heap.size + 1, 0, none⟩ = some (.int .u64 y.ts) := hq.2 0 _ rfl; have x1w7 : w7.cell? ⟨w.heap.size, 1, none⟩ = some (.int .u64 x.tx) := hq.1 1 _ rfl; have y1w7 : w7.cell? ⟨w.heap.size + 1, 1, none⟩ = some (.int .u64 y.tx) := hq.2 1 _ rfl; have x2w7 : w7.cell? ⟨w.heap.size, 2, none⟩ = some (.bool x.dd) := hq.1 2 _ rfl; have y2w7 : w7.cell? ⟨w.heap.size + 1, 2, none⟩ = some (.bool y.dd) := hq.2 2 _ rfl; have x3w7 : w7.cell? ⟨w.heap.size, 3, none⟩ = some (.slice x.vl.a x.vl.n x.vl.c) := hq.1 3 _ rfl; have y3w7 : w7.cell? ⟨w.heap.size + 1, 3, none⟩ = some (.slice y.vl.a y.vl.n y.vl.c) := hq.2 3 _ rfl; have x4w7 : w7.cell? ⟨w.heap.size, 4, none⟩ = some (.slice x.ks.a x.ks.n x.ks.c) := hq.1 4 _ rfl; have y4w7 : w7.cell? ⟨w.heap.size + 1, 4, none⟩ = some (.slice y.ks.a y.ks.n y.ks.c) := hq.2 4 _ rfl; clear hq))
            go_ret
            exact ⟨by rw [HR.out]; rfl, HBn.out⟩
        · rw [decide_eq_false h3] at hq3
          have Hn := hide h3
          clear h3
          have HR : Hid (decide (x.p = y.p) = false) := decide_eq_false (fun e => Hn.out (congrArg (fun t => t.2.2.2.1) (show ((x.ts, x.tx, x.dd, x.vl.t, x.ks.xs.map MB.t)) = ((y.ts, y.tx, y.dd, y.vl.t, y.ks.xs.map MB.t)) from e)))
          go_enter Tryz.func73, Tryz.ntmps73
          go_wp2_with (first
            | (go_at_call 109; go_must (refine (HC4.out _ HBn.out).mono ?_ <;> skip); rintro e w7 ⟨rfl, hb⟩; have HBn := hide (HBn.out.trans (hb.mono HBn.out.size)); have HBW := hide (HBW.out.trans (hb.mono HBW.out.size)); clear hb; have hq := two_boxes w #[.int .u64 x.ts, .int .u64 x.tx, .bool x.dd, .slice x.vl.a x.vl.n x.vl.c, .slice x.ks.a x.ks.n x.ks.c] #[.int .u64 y.ts, .int .u64 y.tx, .bool y.dd, .slice y.vl.a y.vl.n y.vl.c, .slice y.ks.a y.ks.n y.ks.c] 135 135 _ HBW.out; have x0w7 : w7.cell? ⟨w.heap.size, 0, none⟩ = some (.int .u64 x.ts) := hq.1 0 _ rfl; have y0w7 : w7.cell? ⟨w.heap.size + 1, 0, none⟩ = some (.int .u64 y.ts) := hq.2 0 _ rfl; have x1w7 : w7.cell? ⟨w.heap.size, 1, none⟩ = some (.int .u64 x.tx) := hq.1 1 _ rfl; have y1w7 : w7.cell? ⟨w.heap.size + 1, 1, none⟩ = some (.int .u64 y.tx) := hq.2 1 _ rfl; have x2w7 : w7.cell? ⟨w.heap.size, 2, none⟩ = some (.bool x.dd) := hq.1 2 _ rfl; have y2w7 : w7.cell? ⟨w.heap.size + 1, 2, none⟩ = some (.bool y.dd) := hq.2 2 _ rfl; have x3w7 : w7.cell? ⟨w.heap.size, 3, none⟩ = some (.slice x.vl.a x.vl.n x.vl.c) := hq.1 3 _ rfl; have y3w7 : w7.cell? ⟨w.heap.size + 1, 3, none⟩ = some (.slice y.vl.a y.vl.n y.vl.c) := hq.2 3 _ rfl; have x4w7 : w7.cell? ⟨w.heap.size, 4, none⟩ = some (.slice x.ks.a x.ks.n x.ks.c) := hq.1 4 _ rfl; have y4w7 : w7.cell? ⟨w.heap.size + 1, 4, none⟩ = some (.slice y.ks.a y.ks.n y.ks.c) := hq.2 4 _ rfl; clear hq))
          go_ret
          exact ⟨by rw [HR.out]; rfl, HBn.out⟩
      · have d2 : (x.dd == y.dd) = false := by simpa using h2
        have c2 : decide (x.dd = y.dd) = false := by simpa using h2
        have Hn := hide h2
        clear h2
        have HR : Hid (decide (x.p = y.p) = false) := decide_eq_false (fun e => Hn.out (congrArg (fun t => t.2.2.1) (show ((x.ts, x.tx, x.dd, x.vl.t, x.ks.xs.map MB.t)) = ((y.ts, y.tx, y.dd, y.vl.t, y.ks.xs.map MB.t)) from e)))
        go_enter Tryz.func73, Tryz.ntmps73
        go_wp2_with (first
          | (go_at_call 109; go_must (refine (HC4.out _ HBn.out).mono ?_ <;> skip); rintro e w7 ⟨rfl, hb⟩; have HBn := hide (HBn.out.trans (hb.mono HBn.out.size)); have HBW := hide (HBW.out.trans (hb.mono HBW.out.size)); clear hb; have hq := two_boxes w #[.int .u64 x.ts, .int .u64 x.tx, .bool x.dd, .slice x.vl.a x.vl.n x.vl.c, .slice x.ks.a x.ks.n x.ks.c] #[.int .u64 y.ts, .int .u64 y.tx, .bool y.dd, .slice y.vl.a y.vl.n y.vl.c, .slice y.ks.a y.ks.n y.ks.c] 135 135 _ HBW.out; have x0w7 : w7.cell? ⟨w.heap.size, 0, none⟩ = some (.int .u64 x.ts) := hq.1 0 _ rfl; have y0w7 : w7.cell? ⟨w.heap.size + 1, 0, none⟩ = some (.int .u64 y.ts) := hq.2 0 _ rfl; have x1w7 : w7.cell? ⟨w.heap.size, 1, none⟩ = some (.int .u64 x.tx) := hq.1 1 _ rfl; have y1w7 : w7.cell? ⟨w.heap.size + 1, 1, none⟩ = some (.int .u64 y.tx) := hq.2 1 _ rfl; have x2w7 : w7.cell? ⟨w.heap.size, 2, none⟩ = some (.bool x.dd) := hq.1 2 _ rfl; have y2w7 : w7.cell? ⟨w.heap.size + 1, 2, none⟩ = some (.bool y.dd) := hq.2 2 _ rfl; have x3w7 : w7.cell? ⟨w.heap.size, 3, none⟩ = some (.slice x.vl.a x.vl.n x.vl.c) := hq.1 3 _ rfl; have y3w7 : w7.cell? ⟨w.heap.size + 1, 3, none⟩ = some (.slice y.vl.a y.vl.n y.vl.c) := hq.2 3 _ rfl; have x4w7 : w7.cell? ⟨w.heap.size, 4, none⟩ = some (.slice x.ks.a x.ks.n x.ks.c) := hq.1 4 _ rfl; have y4w7 : w7.cell? ⟨w.heap.size + 1, 4, none⟩ = some (.slice y.ks.a y.ks.n y.ks.c) := hq.2 4 _ rfl; clear hq))
        go_ret
        exact ⟨by rw [HR.out]; rfl, HBn.out⟩
    · have d1 : (x.tx == y.tx) = false := by simpa using h1
      have c1 : decide (x.tx = y.tx) = false := by simpa using h1
      have Hn := hide h1
      clear h1
      have HR : Hid (decide (x.p = y.p) = false) := decide_eq_false (fun e => Hn.out (congrArg (fun t => t.2.1) (show ((x.ts, x.tx, x.dd, x.vl.t, x.ks.xs.map MB.t)) = ((y.ts, y.tx, y.dd, y.vl.t, y.ks.xs.map MB.t)) from e)))
      go_enter Tryz.func73, Tryz.ntmps73
      go_wp2_with (first
        | (go_at_call 109; go_must (refine (HC4.out _ HBn.out).mono ?_ <;> skip); rintro e w7 ⟨rfl, hb⟩; have HBn := hide (HBn.out.trans (hb.mono HBn.out.size)); have HBW := hide (HBW.out.trans (hb.mono HBW.out.size)); clear hb; have hq := two_boxes w #[.int .u64 x.ts, .int .u64 x.tx, .bool x.dd, .slice x.vl.a x.vl.n x.vl.c, .slice x.ks.a x.ks.n x.ks.c] #[.int .u64 y.ts, .int .u64 y.tx, .bool y.dd, .slice y.vl.a y.vl.n y.vl.c, .slice y.ks.a y.ks.n y.ks.c] 135 135 _ HBW.out; have x0w7 : w7.cell? ⟨w.heap.size, 0, none⟩ = some (.int .u64 x.ts) := hq.1 0 _ rfl; have y0w7 : w7.cell? ⟨w.heap.size + 1, 0, none⟩ = some (.int .u64 y.ts) := hq.2 0 _ rfl; have x1w7 : w7.cell? ⟨w.heap.size, 1, none⟩ = some (.int .u64 x.tx) := hq.1 1 _ rfl; have y1w7 : w7.cell? ⟨w.heap.size + 1, 1, none⟩ = some (.int .u64 y.tx) := hq.2 1 _ rfl; have x2w7 : w7.cell? ⟨w.heap.size, 2, none⟩ = some (.bool x.dd) := hq.1 2 _ rfl; have y2w7 : w7.cell? ⟨w.heap.size + 1, 2, none⟩ = some (.bool y.dd) := hq.2 2 _ rfl; have x3w7 : w7.cell? ⟨w.heap.size, 3, none⟩ = some (.slice x.vl.a x.vl.n x.vl.c) := hq.1 3 _ rfl; have y3w7 : w7.cell? ⟨w.heap.size + 1, 3, none⟩ = some (.slice y.vl.a y.vl.n y.vl.c) := hq.2 3 _ rfl; have x4w7 : w7.cell? ⟨w.heap.size, 4, none⟩ = some (.slice x.ks.a x.ks.n x.ks.c) := hq.1 4 _ rfl; have y4w7 : w7.cell? ⟨w.heap.size + 1, 4, none⟩ = some (.slice y.ks.a y.ks.n y.ks.c) := hq.2 4 _ rfl; clear hq))
      go_ret
      exact ⟨by rw [HR.out]; rfl, HBn.out⟩
  · have d0 : (x.ts == y.ts) = false := by simpa using h0
    have c0 : decide (x.ts = y.ts) = false := by simpa using h0
    have Hn := hide h0
    clear h0
    have HR : Hid (decide (x.p = y.p) = false) := decide_eq_false (fun e => Hn.out (congrArg (fun t => t.1) (show ((x.ts, x.tx, x.dd, x.vl.t, x.ks.xs.map MB.t)) = ((y.ts, y.tx, y.dd, y.vl.t, y.ks.xs.map MB.t)) from e)))
    go_enter Tryz.func73, Tryz.ntmps73
    go_wp2_with (first
      | (go_at_call 109; go_must (refine (HC4.out _ HBn.out).mono ?_ <;> skip); rintro e w7 ⟨rfl, hb⟩; have HBn := hide (HBn.out.trans (hb.mono HBn.out.size)); have HBW := hide (HBW.out.trans (hb.mono HBW.out.size)); clear hb; have hq := two_boxes w #[.int .u64 x.ts, .int .u64 x.tx, .bool x.dd, .slice x.vl.a x.vl.n x.vl.c, .slice x.ks.a x.ks.n x.ks.c] #[.int .u64 y.ts, .int .u64 y.tx, .bool y.dd, .slice y.vl.a y.vl.n y.vl.c, .slice y.ks.a y.ks.n y.ks.c] 135 135 _ HBW.out; have x0w7 : w7.cell? ⟨w.heap.size, 0, none⟩ = some (.int .u64 x.ts) := hq.1 0 _ rfl; have y0w7 : w7.cell? ⟨w.heap.size + 1, 0, none⟩ = some (.int .u64 y.ts) := hq.2 0 _ rfl; have x1w7 : w7.cell? ⟨w.heap.size, 1, none⟩ = some (.int .u64 x.tx) := hq.1 1 _ rfl; have y1w7 : w7.cell? ⟨w.heap.size + 1, 1, none⟩ = some (.int .u64 y.tx) := hq.2 1 _ rfl; have x2w7 : w7.cell? ⟨w.heap.size, 2, none⟩ = some (.bool x.dd) := hq.1 2 _ rfl; have y2w7 : w7.cell? ⟨w.heap.size + 1, 2, none⟩ = some (.bool y.dd) := hq.2 2 _ rfl; have x3w7 : w7.cell? ⟨w.heap.size, 3, none⟩ = some (.slice x.vl.a x.vl.n x.vl.c) := hq.1 3 _ rfl; have y3w7 : w7.cell? ⟨w.heap.size + 1, 3, none⟩ = some (.slice y.vl.a y.vl.n y.vl.c) := hq.2 3 _ rfl; have x4w7 : w7.cell? ⟨w.heap.size, 4, none⟩ = some (.slice x.ks.a x.ks.n x.ks.c) := hq.1 4 _ rfl; have y4w7 : w7.cell? ⟨w.heap.size + 1, 4, none⟩ = some (.slice y.ks.a y.ks.n y.ks.c) := hq.2 4 _ rfl; clear hq))
    go_ret
    exact ⟨by rw [HR.out]; rfl, HBn.out⟩

end Go.Proofs.YtcgiicmmfleinaaGreatDoor
