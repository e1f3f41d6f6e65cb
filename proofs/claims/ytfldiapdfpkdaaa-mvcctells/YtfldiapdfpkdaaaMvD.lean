/- The reference's At. -/
import Derived.Test.YtfldiapdfpkdaaaMw2
namespace Go.Proofs.Ytfldiapdfpkdaaa
open Go.RowKit NumMath Go.ChangeShapes Go.WideShapes Go.Deep
set_option linter.unusedVariables false
set_option maxRecDepth 100000

/-- the latest version up to a time -/
def atV {α : Type} (tv : α → Int) (ts : Int) (vs : List α) : Option α := vs.find? (fun v => decide (tv v ≤ ts))

/-- a key's -/
def atC (st : List Cel) (key : List Int) (ts : Int) : Option Ver := if isAt st key = true then (match st[plc st key]? with
  | some c => atV Ver.ts ts c.vs
  | none => none) else none

theorem atV_map {α β : Type} (f : α → β) (ta : α → Int) (tb : β → Int) (h : ∀ x, tb (f x) = ta x) (ts : Int) (vs : List α) : atV tb ts (vs.map f) = (atV ta ts vs).map f := by
  unfold atV
  rw [List.find?_map]
  congr 1
  · simp [Function.comp_def, h]

theorem atV_none {α : Type} (tv : α → Int) (ts : Int) (vs : List α) (h : ∀ (i : Nat) x, vs[i]? = some x → ¬ tv x ≤ ts) : atV tv ts vs = none := by
  unfold atV
  rw [List.find?_eq_none]
  intro x hx
  obtain ⟨i, hi⟩ := List.getElem?_of_mem hx
  simpa using h i x hi

theorem atV_at {α : Type} (tv : α → Int) (ts : Int) : ∀ (vs : List α) (j : Nat) (x : α), vs[j]? = some x → tv x ≤ ts → (∀ (i : Nat) y, i < j → vs[i]? = some y → ¬ tv y ≤ ts) → atV tv ts vs = some x := by
  intro vs
  induction vs with
  | nil => intro j x h; simp at h
  | cons v r ih =>
    intro j x h1 h2 h3
    unfold atV
    rw [List.find?_cons]
    cases j with
    | zero =>
      simp at h1
      subst h1
      simp [h2]
    | succ j =>
      have := h3 0 v (by omega) rfl
      rw [decide_eq_false this]
      exact ih j x (by simpa using h1) h2 (fun i y hi hy => h3 (i + 1) y (by omega) (by simpa using hy))

/-- what At answers -/
def AtPost (w0 w : World) (r : Option Ver) (e : Ending) (w' : World) : Prop :=
  ∃ m : MV, e = .returned (.tuple #[.agg (cellsV m), .bool r.isSome]) ∧ m.ok w0 ∧ m.v = r.getD ver0 ∧ Below w.heap.size w w'

theorem boxZ_new (w : World) : (w.alloc (.cells #[.int .u64 0, .int .u64 0, .bool false, .slice none 0 0, .slice none 0 0] 36)).rangeAt w.heap.size 0 (layV.cells mv0) := rangeY_new w w.heap.size _ _ rfl

/-- a version laid in the place of another one -/
theorem resV {w : World} {N : Nat} {m : MV} (h : w.rangeAt N 0 (layV.cells m)) (hf : ∀ j, w.frozen? ⟨N, j, none⟩ = false) (m' : MV) : (w.setCells N 0 (layV.cells m')).rangeAt N 0 (layV.cells m') := by
  refine World.rangeAt_setCells_same w N 0 (layV.cells m') (fun j hj => ⟨?_, hf _⟩)
  have hj' : j < (layV.cells m).length := hj
  rw [h j _ (List.getElem?_eq_getElem hj')]
  rfl

set_option maxHeartbeats 4000000 in
theorem at_any (F : Nat → Prop) (w0 w : World) (p : Nat) (cv : Value) (ms : List MC) (h : IsXs F w0 w p cv ms) (a : Option Addr) (n c : Nat) (key : List Int) (hk : IsBytes w a n c key) (ts : Int) :
    Calls Try.prog 14 #[.pointer (some ⟨p, 0, none⟩), .slice a n c, .int .u64 ts] w fun e w' => AtPost w0 w (atC (ms.map MC.c) key ts) e w' := by
  have hb0 := new_below w (.cells #[.int .u64 0, .int .u64 0, .bool false, .slice none 0 0, .slice none 0 0] 36)
  have HB0 := hide hb0
  have HPl := hide (place_any F w0 _ p cv ms (h.keep hb0) a n c key (hk.keep hb0))
  have HZ := hide (boxZ_new w)
  have HZs : Hid (w.heap.size < (w.alloc (.cells #[.int .u64 0, .int .u64 0, .bool false, .slice none 0 0, .slice none 0 0] 36)).heap.size) := by show _ < _; simp
  cases hz : isAt (ms.map MC.c) key
  · have HE : Hid (atC (ms.map MC.c) key ts = none) := by show _ = _; unfold atC; rw [hz]; rfl
    rw [hz] at HPl
    clear h hk hz hb0
    go_enter Try.func14, Try.ntmps14
    go_wp2_with (first
      | (go_at_call 42; go_must (refine HPl.out.mono ?_); rintro e w1 ⟨rfl, hb1⟩; have HB1 := hide hb1; have HZ1 := hide (rangeY_same HZ.out (hb1.block _ HZs.out)); obtain ⟨z0, z1, z2, z3, z4⟩ := rangeV HZ1.out; have hfz := fun j => (hb1.frozen (p := ⟨w.heap.size, j, none⟩) HZs.out).trans (fzY_new w _ _ j); clear hb1))
    change bodyPost _ _ _ _ _ (w1.setCells w.heap.size 0 (layV.cells mv0))
    obtain ⟨r0, r1, r2, r3, r4⟩ := rangeV (resV HZ1.out hfz mv0)
    have hk2 := keepsYs w1 w.heap.size 0 (layV.cells mv0)
    have hs1 := HB1.out.size
    generalize w1.setCells w.heap.size 0 (layV.cells mv0) = W at *
    refine bodyPost_ret (v := .tuple #[.agg (cellsV mv0), .bool false]) (by simp [results, Try.results14, go_sem, r0, r1, r2, r3, r4]) rfl ?_
    exact ⟨mv0, by rw [HE.out]; rfl, mv0_ok w0, by rw [HE.out]; rfl, (HB0.out.trans (HB1.out.mono HB0.out.size)).trans (hk2.below (Nat.le_trans HB0.out.size hs1) (fun k e => by rw [e]; exact Nat.le_refl _))⟩
  · obtain ⟨d, hd, _⟩ := isAt_some hz
    have hd' := hd
    rw [List.getElem?_map] at hd'
    obtain ⟨m2, hm2, hmc⟩ := Option.map_eq_some_iff.1 hd'
    have HE : Hid (atC (ms.map MC.c) key ts = (atV tsM ts m2.vs).map MV.v) := by
      show _ = _
      unfold atC
      rw [hz, if_pos rfl, hd, ← hmc]
      exact atV_map MV.v tsM Ver.ts (fun _ => rfl) ts m2.vs
    have hok := h.ok m2 (List.mem_of_getElem? hm2)
    have HVo := hide hok.vok
    have HVs := hide hok.vs
    have hvn := hok.vs.1
    have hvcI : (m2.vc : Int) ≤ 9223372036854775807 := by have := hok.vs.2.2.1; unfold maxLen at this; omega
    have hvle := hok.vs.2.1
    have hil : (plc (ms.map MC.c) key : Int) < (ms.length : Int) := by have := (List.getElem?_eq_some_iff.1 hm2).1; omega
    obtain ⟨g, cap, rfl, hg, hcap, hmx, hr, _⟩ := h.at hm2
    have hcapI : (cap : Int) ≤ 9223372036854775807 := by unfold maxLen at hmx; omega
    have HC0 := hide (fun W (hW : Below w.heap.size w W) => (h.keep hW).c)
    have HX1 : Hid (∀ W, Below w.heap.size w W → W.cell? ⟨g, plc (ms.map MC.c) key * 7 + 1, none⟩ = some (.slice m2.va m2.vn m2.vc)) := fun W hW => ((hW.cell (p := ⟨g, plc (ms.map MC.c) key * 7 + 1, none⟩) hg).trans (hr 1 _ rfl))
    rw [hz] at HPl
    clear h hk hz hb0 hd hd' hmc hr hok
    go_enter Try.func14, Try.ntmps14
    go_wp2_with (first
      | (go_at_call 42; go_must (refine HPl.out.mono ?_); rintro e w1 ⟨rfl, hb1⟩; have HB1 := hide hb1; have HZ1 := hide (rangeY_same HZ.out (hb1.block _ HZs.out)); obtain ⟨z0, z1, z2, z3, z4⟩ := rangeV HZ1.out; have hfz := fun j => (hb1.frozen (p := ⟨w.heap.size, j, none⟩) HZs.out).trans (fzY_new w _ _ j); clear hb1; have HB01 := hide (HB0.out.trans (HB1.out.mono HB0.out.size)); have cp1 := HC0.out _ HB01.out; have x11 := HX1.out _ HB01.out))
    clear z0 z1 z2 z3 z4
    go_loopg [28] m2.vn (fun gk ix wr => ∃ j : Nat, gk = m2.vn - j ∧ ix = .int .i64 j ∧ j ≤ m2.vn ∧ (∀ (i : Nat) y, i < j → m2.vs[i]? = some y → ¬ tsM y ≤ ts) ∧ Below w1.heap.size w1 wr)
    case atStart => exact ⟨0, rfl, rfl, Nat.zero_le _, (fun i y hi => by omega), Below.refl _ _⟩
    case round =>
      obtain ⟨j, rfl, rfl, hj, hno, hB⟩ := hrel
      have HNo := hide hno
      have HB := hide hB
      have hNlt : w.heap.size < w1.heap.size := Nat.lt_of_lt_of_le HZs.out HB1.out.size
      have HZr := hide (rangeY_same HZ1.out (hB.block _ hNlt))
      have hfr := fun j => (hB.frozen (p := ⟨w.heap.size, j, none⟩) hNlt).trans (hfz j)
      obtain ⟨z0, z1, z2, z3, z4⟩ := rangeV HZr.out
      have hwr := hB.size
      have HBw := hide (HB01.out.trans (hB.mono HB01.out.size))
      clear hno hB
      by_cases hjl : j < m2.vn
      · have hjI : (j : Int) < (m2.vn : Int) := by omega
        obtain ⟨x, hx⟩ : ∃ x, m2.vs[j]? = some x := ⟨_, List.getElem?_eq_getElem (by omega)⟩
        obtain ⟨gv, ov, hva, hgv, hCv⟩ := HVs.out.at hjl
        have hgv' : gv < wr.heap.size := Nat.lt_of_lt_of_le hgv HBw.out.size
        obtain ⟨x0, x1, x2, x3, x4⟩ := rangeV (rangeY_same (hCv j x hx) (HBw.out.block gv hgv))
        have x0' : wr.cell? ⟨gv, ov + j * 5, none⟩ = some (.int .u64 x.v.ts) := x0
        have x1' : wr.cell? ⟨gv, ov + j * 5 + 1, none⟩ = some (.int .u64 x.v.tx) := x1
        have x2' : wr.cell? ⟨gv, ov + j * 5 + 2, none⟩ = some (.bool x.v.dd) := x2
        have x3' : wr.cell? ⟨gv, ov + j * 5 + 3, none⟩ = some (.slice x.va x.vn x.vc) := x3
        have x4' : wr.cell? ⟨gv, ov + j * 5 + 4, none⟩ = some (.slice x.ka x.kn x.kc) := x4
        have hNr : w.heap.size < wr.heap.size := by omega
        have hn1 : ¬ w.heap.size = wr.heap.size := by omega
        have hn2 : ¬ wr.heap.size = w.heap.size := by omega
        clear x0 x1 x2 x3 x4 hCv
        rw [hva]
        by_cases hle : x.v.ts ≤ ts
        · have HE2 : Hid (atC (ms.map MC.c) key ts = some x.v) := by show _ = _; rw [HE.out, atV_at tsM ts m2.vs j x hx hle HNo.out]; rfl
          go_wp2
          change bodyPost _ _ _ _ _ ((wr.setCells w.heap.size 0 (layV.cells x)).alloc (.cells (cellsV x) 36))
          have hk2 := keepsYs wr w.heap.size 0 (layV.cells x)
          have hszs := setYs_size w.heap.size (layV.cells x) 0 wr
          obtain ⟨r0, r1, r2, r3, r4⟩ := rangeV (rangeY_same (resV HZr.out hfr x) ((new_below (wr.setCells w.heap.size 0 (layV.cells x)) (.cells (cellsV x) 36)).block w.heap.size (by rw [hszs]; omega)))
          have hbW : Below w.heap.size w ((wr.setCells w.heap.size 0 (layV.cells x)).alloc (.cells (cellsV x) 36)) := (HBw.out.trans (hk2.below HBw.out.size (fun k e => by rw [e]; exact Nat.le_refl _))).trans ((new_below _ _).mono (by rw [hszs]; exact HBw.out.size))
          generalize (wr.setCells w.heap.size 0 (layV.cells x)).alloc (.cells (cellsV x) 36) = W at *
          refine bodyPost_ret (v := .tuple #[.agg (cellsV x), .bool true]) (by simp [results, Try.results14, go_sem, r0, r1, r2, r3, r4]) rfl ?_
          exact ⟨x, by rw [HE2.out]; rfl, HVo.out x (List.mem_of_getElem? hx), by rw [HE2.out]; rfl, hbW⟩
        · go_wp2
          rw [← hva]
          go_roundg (m2.vn - (j + 1))
          case measure => omega
          case rel => exact ⟨j + 1, rfl, by go_num, by omega, (fun i y hi hy => by
            by_cases e : i = j
            · subst e; rw [hx] at hy; cases hy; exact hle
            · exact HNo.out i y (by omega) hy), HB.out.trans ((new_below _ _).mono hwr)⟩
      · have hjI : ¬ (j : Int) < (m2.vn : Int) := by omega
        have HE2 : Hid (atC (ms.map MC.c) key ts = none) := by
          show _ = _
          rw [HE.out, atV_none tsM ts m2.vs (fun i y hy => HNo.out i y (by have := (List.getElem?_eq_some_iff.1 hy).1; omega) hy)]
          rfl
        go_wp2
        change bodyPost _ _ _ _ _ (wr.setCells w.heap.size 0 (layV.cells mv0))
        obtain ⟨r0, r1, r2, r3, r4⟩ := rangeV (resV HZr.out hfr mv0)
        have hk2 := keepsYs wr w.heap.size 0 (layV.cells mv0)
        generalize wr.setCells w.heap.size 0 (layV.cells mv0) = W at *
        refine bodyPost_ret (v := .tuple #[.agg (cellsV mv0), .bool false]) (by simp [results, Try.results14, go_sem, r0, r1, r2, r3, r4]) rfl ?_
        exact ⟨mv0, by rw [HE2.out]; rfl, mv0_ok w0, by rw [HE2.out]; rfl, HBw.out.trans (hk2.below HBw.out.size (fun k e => by rw [e]; exact Nat.le_refl _))⟩

end Go.Proofs.Ytfldiapdfpkdaaa
