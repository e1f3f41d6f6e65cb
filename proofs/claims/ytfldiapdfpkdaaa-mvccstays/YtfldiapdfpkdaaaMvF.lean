/- The reference's Scan. -/
import Derived.Test.YtfldiapdfpkdaaaMvE
namespace Go.Proofs.Ytfldiapdfpkdaaa
open Go.RowKit NumMath Go.ChangeShapes Go.WideShapes Go.Deep
set_option linter.unusedVariables false
set_option maxRecDepth 100000

/-- a key's versions up to a time -/
def upTo (ts : Int) (vs : List Ver) : List Ver := vs.filter (fun v => decide (v.ts ≤ ts))

def seenC (lo hi : List Int) (c : Cel) : Bool := withinB c.key lo hi && (decide (c.vs.length > 0) || decide (c.it.tx ≠ 0))

/-- cells within bounds, up to a time -/
def scanC (lo hi : List Int) (ts : Int) (st : List Cel) : List Cel := (st.map (setVs (upTo ts))).filter (seenC lo hi)

theorem scanC_succ (lo hi : List Int) (ts : Int) (st : List Cel) (k : Nat) (c : Cel) (h : st[k]? = some c) : scanC lo hi ts (st.take (k + 1)) = scanC lo hi ts (st.take k) ++ if seenC lo hi (setVs (upTo ts) c) = true then [setVs (upTo ts) c] else [] := by
  unfold scanC
  rw [List.take_add_one, h, List.map_append, List.filter_append]
  simp [List.filter_cons]

/-- a cell in a block of its own, that may be written -/
structure BoxC (w : World) (N : Nat) (m : MC) : Prop where
  r : w.rangeAt N 0 (layC.cells m)
  lt : N < w.heap.size
  fz : ∀ j, w.frozen? ⟨N, j, none⟩ = false

theorem boxC_new (w : World) (m : MC) : BoxC (w.alloc (.cells (cellsC m) 52)) w.heap.size m := ⟨rangeY_new w w.heap.size _ _ rfl, by simp, fun j => fzY_new w _ _ j⟩

theorem BoxC.keep {w w' : World} {N : Nat} {m : MC} (h : BoxC w N m) (hb : Below w.heap.size w w') : BoxC w' N m := ⟨rangeY_same h.r (hb.block N h.lt), Nat.lt_of_lt_of_le h.lt hb.size, fun j => (hb.frozen (p := ⟨N, j, none⟩) h.lt).trans (h.fz j)⟩

theorem BoxC.after {w w' : World} {N : Nat} {m : MC} {M : Nat → Prop} (h : BoxC w N m) (hk : Keeps M w w') (hn : ¬ M N) : BoxC w' N m := ⟨rangeY_same h.r (hk.block N h.lt hn), Nat.lt_of_lt_of_le h.lt hk.size, fun j => (World.frozen?_of_block (a := ⟨N, j, none⟩) (hk.block N h.lt hn)).trans (h.fz j)⟩

theorem BoxC.setVs {w : World} {N : Nat} {m : MC} (h : BoxC w N m) (vs : List MV) (a : Option Addr) (n c : Nat) : BoxC (w.setCell ⟨N, 1, none⟩ (.slice a n c)) N { m with vs := vs, va := a, vn := n, vc := c } := by
  refine ⟨fun j u hj => ?_, by simp [World.setCell]; exact h.lt, fun j => by simp; exact h.fz j⟩
  have hs : layC.cells { m with vs := vs, va := a, vn := n, vc := c } = (layC.cells m).set 1 (.slice a n c) := rfl
  rw [hs, List.getElem?_set] at hj
  rw [Nat.zero_add]
  by_cases e : 1 = j
  · subst e
    rw [if_pos rfl, if_pos (by rw [layC.len]; decide)] at hj
    cases hj
    have hc := h.r 1 _ rfl
    rw [Nat.zero_add] at hc
    exact World.cell?_setCell_same _ _ _ hc
  · rw [if_neg e] at hj
    have hc := h.r j u hj
    rw [Nat.zero_add] at hc
    rw [cell_offY e]
    exact hc

theorem upTo_map (ts : Int) (vs : List MV) : (vs.filter (fun v => decide (tsM v ≤ ts))).map MV.v = upTo ts (vs.map MV.v) := by
  unfold upTo
  rw [List.filter_map]
  rfl

def MC.scan (ts : Int) (m : MC) : Cel := setVs (upTo ts) m.c

/-- an answer of cells, the list v: they may be read, and lie outside the list's own block -/
def CellsOk (w0 w : World) (v : Value) (mcs : List MC) : Prop := ∀ m ∈ mcs, m.ok w0 (fun k => v.ownBlock = some k) w

theorem CellsOk.keep {w0 w w' : World} {v : Value} {mcs : List MC} (h : CellsOk w0 w v mcs) (hb : Below w.heap.size w w') : CellsOk w0 w' v mcs := fun m hm => (h m hm).keep hb

theorem CellsOk.app {w0 w w' : World} {v v' : Value} {mcs : List MC} {mx : MC} (h : CellsOk w0 w v mcs) (hx : mx.ok w0 (fun k => v.ownBlock = some k) w) (hg : w.grownBy w' v.ownBlock) (ha : AtB w v v') : CellsOk w0 w' v' (mcs ++ [mx]) := by
  have one : ∀ m : MC, m.ok w0 (fun k => v.ownBlock = some k) w → m.ok w0 (fun k => v'.ownBlock = some k) w' := by
    intro m hm
    have h1 : m.ok w0 (fun k => v.ownBlock = some k ∨ v'.ownBlock = some k) w := hm.more (fun k hk => by
      rcases hk with hk | hk
      · exact .inl hk
      · rcases ha with e | ⟨g, e, hle⟩
        · exact .inl (e ▸ hk)
        · rw [e] at hk; cases hk; exact .inr hle)
    exact (h1.lies ((Keeps.ofGrown hg).wider (fun k hk => .inl hk))).more (fun k hk => .inl (.inr hk))
  intro m hm
  rcases List.mem_append.1 hm with h1 | h1
  · exact one m (h m h1)
  · rw [List.mem_singleton.1 h1]; exact one mx hx

set_option maxHeartbeats 8000000 in
theorem scan_any (F : Nat → Prop) (w0 w : World) (p : Nat) (cv : Value) (ms : List MC) (h : IsXs F w0 w p cv ms) (hf : ms.length ≤ 100000) (hfv : ∀ m ∈ ms, m.vs.length ≤ 100000) (la : Option Addr) (ln lc : Nat) (lo : List Int) (hlo : IsBytes w la ln lc lo) (ha : Option Addr) (hn hc : Nat) (hi : List Int) (hhi : IsBytes w ha hn hc hi) (ts : Int) :
    Calls Try.prog 12 #[.pointer (some ⟨p, 0, none⟩), .slice la ln lc, .slice ha hn hc, .int .u64 ts] w fun e w' => ∃ v mcs, e = .returned v ∧ OwnY layC w' w.heap.size v mcs ∧ CellsOk w0 w' v mcs ∧ mcs.map MC.c = scanC lo hi ts (ms.map MC.c) ∧ Below w.heap.size w w' := by
  have H := hide h
  have c0 := h.c
  have HLo := hide hlo
  have HHi := hide hhi
  have HFv := hide hfv
  obtain ⟨ca, cn, cc, rfl⟩ := h.own.any3
  have hcn := h.own.len
  have hcc : (cc : Int) ≤ 9223372036854775807 := by have := hcn.2.2; unfold maxLen at this; omega
  clear h hlo hhi hfv
  go_enter Try.func12, Try.ntmps12
  go_wp2
  go_loopg [9, 20] cn (fun gk v ix wr => ∃ (k : Nat) (mcs : List MC), gk = cn - k ∧ ix = .int .i64 k ∧ k ≤ cn ∧ OwnY layC wr w.heap.size v mcs ∧ CellsOk w0 wr v mcs ∧ mcs.map MC.c = scanC lo hi ts ((ms.map MC.c).take k) ∧ mcs.length ≤ k ∧ Below w.heap.size w wr)
  case atStart => exact ⟨0, [], rfl, rfl, Nat.zero_le _, ownY_nil _ _, (fun m hm => by cases hm), by simp [scanC], Nat.zero_le _, Below.refl _ _⟩
  case round =>
    obtain ⟨k, mcs, rfl, rfl, hk, hU, hOk, hEq, hml, hB⟩ := hrel
    have HU := hide hU
    have HOk := hide hOk
    have HEq := hide hEq
    have HB := hide hB
    obtain ⟨oa, on, oc, rfl⟩ := hU.any3
    clear hU hOk hEq hB
    by_cases hlt : k < cn
    · have hltI : (k : Int) < (cn : Int) := by omega
      obtain ⟨m, hm⟩ : ∃ m, ms[k]? = some m := ⟨_, List.getElem?_eq_getElem (by omega)⟩
      have hst : (ms.map MC.c)[k]? = some m.c := by rw [List.getElem?_map, hm]; rfl
      have HSc := hide (scanC_succ lo hi ts (ms.map MC.c) k m.c hst)
      obtain ⟨wq, hwq⟩ : ∃ wq, wq = wr := ⟨wr, rfl⟩
      subst hwq
      have hok := (H.out.keep HB.out).ok m (List.mem_of_getElem? hm)
      obtain ⟨g, cap, e, hg, hcap, hmx, hr, _⟩ := (H.out.keep HB.out).at hm
      cases e
      obtain ⟨x0, x1, x2, x3, x4, x5, x6⟩ := rangeC hr
      have HOm := hide hok
      have HVs := hide hok.vs
      have hvn := hok.vs.1
      have hvcI : (m.vc : Int) ≤ 9223372036854775807 := by have := hok.vs.2.2.1; unfold maxLen at this; omega
      have hvle := hok.vs.2.1
      have hvb := HFv.out m (List.mem_of_getElem? hm)
      have HB1 := hide (new_below wq (.cells (cellsC m) 52))
      have HB2 := hide (new_below (wq.alloc (.cells (cellsC m) 52)) (.cells (cellsC { m with vs := [], va := none, vn := 0, vc := 0 }) 52))
      have HC2 := hide ((boxC_new wq m).keep HB2.out)
      have HX2 := hide (boxC_new (wq.alloc (.cells (cellsC m) 52)) { m with vs := [], va := none, vn := 0, vc := 0 })
      have e1 : (wq.alloc (.cells (cellsC m) 52)).heap.size = wq.heap.size + 1 := by simp
      rw [e1] at HX2
      have HB12 := hide (HB1.out.trans (HB2.out.mono (by simp)))
      clear hok hr e1
      go_upto_block 2 with fail
      go_cut [12] (fun s12 wx => s12 = .pointer (some ⟨wq.heap.size + 1, 0, none⟩) ∧ ∃ (va : Option Addr) (vn vc : Nat) (l : List MV), BoxC wx (wq.heap.size + 1) { m with vs := l, va := va, vn := vn, vc := vc } ∧ BoxC wx wq.heap.size m ∧ OwnY layV wx (wq.heap.size + 2) (.slice va vn vc) l ∧ l = m.vs.filter (fun v => decide (tsM v ≤ ts)) ∧ Below wq.heap.size wq wx)
      case first =>
        go_wp2_with fail
        go_loopg [32] m.vn (fun gk ix wx => ∃ (j : Nat) (va : Option Addr) (vn vc : Nat) (l : List MV), gk = m.vn - j ∧ ix = .int .i64 j ∧ j ≤ m.vn ∧ BoxC wx (wq.heap.size + 1) { m with vs := l, va := va, vn := vn, vc := vc } ∧ BoxC wx wq.heap.size m ∧ OwnY layV wx (wq.heap.size + 2) (.slice va vn vc) l ∧ l = (m.vs.take j).filter (fun v => decide (tsM v ≤ ts)) ∧ Below wq.heap.size wq wx ∧ wq.heap.size + 2 ≤ wx.heap.size)
        case atStart => exact ⟨0, none, 0, 0, [], rfl, rfl, Nat.zero_le _, HX2.out, HC2.out, ownY_nil _ _, rfl, HB12.out, by simp⟩
        case round =>
          obtain ⟨j, va, vn, vc, l, rfl, rfl, hj, hX, hC, hL, hl, hB', hs2⟩ := hrel
          have HX := hide hX
          have HC := hide hC
          have HL := hide hL
          have HBi := hide hB'
          have hwr := hB'.size
          have Hl := hide hl
          have hll : l.length ≤ 100000 := by rw [hl]; refine Nat.le_trans (List.length_filter_le _ _) ?_; rw [List.length_take]; omega
          obtain ⟨f0, f1, f2, f3, f4, f5, f6⟩ := rangeC hX.r
          clear hX hC hL hB' hl
          by_cases hjl : j < m.vn
          · have hjI : (j : Int) < (m.vn : Int) := by omega
            obtain ⟨x, hx⟩ : ∃ x, m.vs[j]? = some x := ⟨_, List.getElem?_eq_getElem (by omega)⟩
            obtain ⟨gv, ov, hva, hgv, hCv⟩ := HVs.out.at hjl
            obtain ⟨q0, q1, q2, q3, q4⟩ := rangeV (rangeY_same (hCv j x hx) (HBi.out.block gv hgv))
            have q0' : wr.cell? ⟨gv, ov + j * 5, none⟩ = some (.int .u64 x.v.ts) := q0
            have q1' : wr.cell? ⟨gv, ov + j * 5 + 1, none⟩ = some (.int .u64 x.v.tx) := q1
            have q2' : wr.cell? ⟨gv, ov + j * 5 + 2, none⟩ = some (.bool x.v.dd) := q2
            have q3' : wr.cell? ⟨gv, ov + j * 5 + 3, none⟩ = some (.slice x.va x.vn x.vc) := q3
            have q4' : wr.cell? ⟨gv, ov + j * 5 + 4, none⟩ = some (.slice x.ka x.kn x.kc) := q4
            have HFi := hide (filter_succ (fun v => decide (tsM v ≤ ts)) m.vs j x hx)
            have HK3 := hide (new_below wr (.cells (cellsV x) 36))
            have HK4 := hide (new_below (wr.alloc (.cells (cellsV x) 36)) (.cells (cellsV x) 36))
            have HL3 := hide (HL.out.keep HK3.out)
            have HL4 := hide (HL3.out.keep HK4.out)
            have HX3 := hide (HX.out.keep HK3.out)
            have HC3 := hide (HC.out.keep HK3.out)
            have HX4 := hide (HX3.out.keep HK4.out)
            have HC4 := hide (HC3.out.keep HK4.out)
            have HS4 := hide (srcY_one (L := layV) _ x (wr.heap.size + 1) (by simp) (rangeY_new (wr.alloc (.cells (cellsV x) 36)) (wr.heap.size + 1) (cellsV x) 36 (by simp)))
            have hwr2 : wq.heap.size + 2 ≤ wr.heap.size := hs2
            have HZ3 : Hid (wq.heap.size + 2 ≤ (wr.alloc (.cells (cellsV x) 36)).heap.size) := by show _ ≤ _; simp; omega
            have HZ4 : Hid (wq.heap.size + 2 ≤ ((wr.alloc (.cells (cellsV x) 36)).alloc (.cells (cellsV x) 36)).heap.size) := by show _ ≤ _; simp; omega
            have HBg : Hid (l.length + 1 ≤ 1000000000) := by show _ ≤ _; omega
            have hNx : wq.heap.size + 1 < wr.heap.size := by omega
            have g1' : (wr.alloc (.cells (cellsV x) 36)).cell? ⟨wq.heap.size + 1, 1, none⟩ = some (.slice va vn vc) := (rangeC HX3.out.r).2.1
            clear q0 q1 q2 q3 q4 hCv
            rw [hva]
            by_cases hle : x.v.ts ≤ ts
            · go_wp2_with (first
                | (at_builtin; refine wp_joinY layV _ rfl (.tmp 41) (.tmp 43) rfl (wq.heap.size + 2) _ l rfl HL4.out (some ⟨wr.heap.size + 1, 0, none⟩) 1 1 [x] rfl HS4.out HBg.out HZ4.out ?_; intro v5 w5 hown5 hg5 hat5; have hk5 := Keeps.ofGrown hg5; have HX5 := hide (HX4.out.after hk5 (fun e => by have := (HL.out.lt _ e).1; omega)); have HC5 := hide (HC4.out.after hk5 (fun e => by have := (HL.out.lt _ e).1; omega)); have HO5 := hide hown5; have HB5 := hide ((HK3.out.mono hwr2).trans ((HK4.out.mono HZ3.out).trans (HL4.out.grown hg5 HZ4.out))); obtain ⟨e0, e1, e2, e3, e4, e5, e6⟩ := rangeC HX5.out.r; have ef := HX5.out.fz 1; obtain ⟨ya, yn, yc, rfl⟩ := hown5.any3; clear hown5 hg5 hat5 hk5))
              rw [← hva]
              go_roundg (m.vn - (j + 1))
              case measure => omega
              case rel =>
                have hkk : Keeps (fun k => k = wq.heap.size + 1) w5 (w5.setCell ⟨wq.heap.size + 1, 1, none⟩ (.slice ya yn yc)) := keepsY_cell _
                refine ⟨j + 1, ya, yn, yc, l ++ [x], rfl, by go_num, by omega, HX5.out.setVs (l ++ [x]) ya yn yc, HC5.out.after hkk (by omega), HO5.out.lies (fun g hg => hkk.block g (HO5.out.lt g hg).2 (by have := (HO5.out.lt g hg).1; omega)), ?_, (HBi.out.trans (HB5.out.mono (by omega))).trans (hkk.below (by have := HB5.out.size; omega) (fun k e => by omega)), by have := HB5.out.size; simp [World.setCell]; omega⟩
                rw [HFi.out, if_pos (show (fun v => decide (tsM v ≤ ts)) x = true from decide_eq_true hle), ← Hl.out]
            · go_wp2
              rw [← hva]
              go_roundg (m.vn - (j + 1))
              case measure => omega
              case rel => exact ⟨j + 1, va, vn, vc, l, rfl, by go_num, by omega, HX3.out, HC3.out, HL3.out, by rw [HFi.out, if_neg (show ¬ (fun v => decide (tsM v ≤ ts)) x = true from (by have e : ¬ tsM x ≤ ts := (by show ¬ x.v.ts ≤ ts; omega); dsimp only; rw [decide_eq_false e]; simp)), ← Hl.out, List.append_nil], HBi.out.trans (HK3.out.mono hwr), by simp; omega⟩
          · have hjI : ¬ (j : Int) < (m.vn : Int) := by omega
            have ej : m.vs.take j = m.vs := List.take_of_length_le (by omega)
            rw [ej] at Hl
            go_wp2
            go_meet
            exact ⟨rfl, va, vn, vc, l, HX.out, HC.out, HL.out, Hl.out, HBi.out⟩
      case rest =>
        obtain ⟨rfl, va, vn, vc, l, hX, hC, hL, hl, hB'⟩ := hcut
        have HX := hide hX
        have HC := hide hC
        have HL := hide hL
        have Hl := hide hl
        have HBi := hide hB'
        have HBw := hide (HB.out.trans (hB'.mono HB.out.size))
        have hwc : w.heap.size ≤ wc.heap.size := HBw.out.size
        obtain ⟨f0, f1, f2, f3, f4, f5, f6⟩ := rangeC hX.r
        obtain ⟨k0, k1, k2, k3, k4, k5, k6⟩ := rangeC hC.r
        have hlv := hL.len.1
        have HWi := hide (rwithin_any m.ka m.kn m.kc m.key la ln lc lo ha hn hc hi wc (HOm.out.key.keep hB') (HLo.out.keep HBw.out) (HHi.out.keep HBw.out))
        have HU0 := hide (HU.out.keep hB')
        have HOk0 := hide (HOk.out.keep hB')
        have HMx : Hid (MC.ok w0 (fun k => (Value.slice oa on oc).ownBlock = some k) wc { m with vs := l, va := va, vn := vn, vc := vc }) := by
          refine ⟨HOm.out.key.keep hB', ?_, hL.is, ?_, (fun v hv => HOm.out.vok v (by rw [hl] at hv; exact (List.mem_filter.1 hv).1)), HOm.out.iok⟩
          · rcases isB_blk (H.out.ok m (List.mem_of_getElem? hm)).key with h1 | h1
            · exact .inl h1
            · exact .inr (fun y hy e => by have := h1 y hy; have := (HU.out.lt _ e).1; omega)
          · by_cases h0 : vn = 0
            · exact .inl h0
            · exact .inr (fun y hy e => by have hy' : va = some y := hy; have := (hL.lt y.block (by rw [hy']; rfl)).1; have := (HU.out.lt _ e).2; omega)
        have HCc : Hid (MC.c { m with vs := l, va := va, vn := vn, vc := vc } = setVs (upTo ts) m.c) := by
          show (⟨m.key, l.map MV.v, m.it.v⟩ : Cel) = ⟨m.key, upTo ts (m.vs.map MV.v), m.it.v⟩
          rw [hl, upTo_map]
        have HSe : Hid (seenC lo hi (setVs (upTo ts) m.c) = (withinB m.key lo hi && (decide (vn > 0) || decide (m.it.v.tx ≠ 0)))) := by
          show _ = _
          rw [← HCc.out]
          unfold seenC
          have : (MC.c { m with vs := l, va := va, vn := vn, vc := vc }).vs.length = vn := by show (l.map MV.v).length = _; rw [List.length_map, hlv]
          rw [this]
          rfl
        have HK1 := hide (new_below wc (.cells (cellsC { m with vs := l, va := va, vn := vn, vc := vc }) 52))
        have HU1 := hide (HU0.out.keep HK1.out)
        have HS1 := hide (srcY_one (L := layC) _ { m with vs := l, va := va, vn := vn, vc := vc } wc.heap.size (by simp) (rangeY_new wc wc.heap.size (cellsC { m with vs := l, va := va, vn := vn, vc := vc }) 52 rfl))
        have HZ1 : Hid (w.heap.size ≤ (wc.alloc (.cells (cellsC { m with vs := l, va := va, vn := vn, vc := vc }) 52)).heap.size) := by show _ ≤ _; simp; omega
        have HBg : Hid (mcs.length + 1 ≤ 1000000000) := by show _ ≤ _; omega
        clear hX hC hL hl hB'
        cases hz : withinB m.key lo hi
        · rw [hz] at HWi HSe
          have HT : Hid (seenC lo hi (setVs (upTo ts) m.c) = false) := by show _ = _; rw [HSe.out]; rfl
          clear hz
          go_wp2_with (first
            | (go_at_call 40; go_must (refine HWi.out.mono ?_); rintro e w' ⟨rfl, hw⟩; have hw := hw.symm; subst hw))
          go_roundg (ms.length - (k + 1))
          case measure => omega
          case rel => exact ⟨k + 1, mcs, rfl, by go_num, by omega, HU0.out, HOk0.out, by rw [HSc.out, if_neg (by rw [HT.out]; simp), List.append_nil]; exact HEq.out, by omega, HBw.out⟩
        · rw [hz] at HWi HSe
          clear hz
          by_cases hv0 : vn > 0
          · have hvI : (0 : Int) < (vn : Int) := by omega
            have HT : Hid (seenC lo hi (setVs (upTo ts) m.c) = true) := by show _ = _; rw [HSe.out]; simp [hv0]
            go_wp2_with (first
              | (go_at_call 40; go_must (refine HWi.out.mono ?_); rintro e w' ⟨rfl, hw⟩; have hw := hw.symm; subst hw)
              | (at_builtin; refine wp_joinY layC _ rfl (.tmp 64) (.tmp 66) rfl w.heap.size _ mcs rfl HU1.out (some ⟨wc.heap.size, 0, none⟩) 1 1 [{ m with vs := l, va := va, vn := vn, vc := vc }] rfl HS1.out HBg.out HZ1.out ?_; intro v5 w5 hown5 hg5 hat5; have HO5 := hide hown5; have HOx := hide ((HOk0.out.keep HK1.out).app (HMx.out.keep HK1.out) hg5 hat5); have HB5 := hide ((HK1.out.mono hwc).trans (HU1.out.grown hg5 HZ1.out)); obtain ⟨ya, yn, yc, rfl⟩ := hown5.any3; clear hown5 hg5 hat5))
            go_roundg (ms.length - (k + 1))
            case measure => omega
            case rel =>
              refine ⟨k + 1, mcs ++ [{ m with vs := l, va := va, vn := vn, vc := vc }], rfl, by go_num, by omega, HO5.out, ?_, ?_, by simp; omega, HBw.out.trans HB5.out⟩
              · exact HOx.out
              · rw [HSc.out, if_pos HT.out, List.map_append, HEq.out, List.map_cons, List.map_nil, HCc.out]
          · have hvI : ¬ (0 : Int) < (vn : Int) := by omega
            by_cases ht0 : m.it.v.tx = 0
            · have htI : (m.it.v.tx != 0) = false := by simpa using ht0
              have HT : Hid (seenC lo hi (setVs (upTo ts) m.c) = false) := by show _ = _; rw [HSe.out]; simp [hv0, ht0]
              clear ht0
              go_wp2_with (first
                | (go_at_call 40; go_must (refine HWi.out.mono ?_); rintro e w' ⟨rfl, hw⟩; have hw := hw.symm; subst hw))
              go_roundg (ms.length - (k + 1))
              case measure => omega
              case rel => exact ⟨k + 1, mcs, rfl, by go_num, by omega, HU0.out, HOk0.out, by rw [HSc.out, if_neg (by rw [HT.out]; simp), List.append_nil]; exact HEq.out, by omega, HBw.out⟩
            · have htI : (m.it.v.tx != 0) = true := by simpa using ht0
              have HT : Hid (seenC lo hi (setVs (upTo ts) m.c) = true) := by show _ = _; rw [HSe.out]; simp [ht0]
              clear ht0
              go_wp2_with (first
                | (go_at_call 40; go_must (refine HWi.out.mono ?_); rintro e w' ⟨rfl, hw⟩; have hw := hw.symm; subst hw)
                | (at_builtin; refine wp_joinY layC _ rfl (.tmp 64) (.tmp 66) rfl w.heap.size _ mcs rfl HU1.out (some ⟨wc.heap.size, 0, none⟩) 1 1 [{ m with vs := l, va := va, vn := vn, vc := vc }] rfl HS1.out HBg.out HZ1.out ?_; intro v5 w5 hown5 hg5 hat5; have HO5 := hide hown5; have HOx := hide ((HOk0.out.keep HK1.out).app (HMx.out.keep HK1.out) hg5 hat5); have HB5 := hide ((HK1.out.mono hwc).trans (HU1.out.grown hg5 HZ1.out)); obtain ⟨ya, yn, yc, rfl⟩ := hown5.any3; clear hown5 hg5 hat5))
              go_roundg (ms.length - (k + 1))
              case measure => omega
              case rel =>
                refine ⟨k + 1, mcs ++ [{ m with vs := l, va := va, vn := vn, vc := vc }], rfl, by go_num, by omega, HO5.out, ?_, ?_, by simp; omega, HBw.out.trans HB5.out⟩
                · exact HOx.out
                · rw [HSc.out, if_pos HT.out, List.map_append, HEq.out, List.map_cons, List.map_nil, HCc.out]
    · have hltI : ¬ (k : Int) < (cn : Int) := by omega
      have ek : (ms.map MC.c).take k = ms.map MC.c := List.take_of_length_le (by rw [List.length_map]; omega)
      rw [ek] at HEq
      go_wp2
      go_ret
      exact ⟨_, rfl, mcs, HU.out, HOk.out, HEq.out, HB.out⟩

end Go.Proofs.Ytfldiapdfpkdaaa
