/- The reference's Ask: what it does. -/
import Derived.Test.YtcgiicmmfleinaaGreatDoorLkB
namespace Go.Proofs.YtcgiicmmfleinaaGreatDoor
open Go.RowKit NumMath Go.ChangeShapes Go.WideShapes Go.Deep
set_option linter.unusedVariables false
set_option maxRecDepth 100000

theorem size_setK (w : World) (a : Addr) (v : Value) : (w.setCell a v).heap.size = w.heap.size := by simp [World.setCell]

def AskPost (w0 w : World) (q : Nat) (ha wa : Option Addr) (r : Tab × Bool × Int) (e : Ending) (w' : World) : Prop :=
  e = .returned (.tuple #[.bool r.2.1, .int .i64 r.2.2]) ∧ ∃ ha' hn' hc' wa' wn' wc' hs' ws', TxN w0 w q ha wa r.1 w' ha' hn' hc' wa' wn' wc' hs' ws'

theorem txN_same {w0 w w' : World} {q : Nat} {ha : Option Addr} {hn hc : Nat} {wa : Option Addr} {wn wc : Nat} {hs ws : List ML} (h : TxT w0 w q ha hn hc wa wn wc hs ws) (hb : Below w.heap.size w w') : TxN w0 w q ha wa ⟨hs.map ML.l, ws.map ML.l⟩ w' ha hn hc wa wn wc hs ws :=
  ⟨h.keep hb, rfl, rfl, Below.keeps hb _, .inl rfl, .inl rfl⟩

theorem any_more {hs : List ML} {k : Nat} {m : ML} (p : Lck → Bool) (h : hs[k]? = some m) : ((hs.take (k + 1)).map ML.l).any p = (((hs.take k).map ML.l).any p || p m.l) := by
  rw [List.take_add_one, h, List.map_append, List.any_append]
  simp

theorem any_pre {hs : List ML} {k : Nat} (p : Lck → Bool) (h : ((hs.take k).map ML.l).any p = true) : (hs.map ML.l).any p = true := by
  obtain ⟨y, hy, e⟩ := List.any_eq_true.1 h
  obtain ⟨m, hm, rfl⟩ := List.mem_map.1 hy
  exact List.any_eq_true.2 ⟨m.l, List.mem_map.2 ⟨m, List.mem_of_mem_take hm, rfl⟩, e⟩

theorem ahead_take {L : List Lck} {x : Lck} : ∀ {k : Nat}, k ≤ L.length → (∀ j, j < k → L[j]? ≠ some x) → (k = L.length ∨ L[k]? = some x) → aheadL L x = L.take k := by
  induction L with
  | nil => intro k hk _ _; simp [aheadL]
  | cons y r ih =>
    intro k hk h1 h2
    unfold aheadL at *
    cases k with
    | zero =>
      rcases h2 with h2 | h2
      · simp at h2
      · have : y = x := by simpa using h2
        simp [this]
    | succ k =>
      have hy : y ≠ x := fun e => h1 0 (by omega) (by simp [e])
      rw [List.takeWhile_cons, if_pos (by simpa using hy), List.take_succ_cons]
      congr 1
      refine ih (by simpa using hk) (fun j hj => ?_) ?_
      · have := h1 (j + 1) (by omega)
        simpa using this
      · rcases h2 with h2 | h2
        · left; simpa using h2
        · right; simpa using h2

theorem ahead_cases (L : List Lck) (x : Lck) : aheadL L x = L.take (aheadL L x).length ∧ (aheadL L x).length ≤ L.length ∧ (∀ j, j < (aheadL L x).length → L[j]? ≠ some x) ∧ ((aheadL L x).length = L.length ∨ L[(aheadL L x).length]? = some x) := by
  induction L with
  | nil => simp [aheadL]
  | cons y r ih =>
    unfold aheadL at *
    by_cases e : y = x
    · rw [List.takeWhile_cons, if_neg (by simp [e])]
      simp [e]
    · rw [List.takeWhile_cons, if_pos (by simpa using e)]
      obtain ⟨i1, i2, i3, i4⟩ := ih
      refine ⟨?_, ?_, ?_, ?_⟩
      · rw [List.length_cons, List.take_succ_cons]
        exact congrArg _ i1
      · simpa using i2
      · intro j hj
        cases j with
        | zero => simpa using e
        | succ j => simpa using i3 j (by simpa using hj)
      · simpa using i4

theorem isY_cut3 {α : Type} (L : Lay α) {w : World} {a : Option Addr} {n c : Nat} {xs : List α} (h : IsY L w a n c xs) (hf : a = none ∨ ∃ g off, a = some ⟨g, off, none⟩) (k : Nat) (hk : k ≤ n) : ∃ b, (∀ W, (Instr.sliceAt L.t (.slice a n c) none (some (.int .i64 (k : Int))) (some (.int .i64 (k : Int)))).run Tryz.prog W = .ok (.slice b k k) W) ∧ SrcY L w b k (xs.take k) ∧ (b = none ∨ ∃ g off, b = some ⟨g, off, none⟩) := by
  have he : Tryz.prog.elem L.t = L.e := by unfold Program.elem; rw [L.und]
  have hlc := h.2.1
  have hadd : a.map (·.add (0 * L.k)) = a := by
    rcases hf with rfl | ⟨g, off, rfl⟩
    · rfl
    · simp only [Option.map_some, addY, Nat.zero_mul, Nat.add_zero]
  refine ⟨a, fun W => ?_, ?_, hf⟩
  · rw [run_sliceAt_slice W L.t _ _ _ _ (by rw [he]; exact L.und), run_slice_any W L.t a n c (by rw [he]; exact L.und)]
    have hb : (Instr.sliceBounds true n c none (some (.int .i64 (k : Int))) (some (.int .i64 (k : Int)))).run Tryz.prog W = .ok (0, k, k) W := by
      simp [Instr.sliceBounds, run_sliceBound, (by omega : (k : Int) ≤ c)]
    rw [hb]
    simp only [Result.andThen_ok]
    rw [sizeY L W]
    simp only [Result.andThen_ok, sliced]
    rw [hadd]
    simp
  · by_cases h0 : k = 0
    · subst h0
      exact ⟨by simp, .inl rfl⟩
    · exact (h.take k c hk (by omega) h.2.2.1).src

theorem ed_len200 (hs ws : List ML) (h1 : hs.length ≤ 200) (h2 : ws.length ≤ 200) : (edgesL (hs.map ML.l) (ws.map ML.l)).length ≤ 80000 := by
  unfold edgesL
  have h3 := dd_len (rawE (hs.map ML.l) [] (ws.map ML.l)) []
  refine Nat.le_trans h3 ?_
  rw [List.length_nil, Nat.zero_add]
  have key : ∀ (r a : List Lck), a.length + r.length ≤ 200 → (rawE (hs.map ML.l) a r).length ≤ r.length * 400 := by
    intro r
    induction r with
    | nil => intro a _; simp [rawE]
    | cons x r ih =>
      intro a ha
      rw [rawE, List.length_append, List.length_map]
      have h5 := ih (a ++ [x]) (by simp only [List.length_append, List.length_cons, List.length_nil] at *; omega)
      have h6 : (wayL (hs.map ML.l) a x).length ≤ 400 := by
        unfold wayL
        rw [List.length_append]
        have e1 := List.length_filter_le (standsL x) (hs.map ML.l)
        have e2 := List.length_filter_le (standsL x) a
        rw [List.length_map] at e1
        have e3 : (if holdsL (hs.map ML.l) x = true then [] else againstL a x).length ≤ a.length := by
          split
          · simp
          · exact e2
        have e4 : (againstL (hs.map ML.l) x).length ≤ 200 := Nat.le_trans e1 h1
        simp only [List.length_cons] at ha
        omega
      rw [List.length_cons]; omega
  have h4 := key (ws.map ML.l) [] (by simp; omega)
  rw [List.length_map] at h4
  omega

set_option maxHeartbeats 8000000 in
theorem xask_any (w0 : World) (q : Nat) (ha : Option Addr) (hn hc : Nat) (wa : Option Addr) (wn wk : Nat) (hs ws : List ML) (x : ML) (w : World) (h : TxT w0 w q ha hn hc wa wn wk hs ws) (hx : x.ok w0) (hb1 : hn ≤ 199) (hb2 : wn ≤ 199) :
    Calls Tryz.prog 83 #[.pointer (some ⟨q, 0, none⟩), .agg #[.int .u64 x.l.tx, .int .i64 x.l.lv, .int .i64 x.l.md, .slice x.la x.ln x.lc, .slice x.ha x.hn x.hc]] w fun e w' => AskPost w0 w q ha wa (askL ⟨hs.map ML.l, ws.map ML.l⟩ x.l) e w' := by
  obtain ⟨w1, hw1⟩ : ∃ w1, w1 = w.alloc (.cells #[.int .u64 x.l.tx, .int .i64 x.l.lv, .int .i64 x.l.md, .slice x.la x.ln x.lc, .slice x.ha x.hn x.hc] 41) := ⟨_, rfl⟩
  have hbx : Below w.heap.size w w1 := by rw [hw1]; exact new_below _ _
  have hs1 : w1.heap.size = w.heap.size + 1 := by rw [hw1]; simp
  have HX1 : Hid (At5 w1 w.heap.size 0 x) := by rw [hw1]; exact at5_new w x
  have hq := h.lt
  have H1 := hide (h.keep hbx)
  have H0 := hide h
  have HBx := hide hbx
  have hxo : x.ok w1 := hx.keep H1.out.b0
  have HXo := hide hx
  have hmc : (hc : Int) ≤ 9223372036854775807 := by have := h.h.2.2.1; unfold maxLen at this; omega
  have hnc := h.h.2.1
  have hnl := h.h.1
  have hwl := h.wt.1
  obtain ⟨x0, x1, x2, x3, x4⟩ := HX1.out.zero
  have HBe := hide (below_any x.ha x.hn x.hc x.l.hi x.la x.ln x.lc x.l.lo w1 hxo.hi hxo.lo)
  obtain ⟨r, hr⟩ : ∃ r, askL ⟨hs.map ML.l, ws.map ML.l⟩ x.l = r := ⟨_, rfl⟩
  have HR := hide hr
  rw [hr]
  obtain ⟨zb, hzb⟩ : ∃ z, badL x.l = z := ⟨_, rfl⟩
  obtain ⟨ze, hze⟩ : ∃ z, belowL x.l.hi x.l.lo = z := ⟨_, rfl⟩
  have HZb := hide hzb
  have hzb2 := hzb
  unfold badL at hzb2
  rw [hze] at hzb2 HBe
  have HZb2 := hide hzb2
  clear h hx hbx hr hzb hzb2 hze hxo
  go_enter Tryz.func83, Tryz.ntmps83
  go_upto_region 1 with fail
  rw [← hw1]
  clear hw1
  go_cut [38] (fun s wx => s = .bool zb ∧ Hid (wx = w1))
  case first =>
    by_cases t0 : x.l.tx = 0
    · have t0' : (x.l.tx == 0) = true := by simp [t0]
      have HZ2 := hide (show zb = true by rw [← HZb2.out, t0']; simp)
      clear t0
      go_wp2
      go_meet
      exact ⟨by rw [HZ2.out], hide rfl⟩
    · have t0' : (x.l.tx == 0) = false := by simp [t0]
      by_cases l0 : x.l.lv ≠ 0 ∧ x.l.lv ≠ 1
      · have l0' : (x.l.lv == 0) = false := by simp [l0.1]
        have l1' : (x.l.lv == 1) = false := by simp [l0.2]
        have l0n : (x.l.lv != 0) = true := by simp [l0.1]
        have l1n : (x.l.lv != 1) = true := by simp [l0.2]
        have HZ2 := hide (show zb = true by rw [← HZb2.out]; simp [l0.1, l0.2])
        clear l0
        go_wp2
        go_meet
        exact ⟨by rw [HZ2.out], hide rfl⟩
      · have hlv : ((x.l.lv != 0) && (x.l.lv != 1)) = false := by
          by_cases e0 : x.l.lv = 0
          · simp [e0]
          · have e1 : x.l.lv = 1 := Classical.byContradiction (fun e1 => l0 ⟨e0, e1⟩)
            simp [e1]
        by_cases m0 : x.l.md < 1
        · have HZ2 := hide (show zb = true by rw [← HZb2.out]; simp [m0])
          by_cases e0 : x.l.lv = 0
          · have e0n : (x.l.lv != 0) = false := by simp [e0]
            clear e0 l0 hlv
            go_wp2
            go_meet
            exact ⟨by rw [HZ2.out], hide rfl⟩
          · have e0n : (x.l.lv != 0) = true := by simp [e0]
            have e1n : (x.l.lv != 1) = false := by have e1 : x.l.lv = 1 := Classical.byContradiction (fun e1 => l0 ⟨e0, e1⟩); simp [e1]
            clear e0 l0 hlv
            go_wp2
            go_meet
            exact ⟨by rw [HZ2.out], hide rfl⟩
        · by_cases m4 : 4 < x.l.md
          · have HZ2 := hide (show zb = true by rw [← HZb2.out]; simp [m4])
            by_cases e0 : x.l.lv = 0
            · have e0n : (x.l.lv != 0) = false := by simp [e0]
              clear e0 l0 hlv
              go_wp2
              go_meet
              exact ⟨by rw [HZ2.out], hide rfl⟩
            · have e0n : (x.l.lv != 0) = true := by simp [e0]
              have e1n : (x.l.lv != 1) = false := by have e1 : x.l.lv = 1 := Classical.byContradiction (fun e1 => l0 ⟨e0, e1⟩); simp [e1]
              clear e0 l0 hlv
              go_wp2
              go_meet
              exact ⟨by rw [HZ2.out], hide rfl⟩
          · have HZ2 := hide (show zb = ze by rw [← HZb2.out, t0', hlv]; simp [m0, m4])
            by_cases e0 : x.l.lv = 0
            · have e0n : (x.l.lv != 0) = false := by simp [e0]
              clear e0 l0 hlv
              go_wp2_with (first
                | (go_at_call 124; go_must (refine HBe.out.mono ?_); rintro e w2 ⟨rfl, hw⟩; have hw := hw.symm; subst hw))
              go_meet
              exact ⟨by rw [HZ2.out], hide rfl⟩
            · have e0n : (x.l.lv != 0) = true := by simp [e0]
              have e1n : (x.l.lv != 1) = false := by have e1 : x.l.lv = 1 := Classical.byContradiction (fun e1 => l0 ⟨e0, e1⟩); simp [e1]
              clear e0 l0 hlv
              go_wp2_with (first
                | (go_at_call 124; go_must (refine HBe.out.mono ?_); rintro e w2 ⟨rfl, hw⟩; have hw := hw.symm; subst hw))
              go_meet
              exact ⟨by rw [HZ2.out], hide rfl⟩
  case rest =>
    obtain ⟨rfl, hwc⟩ := hcut
    have hwc := hwc.out
    subst wc
    cases zb with
    | true =>
      have HR2 := hide (show r = (⟨hs.map ML.l, ws.map ML.l⟩, false, 1) by rw [← HR.out]; unfold askL; rw [if_pos HZb.out])
      go_wp2
      go_ret2
      refine ⟨?_, ha, hn, hc, wa, wn, wk, hs, ws, ?_⟩
      · rw [HR2.out]; rfl
      · rw [HR2.out]; exact txN_same H0.out HBx.out
    | false =>
      have c0 := H1.out.c0
      clear x0 x1 x2 x3 x4 HBe
      go_wp2
      clear c0
      go_loopg [44] hn (fun gk i wr => ∃ k : Nat, gk = hn - k ∧ i = .int .i64 k ∧ k ≤ hn ∧ ((hs.take k).map ML.l).any (fun y => coversL y x.l) = false ∧ Below w1.heap.size w1 wr)
      case atStart => exact ⟨0, rfl, rfl, Nat.zero_le _, rfl, Below.refl _ _⟩
      case round =>
        obtain ⟨k, rfl, rfl, hk, hA, hB⟩ := hrel
        have HA := hide hA
        have HB := hide hB
        have hsw := hB.size
        clear hA
        by_cases hlt : k < hn
        · have hlt' : (k : Int) < (hn : Int) := by omega
          obtain ⟨m, hmk⟩ := ml_at (hs := hs) (k := k) (by omega)
          obtain ⟨g, off, e9, hg, hC⟩ := H1.out.h.at hlt
          have d := at5_of (rangeY_same (hC k m hmk) (hB.block g hg))
          subst e9
          obtain ⟨d0, d1, d2, d3, d4⟩ := d
          have d0 : wr.cell? ⟨g, off + k * 5, none⟩ = some (.int .u64 m.l.tx) := d0
          have d1 : wr.cell? ⟨g, off + k * 5 + 1, none⟩ = some (.int .i64 m.l.lv) := d1
          have d2 : wr.cell? ⟨g, off + k * 5 + 2, none⟩ = some (.int .i64 m.l.md) := d2
          have d3 : wr.cell? ⟨g, off + k * 5 + 3, none⟩ = some (.slice m.la m.ln m.lc) := d3
          have d4 : wr.cell? ⟨g, off + k * 5 + 4, none⟩ = some (.slice m.ha m.hn m.hc) := d4
          have hbN := new_below wr (.cells #[.int .u64 m.l.tx, .int .i64 m.l.lv, .int .i64 m.l.md, .slice m.la m.ln m.lc, .slice m.ha m.hn m.hc] 41)
          have hb1N := hB.trans (hbN.mono hsw)
          have hT := H1.out.keep hb1N
          obtain ⟨x0, x1, x2, x3, x4⟩ := (HX1.out.same (hb1N.block _ (by omega))).zero
          have HCv := hide (covers_any m x _ (hT.a.ho m (List.mem_of_getElem? hmk)) (HXo.out.keep hT.b0))
          have HAm := hide (any_more (fun y => coversL y x.l) hmk)
          rw [HA.out] at HAm
          have HB1N := hide hb1N
          clear hC hmk hB hbN hb1N hT
          cases hcv : coversL m.l x.l with
          | true =>
            rw [hcv] at HCv HAm
            have HR2 := hide (show r = (⟨hs.map ML.l, ws.map ML.l⟩, true, 0) by rw [← HR.out]; unfold askL; rw [if_neg (by rw [HZb.out]; simp), if_pos (any_pre (k := k + 1) _ HAm.out)])
            clear hcv
            go_wp2_with (first
              | (go_at_call 125; go_must (refine HCv.out.mono ?_); rintro e w2 ⟨rfl, hb2⟩; have HB2 := hide (HB1N.out.trans (hb2.mono HB1N.out.size)); clear hb2))
            go_ret2
            refine ⟨?_, some ⟨g, off, none⟩, hn, hc, wa, wn, wk, hs, ws, ?_⟩
            · rw [HR2.out]; rfl
            · rw [HR2.out]; exact txN_same H0.out (HBx.out.trans (HB2.out.mono (by omega)))
          | false =>
            rw [hcv] at HCv HAm
            clear hcv
            go_wp2_with (first
              | (go_at_call 125; go_must (refine HCv.out.mono ?_); rintro e w2 ⟨rfl, hb2⟩; have HB2 := hide (HB1N.out.trans (hb2.mono HB1N.out.size)); clear hb2))
            go_roundg (hn - (k + 1))
            case measure => omega
            case rel => exact ⟨k + 1, rfl, by go_num, by omega, HAm.out, HB2.out⟩
        · obtain rfl : k = hn := by omega
          have ek : hs.take k = hs := List.take_of_length_le (by omega)
          rw [ek] at HA
          have hT := H1.out.keep hB
          have HTr := hide hT
          obtain ⟨x0, x1, x2, x3, x4⟩ := (HX1.out.same (hB.block _ (by omega))).zero
          have HLv := hide (leave_any q ha k hc wa wn wk hs ws x.l.tx x wr hT.a (hT.fz 1) (HXo.out.keep hT.b0) (by omega))
          have HXr := hide (HX1.out.same (hB.block _ (by omega)))
          clear hT
          go_upto_region 11 with (first
            | (go_at_call 126; go_must (refine HLv.out.mono ?_); rintro e w2 ⟨v2, rfl, hp2⟩; obtain ⟨wa2, wn2, wc2, rfl⟩ := hp2.o.any3; have HP2 := hide hp2; clear hp2))
          have hT2 := HTr.out.setW HP2.out (fun m hm => HTr.out.wo m ((List.mem_filter.1 hm).1))
          have hln2 := List.length_filter_le (stayM x.l.tx x) ws
          have HW2 := hide (leaveM_l ws x.l.tx x)
          obtain ⟨ws2, hws2⟩ : ∃ l, ws.filter (stayM x.l.tx x) = l := ⟨_, rfl⟩
          rw [hws2] at HP2 hT2 HW2 hln2
          have hwl2 := hT2.wt.1
          have hnc2 := hT2.wt.2.1
          have hwn2 : wn2 ≤ 199 := by omega
          have HX2 := hide (HXr.out.same (HP2.out.kp.block w.heap.size (by omega) (by omega)))
          have HT2 := hide hT2
          have hsz2 := HP2.out.kp.size
          have HAh := hide (ahead_cases (ws2.map ML.l) x.l)
          obtain ⟨k0, hk0⟩ : ∃ n, (aheadL (ws2.map ML.l) x.l).length = n := ⟨_, rfl⟩
          rw [hk0] at HAh
          have hk0' : k0 ≤ wn2 := by have := HAh.out.2.1; rw [List.length_map] at this; omega
          clear hT2 hws2 hk0 hln2 x0 x1 x2 x3 x4 HLv hB
          go_loopg [8] k0 (fun gk i wx => ∃ j : Nat, gk = k0 - j ∧ i = .int .i64 j ∧ j ≤ k0 ∧ Below w2.heap.size w2 wx)
          case atStart => exact ⟨0, rfl, rfl, Nat.zero_le _, Below.refl _ _⟩
          case round =>
            obtain ⟨j, rfl, rfl, hj, hB3⟩ := hrel
            go_upto_region 11 with fail
            go_cut [75] from 57 to 77 (fun s wx => s = .bool (decide (j < k0)) ∧ Hid (Below w2.heap.size w2 wx))
            case first =>
              have hsz3 := hB3.size
              have HB3a := hide hB3
              by_cases hlt : j < wn2
              · have hlt' : (j : Int) < (wn2 : Int) := by omega
                obtain ⟨m, hmk⟩ := ml_at (hs := ws2) (k := j) (by omega)
                have HZ : Hid ((!(decide (m.l = x.l))) = decide (j < k0)) := by
                  have hg : (ws2.map ML.l)[j]? = some m.l := by rw [List.getElem?_map, hmk]; rfl
                  show _ = _
                  by_cases hjk : j < k0
                  · have := HAh.out.2.2.1 j hjk
                    rw [hg] at this
                    have : m.l ≠ x.l := fun e => this (by rw [e])
                    simp [this, hjk]
                  · have ejk : j = k0 := by omega
                    rcases HAh.out.2.2.2 with e | e
                    · rw [List.length_map] at e; omega
                    · rw [← ejk, hg] at e
                      have : m.l = x.l := by simpa using e
                      simp [this, hjk]
                obtain ⟨g2, off2, e9, hg2, hC2⟩ := HT2.out.wt.at hlt
                have hmo := HT2.out.wo m (List.mem_of_getElem? hmk)
                have HV : Hid (∀ V, Below wr.drew.heap.size wr.drew V → V.cell? ⟨q, 1, none⟩ = some (.slice wa2 wn2 wc2) ∧ V.cell? ⟨g2, off2 + j * 5, none⟩ = some (.int .u64 m.l.tx) ∧ V.cell? ⟨g2, off2 + j * 5 + 1, none⟩ = some (.int .i64 m.l.lv) ∧ V.cell? ⟨g2, off2 + j * 5 + 2, none⟩ = some (.int .i64 m.l.md) ∧ V.cell? ⟨g2, off2 + j * 5 + 3, none⟩ = some (.slice m.la m.ln m.lc) ∧ V.cell? ⟨g2, off2 + j * 5 + 4, none⟩ = some (.slice m.ha m.hn m.hc) ∧ V.cell? ⟨w.heap.size, 0, none⟩ = some (.int .u64 x.l.tx) ∧ V.cell? ⟨w.heap.size, 1, none⟩ = some (.int .i64 x.l.lv) ∧ V.cell? ⟨w.heap.size, 2, none⟩ = some (.int .i64 x.l.md) ∧ V.cell? ⟨w.heap.size, 3, none⟩ = some (.slice x.la x.ln x.lc) ∧ V.cell? ⟨w.heap.size, 4, none⟩ = some (.slice x.ha x.hn x.hc)) := fun V hV => by
                  have hV2 := HB3a.out.trans ((below_undrew hV).mono hsz3)
                  have hT := HT2.out.keep hV2
                  obtain ⟨d0, d1, d2, d3, d4⟩ := at5_of (rangeY_same (hC2 j m hmk) (hV2.block g2 hg2))
                  exact ⟨hT.c1, d0, d1, d2, d3, d4, (HX2.out.same (hV2.block _ (by omega))).zero⟩
                have hTd := HT2.out.keep (HB3a.out.trans ((Below.refl wr.heap.size wr).drew.mono hsz3))
                have HSm := hide (same_any m x wr.drew (hmo.keep hTd.b0) (HXo.out.keep hTd.b0))
                subst e9
                clear hC2 hmk hTd hmo hB3
                refine startX 99 (by kernel_rfl) ?_
                refine' takeX (E := 99) (i := 0) (v := _) rfl (by kernel_rfl) (by kernel_rfl) (by kernel_rfl) (by kernel_rfl) (fun _ _ _ h => h) (by rfl) (Below.refl _ _) ?_ ?_; rotate_left
                · (intro V hSV; obtain ⟨y1, d0, d1, d2, d3, d4, x0, x1, x2, x3, x4⟩ := HV.out V hSV; go_simp; all_goals (with_reducible rfl))
                (try simp only [Act.put, List.setIfInBounds_toArray, List.set_cons_zero, List.set_cons_succ])
                refine' takeX (E := 99) (i := 1) (v := _) rfl (by kernel_rfl) (by kernel_rfl) (by kernel_rfl) (by kernel_rfl) (fun _ _ _ h => h) (by rfl) (Below.refl _ _) ?_ ?_; rotate_left
                · (intro V hSV; obtain ⟨y1, d0, d1, d2, d3, d4, x0, x1, x2, x3, x4⟩ := HV.out V hSV; go_simp; all_goals (with_reducible rfl))
                (try simp only [Act.put, List.setIfInBounds_toArray, List.set_cons_zero, List.set_cons_succ])
                refine' takeX (E := 99) (i := 2) (v := _) rfl (by kernel_rfl) (by kernel_rfl) (by kernel_rfl) (by kernel_rfl) (fun _ _ _ h => h) (by rfl) (Below.refl _ _) ?_ ?_; rotate_left
                · (intro V hSV; obtain ⟨y1, d0, d1, d2, d3, d4, x0, x1, x2, x3, x4⟩ := HV.out V hSV; go_simp; all_goals (with_reducible rfl))
                (try simp only [Act.put, List.setIfInBounds_toArray, List.set_cons_zero, List.set_cons_succ])
                refine' takeX (E := 99) (i := 3) (v := _) rfl (by kernel_rfl) (by kernel_rfl) (by kernel_rfl) (by kernel_rfl) (fun _ _ _ h => h) (by rfl) (Below.refl _ _) ?_ ?_; rotate_left
                · (intro V hSV; obtain ⟨y1, d0, d1, d2, d3, d4, x0, x1, x2, x3, x4⟩ := HV.out V hSV; go_simp; all_goals (with_reducible rfl))
                (try simp only [Act.put, List.setIfInBounds_toArray, List.set_cons_zero, List.set_cons_succ])
                refine' takeX (E := 99) (i := 4) (v := _) rfl (by kernel_rfl) (by kernel_rfl) (by kernel_rfl) (by kernel_rfl) (fun _ _ _ h => h) (by rfl) (Below.refl _ _) ?_ ?_; rotate_left
                · (intro V hSV; obtain ⟨y1, d0, d1, d2, d3, d4, x0, x1, x2, x3, x4⟩ := HV.out V hSV; go_simp; all_goals (with_reducible rfl))
                (try simp only [Act.put, List.setIfInBounds_toArray, List.set_cons_zero, List.set_cons_succ])
                refine' takeX (E := 99) (i := 5) (v := _) rfl (by kernel_rfl) (by kernel_rfl) (by kernel_rfl) (by kernel_rfl) (fun _ _ _ h => h) (by rfl) (Below.refl _ _) ?_ ?_; rotate_left
                · (intro V hSV; obtain ⟨y1, d0, d1, d2, d3, d4, x0, x1, x2, x3, x4⟩ := HV.out V hSV; go_simp; all_goals (with_reducible rfl))
                (try simp only [Act.put, List.setIfInBounds_toArray, List.set_cons_zero, List.set_cons_succ])
                refine' takeX (E := 99) (i := 6) (v := _) rfl (by kernel_rfl) (by kernel_rfl) (by kernel_rfl) (by kernel_rfl) (fun _ _ _ h => h) (by rfl) (Below.refl _ _) ?_ ?_; rotate_left
                · (intro V hSV; obtain ⟨y1, d0, d1, d2, d3, d4, x0, x1, x2, x3, x4⟩ := HV.out V hSV; go_simp; all_goals (with_reducible rfl))
                (try simp only [Act.put, List.setIfInBounds_toArray, List.set_cons_zero, List.set_cons_succ])
                refine' takeX (E := 99) (i := 7) (v := _) rfl (by kernel_rfl) (by kernel_rfl) (by kernel_rfl) (by kernel_rfl) (fun _ _ _ h => h) (by rfl) (Below.refl _ _) ?_ ?_; rotate_left
                · (intro V hSV; obtain ⟨y1, d0, d1, d2, d3, d4, x0, x1, x2, x3, x4⟩ := HV.out V hSV; go_simp; all_goals (with_reducible rfl))
                (try simp only [Act.put, List.setIfInBounds_toArray, List.set_cons_zero, List.set_cons_succ])
                refine' takeX (E := 99) (i := 8) (v := _) rfl (by kernel_rfl) (by kernel_rfl) (by kernel_rfl) (by kernel_rfl) (fun _ _ _ h => h) (by rfl) (Below.refl _ _) ?_ ?_; rotate_left
                · (intro V hSV; obtain ⟨y1, d0, d1, d2, d3, d4, x0, x1, x2, x3, x4⟩ := HV.out V hSV; go_simp; all_goals (with_reducible rfl))
                (try simp only [Act.put, List.setIfInBounds_toArray, List.set_cons_zero, List.set_cons_succ])
                refine' takeX (E := 99) (i := 9) (v := _) rfl (by kernel_rfl) (by kernel_rfl) (by kernel_rfl) (by kernel_rfl) (fun _ _ _ h => h) (by rfl) (Below.refl _ _) ?_ ?_; rotate_left
                · (intro V hSV; obtain ⟨y1, d0, d1, d2, d3, d4, x0, x1, x2, x3, x4⟩ := HV.out V hSV; go_simp; all_goals (with_reducible rfl))
                (try simp only [Act.put, List.setIfInBounds_toArray, List.set_cons_zero, List.set_cons_succ])
                refine' takeX (E := 99) (i := 10) (v := _) rfl (by kernel_rfl) (by kernel_rfl) (by kernel_rfl) (by kernel_rfl) (fun _ _ _ h => h) (by rfl) (Below.refl _ _) ?_ ?_; rotate_left
                · (intro V hSV; obtain ⟨y1, d0, d1, d2, d3, d4, x0, x1, x2, x3, x4⟩ := HV.out V hSV; go_simp; all_goals (with_reducible rfl))
                (try simp only [Act.put, List.setIfInBounds_toArray, List.set_cons_zero, List.set_cons_succ])
                refine' takeX (E := 99) (i := 11) (v := _) rfl (by kernel_rfl) (by kernel_rfl) (by kernel_rfl) (by kernel_rfl) (fun _ _ _ h => h) (by rfl) (Below.refl _ _) ?_ ?_; rotate_left
                · (intro V hSV; obtain ⟨y1, d0, d1, d2, d3, d4, x0, x1, x2, x3, x4⟩ := HV.out V hSV; go_simp; all_goals (with_reducible rfl))
                (try simp only [Act.put, List.setIfInBounds_toArray, List.set_cons_zero, List.set_cons_succ])
                refine' takeX (E := 99) (i := 12) (v := _) rfl (by kernel_rfl) (by kernel_rfl) (by kernel_rfl) (by kernel_rfl) (fun _ _ _ h => h) (by rfl) (Below.refl _ _) ?_ ?_; rotate_left
                · (intro V hSV; obtain ⟨y1, d0, d1, d2, d3, d4, x0, x1, x2, x3, x4⟩ := HV.out V hSV; go_simp; all_goals (with_reducible rfl))
                (try simp only [Act.put, List.setIfInBounds_toArray, List.set_cons_zero, List.set_cons_succ])
                refine' takeX (E := 99) (i := 13) (v := _) rfl (by kernel_rfl) (by kernel_rfl) (by kernel_rfl) (by kernel_rfl) (fun _ _ _ h => h) (by rfl) (Below.refl _ _) ?_ ?_; rotate_left
                · (intro V hSV; obtain ⟨y1, d0, d1, d2, d3, d4, x0, x1, x2, x3, x4⟩ := HV.out V hSV; go_simp; all_goals (with_reducible rfl))
                (try simp only [Act.put, List.setIfInBounds_toArray, List.set_cons_zero, List.set_cons_succ])
                refine' takeX (E := 99) (i := 14) (v := _) rfl (by kernel_rfl) (by kernel_rfl) (by kernel_rfl) (by kernel_rfl) (fun _ _ _ h => h) (by rfl) (Below.refl _ _) ?_ ?_; rotate_left
                · (intro V hSV; obtain ⟨y1, d0, d1, d2, d3, d4, x0, x1, x2, x3, x4⟩ := HV.out V hSV; go_simp; all_goals (with_reducible rfl))
                (try simp only [Act.put, List.setIfInBounds_toArray, List.set_cons_zero, List.set_cons_succ])
                refine' takeX (E := 99) (i := 15) (v := _) rfl (by kernel_rfl) (by kernel_rfl) (by kernel_rfl) (by kernel_rfl) (fun _ _ _ h => h) (by rfl) (Below.refl _ _) ?_ ?_; rotate_left
                · (intro V hSV; obtain ⟨y1, d0, d1, d2, d3, d4, x0, x1, x2, x3, x4⟩ := HV.out V hSV; go_simp; all_goals (with_reducible rfl))
                (try simp only [Act.put, List.setIfInBounds_toArray, List.set_cons_zero, List.set_cons_succ])
                refine callX (i := 16) rfl (by kernel_rfl) (fun K hK => ?_)
                go_simp
                refine HSm.out.mono ?_
                rintro e w3 ⟨rfl, hb3⟩
                have HB4 := hide (HB3a.out.trans ((below_undrew hb3).mono hsz3))
                refine hK.out _ _ (fun _ => hb3) ?_
                clear hK K
                (try simp only [Act.put, List.setIfInBounds_toArray, List.set_cons_zero, List.set_cons_succ])
                refine callX (i := 17) rfl (by kernel_rfl) (fun K hK => ?_)
                go_simp
                refine hK.out _ _ (fun _ => hb3) ?_
                clear hK K
                (try simp only [Act.put, List.setIfInBounds_toArray, List.set_cons_zero, List.set_cons_succ])
                refine callX (i := 18) rfl (by kernel_rfl) (fun K hK => ?_)
                go_simp
                refine hK.out _ _ (fun _ => hb3) ?_
                clear hK K
                (try simp only [Act.put, List.setIfInBounds_toArray, List.set_cons_zero, List.set_cons_succ])
                refine doneX (by kernel_rfl) ?_ _
                clear HV HSm hb3
                go_wp2
                go_meet
                exact ⟨by rw [← HZ.out], HB4⟩
              · have hlt' : decide ((j : Int) < (wn2 : Int)) = false := by simp; omega
                have HZ : Hid (decide (j < k0) = false) := by show _ = _; simp; omega
                have c13 := (HT2.out.keep hB3).c1
                go_quiet (fail)
                go_wp2
                go_meet
                exact ⟨by rw [HZ.out], hide (below_drewN HB3a.out _)⟩
            case rest =>
              obtain ⟨rfl, HB3⟩ := hcut
              have HB3w := hide hB3
              by_cases hjk : j < k0
              · have hjk' : decide (j < k0) = true := by simp [hjk]
                rw [hjk']
                go_wp2
                go_roundg (k0 - (j + 1))
                case measure => omega
                case rel => exact ⟨j + 1, rfl, by go_num, by omega, HB3.out⟩
              · have hjk' : decide (j < k0) = false := by simp [hjk]
                rw [hjk']
                obtain rfl : j = k0 := by omega
                go_upto_region 13 with fail
                have hB5 := HB3.out
                have hsz5 := hB5.size
                obtain ⟨zw, hzw⟩ : ∃ z, decide (wayL (hs.map ML.l) (aheadL (leaveL (ws.map ML.l) x.l.tx x.l) x.l) x.l = []) = z := ⟨_, rfl⟩
                have HZw := hide hzw
                have HR1 : Hid (r = if zw = true then (if 400 ≤ hs.length then (⟨hs.map ML.l, leaveL (ws2.map ML.l) x.l.tx lck0⟩, false, 132) else (⟨hs.map ML.l ++ [x.l], leaveL (ws2.map ML.l) x.l.tx lck0⟩, true, 0)) else (if cycleW (edgesL (hs.map ML.l) (queuedL (ws2.map ML.l) x.l)) x.l.tx = [] then (⟨hs.map ML.l, queuedL (ws2.map ML.l) x.l⟩, false, 0) else (⟨hs.map ML.l, leaveL (queuedL (ws2.map ML.l) x.l) x.l.tx lck0⟩, false, 131))) := by
                  show _ = _
                  rw [← HR.out, ← hzw]
                  unfold askL
                  rw [if_neg (by rw [HZb.out]; simp), if_neg (by rw [HA.out]; simp)]
                  dsimp only
                  rw [← HW2.out, List.length_map]
                  by_cases e : wayL (hs.map ML.l) (aheadL (ws2.map ML.l) x.l) x.l = []
                  · rw [if_pos e, if_pos (decide_eq_true e)]
                  · rw [if_neg e, if_neg (fun e2 => e (of_decide_eq_true e2))]
                clear hzw
                go_cut [88] from 78 to 151 (fun s wx => s = .bool zw ∧ Hid (Below w2.heap.size w2 wx))
                case first =>
                  have HB3a := hide hB5
                  have hTd := HT2.out.keep (hB5.trans ((Below.refl wc.heap.size wc).drew.mono hsz5))
                  obtain ⟨cb, hcb, hcY⟩ := isY_cut layK hTd.wt j (by omega)
                  have hcb : ∀ W, (Instr.sliceAt 33 (.slice wa2 wn2 wc2) none (some (.int .i64 (j : Int))) none).run Tryz.prog W = .ok (.slice cb j wc2) W := hcb
                  have HWy := hide (way_any q ha k hc wa2 wn2 wc2 hs ws2 x cb j wc2 (ws2.take j) wc.drew hTd.a (HXo.out.keep hTd.b0) hcY (fun m hm => (hTd.wo m (List.mem_of_mem_take hm)).keep hTd.b0) (by omega) (by omega))
                  have HV : Hid (∀ V, Below wc.drew.heap.size wc.drew V → V.cell? ⟨q, 1, none⟩ = some (.slice wa2 wn2 wc2) ∧ V.cell? ⟨w.heap.size, 0, none⟩ = some (.int .u64 x.l.tx) ∧ V.cell? ⟨w.heap.size, 1, none⟩ = some (.int .i64 x.l.lv) ∧ V.cell? ⟨w.heap.size, 2, none⟩ = some (.int .i64 x.l.md) ∧ V.cell? ⟨w.heap.size, 3, none⟩ = some (.slice x.la x.ln x.lc) ∧ V.cell? ⟨w.heap.size, 4, none⟩ = some (.slice x.ha x.hn x.hc)) := fun V hV => by
                    have hV2 := HB3a.out.trans ((below_undrew hV).mono hsz5)
                    have hT := HT2.out.keep hV2
                    exact ⟨hT.c1, (HX2.out.same (hV2.block _ (by omega))).zero⟩
                  have HWl : Hid ((wayM hs (ws2.take j) x).length = (wayL (hs.map ML.l) (aheadL (leaveL (ws.map ML.l) x.l.tx x.l) x.l) x.l).length) := by
                    show _ = _
                    rw [← HW2.out, HAh.out.1, ← List.map_take, ← wayM_l, List.length_map]
                  clear hTd hcY hB3 hB5
                  refine startX 99 (by kernel_rfl) ?_
                  refine' takeX (E := 99) (i := 0) (v := _) rfl (by kernel_rfl) (by kernel_rfl) (by kernel_rfl) (by kernel_rfl) (fun _ _ _ h => h) (by rfl) (Below.refl _ _) ?_ ?_; rotate_left
                  · (intro V hSV; obtain ⟨y1, x0, x1, x2, x3, x4⟩ := HV.out V hSV; go_simp; all_goals (with_reducible rfl))
                  (try simp only [Act.put, List.setIfInBounds_toArray, List.set_cons_zero, List.set_cons_succ])
                  refine' takeX (E := 99) (i := 1) (v := _) rfl (by kernel_rfl) (by kernel_rfl) (by kernel_rfl) (by kernel_rfl) (fun _ _ _ h => h) (by rfl) (Below.refl _ _) ?_ ?_; rotate_left
                  · (intro V hSV; obtain ⟨y1, x0, x1, x2, x3, x4⟩ := HV.out V hSV; go_simp; all_goals (with_reducible rfl))
                  (try simp only [Act.put, List.setIfInBounds_toArray, List.set_cons_zero, List.set_cons_succ])
                  refine' takeX (E := 99) (i := 2) (v := _) rfl (by kernel_rfl) (by kernel_rfl) (by kernel_rfl) (by kernel_rfl) (fun _ _ _ h => h) (by rfl) (Below.refl _ _) ?_ ?_; rotate_left
                  · (intro V hSV; obtain ⟨y1, x0, x1, x2, x3, x4⟩ := HV.out V hSV; go_simp; all_goals (with_reducible rfl))
                  (try simp only [Act.put, List.setIfInBounds_toArray, List.set_cons_zero, List.set_cons_succ])
                  refine' takeX (E := 99) (i := 3) (v := _) rfl (by kernel_rfl) (by kernel_rfl) (by kernel_rfl) (by kernel_rfl) (fun _ _ _ h => h) (by rfl) (Below.refl _ _) ?_ ?_; rotate_left
                  · (intro V hSV; obtain ⟨y1, x0, x1, x2, x3, x4⟩ := HV.out V hSV; go_simp; all_goals (with_reducible rfl))
                  (try simp only [Act.put, List.setIfInBounds_toArray, List.set_cons_zero, List.set_cons_succ])
                  refine' takeX (E := 99) (i := 4) (v := _) rfl (by kernel_rfl) (by kernel_rfl) (by kernel_rfl) (by kernel_rfl) (fun _ _ _ h => h) (by rfl) (Below.refl _ _) ?_ ?_; rotate_left
                  · (intro V hSV; obtain ⟨y1, x0, x1, x2, x3, x4⟩ := HV.out V hSV; go_simp; all_goals (with_reducible rfl))
                  (try simp only [Act.put, List.setIfInBounds_toArray, List.set_cons_zero, List.set_cons_succ])
                  refine' takeX (E := 99) (i := 5) (v := _) rfl (by kernel_rfl) (by kernel_rfl) (by kernel_rfl) (by kernel_rfl) (fun _ _ _ h => h) (by rfl) (Below.refl _ _) ?_ ?_; rotate_left
                  · (intro V hSV; obtain ⟨y1, x0, x1, x2, x3, x4⟩ := HV.out V hSV; go_simp; all_goals (with_reducible rfl))
                  (try simp only [Act.put, List.setIfInBounds_toArray, List.set_cons_zero, List.set_cons_succ])
                  refine' takeX (E := 99) (i := 6) (v := _) rfl (by kernel_rfl) (by kernel_rfl) (by kernel_rfl) (by kernel_rfl) (fun _ _ _ h => h) (by rfl) (Below.refl _ _) ?_ ?_; rotate_left
                  · (intro V hSV; obtain ⟨y1, x0, x1, x2, x3, x4⟩ := HV.out V hSV; go_simp; all_goals (with_reducible rfl))
                  (try simp only [Act.put, List.setIfInBounds_toArray, List.set_cons_zero, List.set_cons_succ])
                  refine' takeX (E := 99) (i := 7) (v := _) rfl (by kernel_rfl) (by kernel_rfl) (by kernel_rfl) (by kernel_rfl) (fun _ _ _ h => h) (by rfl) (Below.refl _ _) ?_ ?_; rotate_left
                  · (intro V hSV; obtain ⟨y1, x0, x1, x2, x3, x4⟩ := HV.out V hSV; go_simp; all_goals (with_reducible rfl))
                  (try simp only [Act.put, List.setIfInBounds_toArray, List.set_cons_zero, List.set_cons_succ])
                  refine callX (i := 8) rfl (by kernel_rfl) (fun K hK => ?_)
                  go_simp
                  refine HWy.out.mono ?_
                  rintro e w3 ⟨v3, rfl, ho3, hb3⟩
                  obtain ⟨va, vn, vc, rfl⟩ := ho3.any3
                  have hvl := ho3.len
                  have HB4 := hide (HB3a.out.trans ((below_undrew hb3).mono hsz5))
                  refine hK.out _ _ (fun _ => hb3) ?_
                  clear hK K ho3
                  (try simp only [Act.put, List.setIfInBounds_toArray, List.set_cons_zero, List.set_cons_succ])
                  refine callX (i := 9) rfl (by kernel_rfl) (fun K hK => ?_)
                  go_simp
                  refine hK.out _ _ (fun _ => hb3) ?_
                  clear hK K
                  (try simp only [Act.put, List.setIfInBounds_toArray, List.set_cons_zero, List.set_cons_succ])
                  refine callX (i := 10) rfl (by kernel_rfl) (fun K hK => ?_)
                  go_simp
                  refine hK.out _ _ (fun _ => hb3) ?_
                  clear hK K
                  (try simp only [Act.put, List.setIfInBounds_toArray, List.set_cons_zero, List.set_cons_succ])
                  refine doneX (by kernel_rfl) ?_ _
                  have HZ3 : Hid (((vn : Int) == 0) = zw) := by
                    show _ = _
                    rw [← HZw.out]
                    have e1 := HWl.out
                    by_cases e : wayL (hs.map ML.l) (aheadL (leaveL (ws.map ML.l) x.l.tx x.l) x.l) x.l = []
                    · rw [e] at e1 ⊢
                      simp only [List.length_nil] at e1
                      have : vn = 0 := by omega
                      simp [this]
                    · have : 0 < (wayL (hs.map ML.l) (aheadL (leaveL (ws.map ML.l) x.l.tx x.l) x.l) x.l).length := List.length_pos_iff.2 e
                      have : ¬ vn = 0 := by omega
                      simp [e, this]
                  clear HV HWy hb3
                  go_wp2
                  go_meet
                  exact ⟨by rw [← HZ3.out], HB4⟩
                case rest =>
                  obtain ⟨rfl, HB6⟩ := hcut
                  have hB6 := HB6.out
                  have hsz6 := hB6.size
                  have hT6 := HT2.out.keep hB6
                  have HX6 := hide (HX2.out.same (hB6.block _ (by omega)))
                  obtain ⟨x0, x1, x2, x3, x4⟩ := HX6.out.zero
                  have HT6 := hide hT6
                  have HK6 : Hid (Keeps (fun k => k = q) w _) := hide (kp_then (kp_then (Below.keeps (HBx.out.trans (HB.out.mono (by omega))) _) (fun k hk _ => hk) HP2.out.kp) (fun k hk _ => hk) (Below.keeps hB6 _))
                  cases zw with
                  | true =>
                    have HL6 := hide (leave_any q ha k hc wa2 wn2 wc2 hs ws2 x.l.tx ml0 _ hT6.a (hT6.fz 1) (ml0_ok _) (by omega))
                    have hl0 : ml0.l = lck0 := rfl
                    clear hT6 hB5 hB3
                    go_upto_region 15 with (first
                      | (go_at_call 126; go_must (refine HL6.out.mono ?_); rintro e w7 ⟨v7, rfl, hp7⟩; obtain ⟨wa7, wn7, wc7, rfl⟩ := hp7.o.any3; have HP7 := hide hp7; clear hp7))
                    have hT7 := HT6.out.setW HP7.out (fun m hm => HT6.out.wo m (List.mem_filter.1 hm).1)
                    have hsz7 := HP7.out.kp.size
                    have HK7 := hide (kp_then HK6.out (fun k hk _ => hk) HP7.out.kp)
                    have c07 := hT7.c0
                    have HT7 := hide hT7
                    clear hT7 x0 x1 x2 x3 x4
                    by_cases h4 : 400 ≤ k
                    · omega
                    · have h4' : ¬ (400 : Int) ≤ (k : Int) := by omega
                      have HR4 := hide (show r = (⟨hs.map ML.l ++ [x.l], leaveL (ws2.map ML.l) x.l.tx lck0⟩, true, 0) by rw [HR1.out, if_pos trivial, if_neg (by omega)])
                      have HX7 := hide (HX6.out.same (HP7.out.kp.block w.heap.size (by have := HK6.out.size; omega) (by omega)))
                      obtain ⟨cb, hcb, hcY, hcf⟩ := isY_cut3 layK HT7.out.h HT7.out.fh k (Nat.le_refl _)
                      have hcb : ∀ W, (Instr.sliceAt 33 (.slice ha k hc) none (some (.int .i64 (k : Int))) (some (.int .i64 (k : Int)))).run Tryz.prog W = .ok (.slice cb k k) W := hcb
                      rw [List.take_of_length_le (by omega)] at hcY
                      have HCY := hide hcY
                      have HCF := hide hcf
                      have HV : Hid (∀ V, Below w7.drew.heap.size w7.drew V → V.cell? ⟨q, 0, none⟩ = some (.slice ha k hc) ∧ V.cell? ⟨w.heap.size, 0, none⟩ = some (.int .u64 x.l.tx) ∧ V.cell? ⟨w.heap.size, 1, none⟩ = some (.int .i64 x.l.lv) ∧ V.cell? ⟨w.heap.size, 2, none⟩ = some (.int .i64 x.l.md) ∧ V.cell? ⟨w.heap.size, 3, none⟩ = some (.slice x.la x.ln x.lc) ∧ V.cell? ⟨w.heap.size, 4, none⟩ = some (.slice x.ha x.hn x.hc)) := fun V hV => by
                        have hV2 := below_undrew hV
                        exact ⟨(HT7.out.keep hV2).c0, (HX7.out.same (hV2.block _ (by have := HK7.out.size; have := HBx.out.size; omega))).zero⟩
                      have HN7 : Hid (Below w7.drew.heap.size w7.drew (w7.drew.alloc (.cells #[.int .u64 x.l.tx, .int .i64 x.l.lv, .int .i64 x.l.md, .slice x.la x.ln x.lc, .slice x.ha x.hn x.hc] 41))) := new_below _ _
                      have HOne := hide (ownY_one (L := layK) w7.drew w7.drew.heap.size #[.int .u64 x.l.tx, .int .i64 x.l.lv, .int .i64 x.l.md, .slice x.la x.ln x.lc, .slice x.ha x.hn x.hc] x (Nat.le_refl _) rfl)
                      clear hcY hcf
                      go_upto_region 17 with fail
                      clear c07
                      refine startX 21 (by kernel_rfl) ?_
                      refine' takeX (E := 21) (i := 0) (v := _) rfl (by kernel_rfl) (by kernel_rfl) (by kernel_rfl) (by kernel_rfl) (fun _ _ _ h => h) (by rfl) (Below.refl _ _) ?_ ?_; rotate_left
                      · (intro V hSV; obtain ⟨y1, x0, x1, x2, x3, x4⟩ := HV.out V hSV; go_simp; all_goals (with_reducible rfl))
                      (try simp only [Act.put, List.setIfInBounds_toArray, List.set_cons_zero, List.set_cons_succ])
                      refine' takeX (E := 21) (i := 1) (v := _) rfl (by kernel_rfl) (by kernel_rfl) (by kernel_rfl) (by kernel_rfl) (fun _ _ _ h => h) (by rfl) (Below.refl _ _) ?_ ?_; rotate_left
                      · (intro V hSV; obtain ⟨y1, x0, x1, x2, x3, x4⟩ := HV.out V hSV; go_simp; all_goals (with_reducible rfl))
                      (try simp only [Act.put, List.setIfInBounds_toArray, List.set_cons_zero, List.set_cons_succ])
                      refine' takeX (E := 21) (i := 2) (v := _) rfl (by kernel_rfl) (by kernel_rfl) (by kernel_rfl) (by kernel_rfl) (fun _ _ _ h => h) (by rfl) (Below.refl _ _) ?_ ?_; rotate_left
                      · (intro V hSV; obtain ⟨y1, x0, x1, x2, x3, x4⟩ := HV.out V hSV; go_simp; all_goals (with_reducible rfl))
                      (try simp only [Act.put, List.setIfInBounds_toArray, List.set_cons_zero, List.set_cons_succ])
                      refine' takeX (E := 21) (i := 3) (v := _) rfl (by kernel_rfl) (by kernel_rfl) (by kernel_rfl) (by kernel_rfl) (fun _ _ _ h => h) (by rfl) (Below.refl _ _) ?_ ?_; rotate_left
                      · (intro V hSV; obtain ⟨y1, x0, x1, x2, x3, x4⟩ := HV.out V hSV; go_simp; all_goals (with_reducible rfl))
                      (try simp only [Act.put, List.setIfInBounds_toArray, List.set_cons_zero, List.set_cons_succ])
                      refine' takeX (E := 21) (i := 4) (v := _) rfl (by kernel_rfl) (by kernel_rfl) (by kernel_rfl) (by kernel_rfl) (fun _ _ _ h => h) (by rfl) (Below.refl _ _) ?_ ?_; rotate_left
                      · (intro V hSV; obtain ⟨y1, x0, x1, x2, x3, x4⟩ := HV.out V hSV; go_simp; all_goals (with_reducible rfl))
                      (try simp only [Act.put, List.setIfInBounds_toArray, List.set_cons_zero, List.set_cons_succ])
                      refine' takeX (E := 21) (i := 5) (v := _) rfl (by kernel_rfl) (by kernel_rfl) (by kernel_rfl) (by kernel_rfl) (fun _ _ _ h => h) (by rfl) (Below.refl _ _) ?_ ?_; rotate_left
                      · (intro V hSV; obtain ⟨y1, x0, x1, x2, x3, x4⟩ := HV.out V hSV; go_simp; all_goals (with_reducible rfl))
                      (try simp only [Act.put, List.setIfInBounds_toArray, List.set_cons_zero, List.set_cons_succ])
                      refine' takeX (E := 21) (i := 6) (v := _) rfl (by kernel_rfl) (by kernel_rfl) (by kernel_rfl) (by kernel_rfl) (fun _ _ _ h => h) (by rfl) (Below.refl _ _) ?_ ?_; rotate_left
                      · (intro V hSV; obtain ⟨y1, x0, x1, x2, x3, x4⟩ := HV.out V hSV; go_simp; all_goals (with_reducible rfl))
                      (try simp only [Act.put, List.setIfInBounds_toArray, List.set_cons_zero, List.set_cons_succ])
                      refine' takeX (E := 21) (i := 7) (v := _) rfl (by kernel_rfl) (by kernel_rfl) (by kernel_rfl) (by kernel_rfl) (fun _ _ _ h => h) (by rfl) (Below.refl _ _) ?_ ?_; rotate_left
                      · (intro V hSV; obtain ⟨y1, x0, x1, x2, x3, x4⟩ := HV.out V hSV; go_simp; all_goals (with_reducible rfl))
                      (try simp only [Act.put, List.setIfInBounds_toArray, List.set_cons_zero, List.set_cons_succ])
                      refine' takeX (E := 21) (i := 8) (v := _) rfl (by kernel_rfl) (by kernel_rfl) (by kernel_rfl) (by kernel_rfl) (fun _ _ _ h => h) (by rfl) (Below.refl _ _) ?_ ?_; rotate_left
                      · (intro V hSV; obtain ⟨y1, x0, x1, x2, x3, x4⟩ := HV.out V hSV; go_simp; all_goals (with_reducible rfl))
                      (try simp only [Act.put, List.setIfInBounds_toArray, List.set_cons_zero, List.set_cons_succ])
                      refine' takeX (E := 21) (i := 9) (v := _) rfl (by kernel_rfl) (by kernel_rfl) (by kernel_rfl) (by kernel_rfl) (fun _ _ _ h => h) (by rfl) (Below.refl _ _) ?_ ?_; rotate_left
                      · (intro V hSV; obtain ⟨y1, x0, x1, x2, x3, x4⟩ := HV.out V hSV; go_simp; all_goals (with_reducible rfl))
                      (try simp only [Act.put, List.setIfInBounds_toArray, List.set_cons_zero, List.set_cons_succ])
                      refine' takeX (E := 21) (i := 10) (v := _) rfl (by kernel_rfl) (by kernel_rfl) (by kernel_rfl) (by kernel_rfl) (fun _ _ _ h => h) (by rfl) (Below.refl _ _) ?_ ?_; rotate_left
                      · (intro V hSV; obtain ⟨y1, x0, x1, x2, x3, x4⟩ := HV.out V hSV; go_simp; all_goals (with_reducible rfl))
                      (try simp only [Act.put, List.setIfInBounds_toArray, List.set_cons_zero, List.set_cons_succ])
                      refine' takeX (E := 21) (i := 11) (v := _) rfl (by kernel_rfl) (by kernel_rfl) (by kernel_rfl) (by kernel_rfl) (fun _ _ _ h => h) (by rfl) (Below.refl _ _) ?_ ?_; rotate_left
                      · (intro V hSV; obtain ⟨y1, x0, x1, x2, x3, x4⟩ := HV.out V hSV; go_simp; all_goals (with_reducible rfl))
                      (try simp only [Act.put, List.setIfInBounds_toArray, List.set_cons_zero, List.set_cons_succ])
                      refine' takeX (E := 21) (i := 12) (v := _) rfl (by kernel_rfl) (by kernel_rfl) (by kernel_rfl) (by kernel_rfl) (fun _ _ _ h => h) (by rfl) (Below.refl _ _) ?_ ?_; rotate_left
                      · (intro V hSV; obtain ⟨y1, x0, x1, x2, x3, x4⟩ := HV.out V hSV; go_simp; all_goals (with_reducible rfl))
                      (try simp only [Act.put, List.setIfInBounds_toArray, List.set_cons_zero, List.set_cons_succ])
                      refine' takeX (E := 21) (i := 13) (v := _) rfl (by kernel_rfl) (by kernel_rfl) (by kernel_rfl) (by kernel_rfl) (fun _ _ _ h => h) (by rfl) (Below.refl _ _) ?_ ?_; rotate_left
                      · (intro V hSV; obtain ⟨y1, x0, x1, x2, x3, x4⟩ := HV.out V hSV; go_simp; all_goals (with_reducible rfl))
                      (try simp only [Act.put, List.setIfInBounds_toArray, List.set_cons_zero, List.set_cons_succ])
                      refine' takeX (E := 21) (i := 14) (v := _) rfl (by kernel_rfl) (by kernel_rfl) (by kernel_rfl) (by kernel_rfl) (fun _ _ _ h => h) (by rfl) (Below.refl _ _) ?_ ?_; rotate_left
                      · (intro V hSV; obtain ⟨y1, x0, x1, x2, x3, x4⟩ := HV.out V hSV; go_simp; all_goals (with_reducible rfl))
                      (try simp only [Act.put, List.setIfInBounds_toArray, List.set_cons_zero, List.set_cons_succ])
                      refine' takeX (E := 21) (i := 15) (v := _) rfl (by kernel_rfl) (by kernel_rfl) (by kernel_rfl) (by kernel_rfl) (fun _ _ _ h => h) (by rfl) (Below.refl _ _) ?_ ?_; rotate_left
                      · (intro V hSV; obtain ⟨y1, x0, x1, x2, x3, x4⟩ := HV.out V hSV; go_simp; all_goals (with_reducible rfl))
                      (try simp only [Act.put, List.setIfInBounds_toArray, List.set_cons_zero, List.set_cons_succ])
                      refine' takeX (E := 21) (i := 16) (v := _) rfl (by kernel_rfl) (by kernel_rfl) (by kernel_rfl) (by kernel_rfl) (fun _ _ _ h => h) (by rfl) (Below.refl _ _) ?_ ?_; rotate_left
                      · (intro V hSV; obtain ⟨y1, x0, x1, x2, x3, x4⟩ := HV.out V hSV; go_simp; all_goals (with_reducible rfl))
                      (try simp only [Act.put, List.setIfInBounds_toArray, List.set_cons_zero, List.set_cons_succ])
                      refine callX (i := 17) rfl (by kernel_rfl) (fun K hK => ?_)
                      go_simp
                      refine hK.out _ _ (fun _ => HN7.out) ?_
                      clear hK K
                      (try simp only [Act.put, List.setIfInBounds_toArray, List.set_cons_zero, List.set_cons_succ])
                      refine callX (i := 18) rfl (by kernel_rfl) (fun K hK => ?_)
                      refine step_growY layK _ (by rfl) (.tmp 115) (.tmp 117) (by rfl) cb k hs (by rfl) (HCY.out.keep (below_undrew HN7.out)) (fun _ => HCF.out) (some ⟨w7.drew.heap.size, 0, none⟩) 1 1 [x] (by rfl) HOne.out.is.src (by omega) (by simp; omega) ?_
                      intro v8 w8 hown8 hg8
                      obtain ⟨a8, n8, c8, rfl⟩ := hown8.any3
                      have HO8 := hide hown8
                      have hb8 := below_noneY hg8
                      have HB8 := hide hb8
                      have hb78 := HN7.out.trans (hb8.mono HN7.out.size)
                      have hT8 := HT7.out.keep (below_undrew hb78)
                      have c08 := hT8.c0
                      have f08 := hT8.fz 0
                      refine hK.out _ _ (fun _ => hb78) ?_
                      clear hK K hown8 hg8
                      (try simp only [Act.put, List.setIfInBounds_toArray, List.set_cons_zero, List.set_cons_succ])
                      refine callX (i := 19) rfl (by kernel_rfl) (fun K hK => ?_)
                      go_simp
                      refine hK.out _ _ (fun _ => hb78) ?_
                      clear hK K
                      (try simp only [Act.put, List.setIfInBounds_toArray, List.set_cons_zero, List.set_cons_succ])
                      refine callX (i := 20) rfl (by kernel_rfl) (fun K hK => ?_)
                      go_simp
                      refine hK.out _ _ (fun _ => hb78) ?_
                      clear hK K
                      (try simp only [Act.put, List.setIfInBounds_toArray, List.set_cons_zero, List.set_cons_succ])
                      refine callX (i := 21) rfl (by kernel_rfl) (fun K hK => ?_)
                      go_simp
                      refine hK.out _ _ (fun h => absurd rfl h) ?_
                      clear hK K
                      (try simp only [Act.put, List.setIfInBounds_toArray, List.set_cons_zero, List.set_cons_succ])
                      refine doneX (by kernel_rfl) ?_ _
                      have hT7N := HT7.out.keep (below_undrew HN7.out)
                      have hp8 := txP_set (q := q) (i := 0) HB8.out hT7N.lt HO8.out (congrArg Option.isSome hT7N.c0)
                      have HT9 := hide (hT7N.setH hp8 (fun m hm => by rcases List.mem_append.1 hm with e | e; exact HT7.out.ho m e; rw [List.mem_singleton.1 e]; exact HXo.out))
                      have HP9 := hide hp8
                      have HN7s := hide (below_undrew HN7.out).size
                      have HK9 := hide (kp_then (kp_then HK7.out (fun k hk _ => hk) (Below.keeps (below_undrew HN7.out) _)) (fun k hk _ => hk) hp8.kp)
                      clear hT8 hb8 hb78 c08 f08 HV hp8 hT7N
                      go_wp2
                      go_ret2
                      refine ⟨?_, a8, n8, c8, wa7, wn7, wc7, hs ++ [x], ws2.filter (stayM x.l.tx ml0), ?_⟩
                      · rw [HR4.out]; rfl
                      · rw [HR4.out]
                        exact ⟨HT9.out, by rw [List.map_append]; rfl, leaveM_l _ _ _, HK9.out, .inr (fun y hy => ⟨Nat.le_trans HK7.out.size (Nat.le_trans HN7s.out (ownY_at HO8.out y hy).1), by simpa [World.setCell] using (ownY_at HO8.out y hy).2⟩), .inr (fun y hy => ⟨by have h1 := (ownY_at HP7.out.o y hy).1; have h2 := HK6.out.size; omega, by simp only [size_setK]; exact Nat.lt_of_lt_of_le (ownY_at HP7.out.o y hy).2 (Nat.le_trans HN7s.out HB8.out.size)⟩)⟩
                  | false =>
                    have c16 := hT6.c1
                    have HSz := hide hs1
                    by_cases hjn : j = wn2
                    · have hjn' : ((j : Int) == (wn2 : Int)) = true := by simp [hjn]
                      have HQ : Hid ((ws2 ++ [x]).map ML.l = queuedL (ws2.map ML.l) x.l) := by
                        show _ = _
                        have hnm : x.l ∉ ws2.map ML.l := by
                          intro hm
                          obtain ⟨i, hi⟩ := List.getElem?_of_mem hm
                          have hil : i < (ws2.map ML.l).length := by
                            rcases Nat.lt_or_ge i (ws2.map ML.l).length with h | h
                            · exact h
                            · rw [List.getElem?_eq_none h] at hi; cases hi
                          rw [List.length_map] at hil
                          exact HAh.out.2.2.1 i (by omega) hi
                        unfold queuedL
                        rw [if_neg hnm, List.map_append]; rfl
                      obtain ⟨cb, hcb, hcY, hcf⟩ := isY_cut3 layK HT6.out.wt HT6.out.fw j (by omega)
                      have hcb : ∀ W, (Instr.sliceAt 33 (.slice wa2 wn2 wc2) none (some (.int .i64 (j : Int))) (some (.int .i64 (j : Int)))).run Tryz.prog W = .ok (.slice cb j j) W := hcb
                      rw [List.take_of_length_le (by omega)] at hcY
                      have HCY := hide hcY
                      have HCF := hide hcf
                      have HV : Hid (∀ V, Below wc.drew.heap.size wc.drew V → V.cell? ⟨q, 1, none⟩ = some (.slice wa2 wn2 wc2) ∧ V.cell? ⟨w.heap.size, 0, none⟩ = some (.int .u64 x.l.tx) ∧ V.cell? ⟨w.heap.size, 1, none⟩ = some (.int .i64 x.l.lv) ∧ V.cell? ⟨w.heap.size, 2, none⟩ = some (.int .i64 x.l.md) ∧ V.cell? ⟨w.heap.size, 3, none⟩ = some (.slice x.la x.ln x.lc) ∧ V.cell? ⟨w.heap.size, 4, none⟩ = some (.slice x.ha x.hn x.hc)) := fun V hV => by
                        have hV2 := below_undrew hV
                        exact ⟨(HT6.out.keep hV2).c1, (HX6.out.same (hV2.block _ (by have := HK6.out.size; have := HBx.out.size; omega))).zero⟩
                      have HN7 : Hid (Below wc.drew.heap.size wc.drew (wc.drew.alloc (.cells #[.int .u64 x.l.tx, .int .i64 x.l.lv, .int .i64 x.l.md, .slice x.la x.ln x.lc, .slice x.ha x.hn x.hc] 41))) := new_below _ _
                      have HOne := hide (ownY_one (L := layK) wc.drew wc.drew.heap.size #[.int .u64 x.l.tx, .int .i64 x.l.lv, .int .i64 x.l.md, .slice x.la x.ln x.lc, .slice x.ha x.hn x.hc] x (Nat.le_refl _) rfl)
                      have HJ := hide hjn
                      clear hcY hcf hT6 hB5 hB3 x0 x1 x2 x3 x4 hjn
                      go_upto_region 20 with fail
                      clear c16
                      refine startX 13 (by kernel_rfl) ?_
                      refine' takeX (E := 13) (i := 0) (v := _) rfl (by kernel_rfl) (by kernel_rfl) (by kernel_rfl) (by kernel_rfl) (fun _ _ _ h => h) (by rfl) (Below.refl _ _) ?_ ?_; rotate_left
                      · (intro V hSV; obtain ⟨y1, x0, x1, x2, x3, x4⟩ := HV.out V hSV; go_simp; all_goals (with_reducible rfl))
                      (try simp only [Act.put, List.setIfInBounds_toArray, List.set_cons_zero, List.set_cons_succ])
                      refine' takeX (E := 13) (i := 1) (v := _) rfl (by kernel_rfl) (by kernel_rfl) (by kernel_rfl) (by kernel_rfl) (fun _ _ _ h => h) (by rfl) (Below.refl _ _) ?_ ?_; rotate_left
                      · (intro V hSV; obtain ⟨y1, x0, x1, x2, x3, x4⟩ := HV.out V hSV; go_simp; all_goals (with_reducible rfl))
                      (try simp only [Act.put, List.setIfInBounds_toArray, List.set_cons_zero, List.set_cons_succ])
                      refine' takeX (E := 13) (i := 2) (v := _) rfl (by kernel_rfl) (by kernel_rfl) (by kernel_rfl) (by kernel_rfl) (fun _ _ _ h => h) (by rfl) (Below.refl _ _) ?_ ?_; rotate_left
                      · (intro V hSV; obtain ⟨y1, x0, x1, x2, x3, x4⟩ := HV.out V hSV; go_simp; all_goals (with_reducible rfl))
                      (try simp only [Act.put, List.setIfInBounds_toArray, List.set_cons_zero, List.set_cons_succ])
                      refine' takeX (E := 13) (i := 3) (v := _) rfl (by kernel_rfl) (by kernel_rfl) (by kernel_rfl) (by kernel_rfl) (fun _ _ _ h => h) (by rfl) (Below.refl _ _) ?_ ?_; rotate_left
                      · (intro V hSV; obtain ⟨y1, x0, x1, x2, x3, x4⟩ := HV.out V hSV; go_simp; all_goals (with_reducible rfl))
                      (try simp only [Act.put, List.setIfInBounds_toArray, List.set_cons_zero, List.set_cons_succ])
                      refine' takeX (E := 13) (i := 4) (v := _) rfl (by kernel_rfl) (by kernel_rfl) (by kernel_rfl) (by kernel_rfl) (fun _ _ _ h => h) (by rfl) (Below.refl _ _) ?_ ?_; rotate_left
                      · (intro V hSV; obtain ⟨y1, x0, x1, x2, x3, x4⟩ := HV.out V hSV; go_simp; all_goals (with_reducible rfl))
                      (try simp only [Act.put, List.setIfInBounds_toArray, List.set_cons_zero, List.set_cons_succ])
                      refine' takeX (E := 13) (i := 5) (v := _) rfl (by kernel_rfl) (by kernel_rfl) (by kernel_rfl) (by kernel_rfl) (fun _ _ _ h => h) (by rfl) (Below.refl _ _) ?_ ?_; rotate_left
                      · (intro V hSV; obtain ⟨y1, x0, x1, x2, x3, x4⟩ := HV.out V hSV; go_simp; all_goals (with_reducible rfl))
                      (try simp only [Act.put, List.setIfInBounds_toArray, List.set_cons_zero, List.set_cons_succ])
                      refine' takeX (E := 13) (i := 6) (v := _) rfl (by kernel_rfl) (by kernel_rfl) (by kernel_rfl) (by kernel_rfl) (fun _ _ _ h => h) (by rfl) (Below.refl _ _) ?_ ?_; rotate_left
                      · (intro V hSV; obtain ⟨y1, x0, x1, x2, x3, x4⟩ := HV.out V hSV; go_simp; all_goals (with_reducible rfl))
                      (try simp only [Act.put, List.setIfInBounds_toArray, List.set_cons_zero, List.set_cons_succ])
                      refine' takeX (E := 13) (i := 7) (v := _) rfl (by kernel_rfl) (by kernel_rfl) (by kernel_rfl) (by kernel_rfl) (fun _ _ _ h => h) (by rfl) (Below.refl _ _) ?_ ?_; rotate_left
                      · (intro V hSV; obtain ⟨y1, x0, x1, x2, x3, x4⟩ := HV.out V hSV; go_simp; all_goals (with_reducible rfl))
                      (try simp only [Act.put, List.setIfInBounds_toArray, List.set_cons_zero, List.set_cons_succ])
                      refine' takeX (E := 13) (i := 8) (v := _) rfl (by kernel_rfl) (by kernel_rfl) (by kernel_rfl) (by kernel_rfl) (fun _ _ _ h => h) (by rfl) (Below.refl _ _) ?_ ?_; rotate_left
                      · (intro V hSV; obtain ⟨y1, x0, x1, x2, x3, x4⟩ := HV.out V hSV; go_simp; all_goals (with_reducible rfl))
                      (try simp only [Act.put, List.setIfInBounds_toArray, List.set_cons_zero, List.set_cons_succ])
                      refine callX (i := 9) rfl (by kernel_rfl) (fun K hK => ?_)
                      go_simp
                      refine hK.out _ _ (fun _ => HN7.out) ?_
                      clear hK K
                      (try simp only [Act.put, List.setIfInBounds_toArray, List.set_cons_zero, List.set_cons_succ])
                      refine callX (i := 10) rfl (by kernel_rfl) (fun K hK => ?_)
                      refine step_growY layK _ (by rfl) (.tmp 135) (.tmp 137) (by rfl) cb j ws2 (by rfl) (HCY.out.keep (below_undrew HN7.out)) (fun _ => HCF.out) (some ⟨wc.drew.heap.size, 0, none⟩) 1 1 [x] (by rfl) HOne.out.is.src (by omega) (by simp; omega) ?_
                      intro v8 w8 hown8 hg8
                      obtain ⟨a8, n8, c8, rfl⟩ := hown8.any3
                      have HO8 := hide hown8
                      have hb8 := below_noneY hg8
                      have HB8 := hide hb8
                      have hb78 := HN7.out.trans (hb8.mono HN7.out.size)
                      have hT8 := HT6.out.keep (below_undrew hb78)
                      have c08 := hT8.c1
                      have f08 := hT8.fz 1
                      refine hK.out _ _ (fun _ => hb78) ?_
                      clear hK K hown8 hg8
                      (try simp only [Act.put, List.setIfInBounds_toArray, List.set_cons_zero, List.set_cons_succ])
                      refine callX (i := 11) rfl (by kernel_rfl) (fun K hK => ?_)
                      go_simp
                      refine hK.out _ _ (fun _ => hb78) ?_
                      clear hK K
                      (try simp only [Act.put, List.setIfInBounds_toArray, List.set_cons_zero, List.set_cons_succ])
                      refine callX (i := 12) rfl (by kernel_rfl) (fun K hK => ?_)
                      go_simp
                      refine hK.out _ _ (fun _ => hb78) ?_
                      clear hK K
                      (try simp only [Act.put, List.setIfInBounds_toArray, List.set_cons_zero, List.set_cons_succ])
                      refine callX (i := 13) rfl (by kernel_rfl) (fun K hK => ?_)
                      go_simp
                      refine hK.out _ _ (fun h => absurd rfl h) ?_
                      clear hK K
                      (try simp only [Act.put, List.setIfInBounds_toArray, List.set_cons_zero, List.set_cons_succ])
                      refine doneX (by kernel_rfl) ?_ _
                      have hT7N := HT6.out.keep (below_undrew HN7.out)
                      have hp8 := txP_set (q := q) (i := 1) HB8.out hT7N.lt HO8.out (congrArg Option.isSome hT7N.c1)
                      have HTa := hide (hT7N.setW hp8 (fun m hm => by rcases List.mem_append.1 hm with e | e; exact HT6.out.wo m e; rw [List.mem_singleton.1 e]; exact HXo.out))
                      have HKa := hide (kp_then (kp_then HK6.out (fun k hk _ => hk) (Below.keeps (below_undrew HN7.out) _)) (fun k hk _ => hk) hp8.kp)
                      have HXa := hide ((HX6.out.same ((below_undrew HN7.out).block w.heap.size (by have := HK6.out.size; have := HBx.out.size; omega))).same (hp8.kp.block w.heap.size (Nat.lt_of_lt_of_le (by have := HK6.out.size; have := HBx.out.size; omega) (below_undrew HN7.out).size) (by omega)))
                      have HPw : Hid (a8 = wa ∨ ∀ y, a8 = some y → w.heap.size ≤ y.block ∧ y.block < w8.heap.size) := hide (.inr (fun y hy => ⟨Nat.le_trans HK6.out.size (Nat.le_trans (below_undrew HN7.out).size (ownY_at HO8.out y hy).1), (ownY_at HO8.out y hy).2⟩))
                      have hlt9 := Nat.lt_of_lt_of_le (show w.heap.size < wc.heap.size by have := HK6.out.size; have := HBx.out.size; omega) (Nat.le_trans (below_undrew HN7.out).size hp8.kp.size)
                      have hn8 : n8 ≤ 200 := by have := HTa.out.wt.1; rw [List.length_append, List.length_singleton] at this; omega
                      clear hT8 hb8 hb78 c08 f08 HV hp8 hT7N
                      obtain ⟨w9, hw9⟩ : ∃ w9, w9 = w8.setCell ⟨q, 1, none⟩ (.slice a8 n8 c8) := ⟨_, rfl⟩
                      have HPw : Hid (a8 = wa ∨ ∀ y, a8 = some y → w.heap.size ≤ y.block ∧ y.block < w9.heap.size) := by rw [hw9]; simp only [size_setK]; exact HPw.out
                      rw [← hw9] at HTa HKa HXa hlt9 ⊢
                      clear hw9
                      go_upto_region 21 with fail
                      have HEd := hide (xedges_any q ha k hc a8 n8 c8 hs (ws2 ++ [x]) w9.drew (HTa.out.keep (Below.refl _ _).drew).a (by omega) (by omega))
                      have HLe := hide (ed_len200 hs (ws2 ++ [x]) (by omega) (by have := HTa.out.wt.1; omega))
                      obtain ⟨zc, hzc⟩ : ∃ z, decide (cycleW (edgesL (hs.map ML.l) ((ws2 ++ [x]).map ML.l)) x.l.tx = []) = z := ⟨_, rfl⟩
                      have HZc := hide hzc
                      have HR5 : Hid (r = if zc = true then (⟨hs.map ML.l, (ws2 ++ [x]).map ML.l⟩, false, 0) else (⟨hs.map ML.l, leaveL ((ws2 ++ [x]).map ML.l) x.l.tx lck0⟩, false, 131)) := by
                        show _ = _
                        rw [HR1.out, if_neg (by decide), ← hzc, ← HQ.out]
                        by_cases e : cycleW (edgesL (hs.map ML.l) ((ws2 ++ [x]).map ML.l)) x.l.tx = []
                        · rw [if_pos e, if_pos (decide_eq_true e)]
                        · rw [if_neg e, if_neg (fun e2 => e (of_decide_eq_true e2))]
                      clear hzc
                      go_cut [146] from 141 to 151 (fun s wx => s = .bool (!zc) ∧ Hid (Below w9.heap.size w9 wx))
                      case first =>
                        have HV : Hid (∀ V, Below w9.drew.heap.size w9.drew V → V.cell? ⟨w.heap.size, 0, none⟩ = some (.int .u64 x.l.tx)) := fun V hV => by
                          have hV2 := below_undrew hV
                          exact (HXa.out.same (hV2.block _ (by have := HKa.out.size; have := HSz.out; omega))).zero.1
                        refine startX 99 (by kernel_rfl) ?_
                        refine' takeX (E := 99) (i := 0) (v := _) rfl (by kernel_rfl) (by kernel_rfl) (by kernel_rfl) (by kernel_rfl) (fun _ _ _ h => h) (by rfl) (Below.refl _ _) ?_ ?_; rotate_left
                        · (intro V hSV; obtain x0 := HV.out V hSV; go_simp; all_goals (with_reducible rfl))
                        (try simp only [Act.put, List.setIfInBounds_toArray, List.set_cons_zero, List.set_cons_succ])
                        refine' takeX (E := 99) (i := 2) (v := _) rfl (by kernel_rfl) (by kernel_rfl) (by kernel_rfl) (by kernel_rfl) (fun _ _ _ h => h) (by rfl) (Below.refl _ _) ?_ ?_; rotate_left
                        · (intro V hSV; obtain x0 := HV.out V hSV; go_simp; all_goals (with_reducible rfl))
                        (try simp only [Act.put, List.setIfInBounds_toArray, List.set_cons_zero, List.set_cons_succ])
                        refine' takeX (E := 99) (i := 3) (v := _) rfl (by kernel_rfl) (by kernel_rfl) (by kernel_rfl) (by kernel_rfl) (fun _ _ _ h => h) (by rfl) (Below.refl _ _) ?_ ?_; rotate_left
                        · (intro V hSV; obtain x0 := HV.out V hSV; go_simp; all_goals (with_reducible rfl))
                        (try simp only [Act.put, List.setIfInBounds_toArray, List.set_cons_zero, List.set_cons_succ])
                        refine callX (i := 1) rfl (by kernel_rfl) (fun K hK => ?_)
                        go_simp
                        refine HEd.out.mono ?_
                        rintro e w3 ⟨v3, rfl, ho3, hb3⟩
                        obtain ⟨va, vn, vc, rfl⟩ := ho3.any3
                        have hvl := ho3.is.1
                        have HCy := hide (cycleN_any va vn vc _ x.l.tx w3 ho3.is (by have := HLe.out; omega))
                        have HB4 := hide (below_undrew hb3)
                        refine hK.out _ _ (fun _ => hb3) ?_
                        clear hK K ho3 hvl
                        (try simp only [Act.put, List.setIfInBounds_toArray, List.set_cons_zero, List.set_cons_succ])
                        refine callX (i := 4) rfl (by kernel_rfl) (fun K hK => ?_)
                        go_simp
                        refine HCy.out.mono ?_
                        rintro e w4 ⟨v4, rfl, ho4, hb4, hnil⟩
                        obtain ⟨ca, cn, cc, rfl⟩ := ho4.any3
                        have hb5 := hb3.trans (hb4.mono hb3.size)
                        have HB5 := hide (below_undrew hb5)
                        have HC5 : Hid (ca.isNone = zc) := by
                          show _ = _
                          rw [← HZc.out]
                          by_cases e : cycleW (edgesL (hs.map ML.l) ((ws2 ++ [x]).map ML.l)) x.l.tx = []
                          · have := hnil e
                            cases this
                            rw [decide_eq_true e]; rfl
                          · rcases ho4.form with ⟨e1, e2⟩ | ⟨g, cap, e1, -⟩
                            · exact absurd e2 e
                            · cases e1; rw [decide_eq_false e]; rfl
                        refine hK.out _ _ (fun _ => hb5) ?_
                        clear hK K ho4 hnil
                        (try simp only [Act.put, List.setIfInBounds_toArray, List.set_cons_zero, List.set_cons_succ])
                        have HC6 := HC5
                        cases ca with
                        | none =>
                          refine callX (i := 5) rfl (by kernel_rfl) (fun K hK => ?_)
                          go_simp
                          refine hK.out _ _ (fun _ => hb5) ?_
                          clear hK K
                          (try simp only [Act.put, List.setIfInBounds_toArray, List.set_cons_zero, List.set_cons_succ])
                          refine doneX (by kernel_rfl) ?_ _
                          go_wp2
                          go_meet
                          exact ⟨by rw [← HC5.out]; rfl, HB5⟩
                        | some y =>
                          refine callX (i := 5) rfl (by kernel_rfl) (fun K hK => ?_)
                          go_simp
                          refine hK.out _ _ (fun _ => hb5) ?_
                          clear hK K
                          (try simp only [Act.put, List.setIfInBounds_toArray, List.set_cons_zero, List.set_cons_succ])
                          refine doneX (by kernel_rfl) ?_ _
                          go_wp2
                          go_meet
                          exact ⟨by rw [← HC5.out]; rfl, HB5⟩
                      case rest =>
                        obtain ⟨rfl, HBc⟩ := hcut
                        have hBc := HBc.out
                        have hTc := HTa.out.keep hBc
                        have HTc := hide hTc
                        have HKc := hide (kp_then HKa.out (fun k hk _ => hk) (Below.keeps hBc _))
                        have HXc := hide (HXa.out.same (hBc.block _ (by have := HKa.out.size; have := HSz.out; omega)))
                        cases zc with
                        | true =>
                          have HR6 := hide (show r = (⟨hs.map ML.l, (ws2 ++ [x]).map ML.l⟩, false, 0) from HR5.out.trans (if_pos rfl))
                          clear hTc hBc
                          go_wp2
                          go_ret2
                          refine ⟨?_, ha, k, hc, a8, n8, c8, hs, ws2 ++ [x], ?_⟩
                          · rw [HR6.out]; rfl
                          · rw [HR6.out]; exact ⟨HTc.out, rfl, rfl, HKc.out, .inl rfl, HPw.out.imp id (fun h y hy => ⟨(h y hy).1, Nat.lt_of_lt_of_le (h y hy).2 HBc.out.size⟩)⟩
                        | false =>
                          have HR6 := hide (show r = (⟨hs.map ML.l, leaveL ((ws2 ++ [x]).map ML.l) x.l.tx lck0⟩, false, 131) from HR5.out.trans (if_neg (by simp)))
                          have HLc := hide (leave_any q ha k hc a8 n8 c8 hs (ws2 ++ [x]) x.l.tx ml0 _ hTc.a (hTc.fz 1) (ml0_ok _) (by omega))
                          obtain ⟨x0, x1, x2, x3, x4⟩ := HXc.out.zero
                          have hl0 : ml0.l = lck0 := rfl
                          clear hTc hBc
                          go_wp2_with (first
                            | (go_at_call 126; go_must (refine HLc.out.mono ?_); rintro e w7 ⟨v7, rfl, hp7⟩; obtain ⟨wa7, wn7, wc7, rfl⟩ := hp7.o.any3; have HP7 := hide hp7; clear hp7))
                          go_ret2
                          refine ⟨?_, ha, k, hc, wa7, wn7, wc7, hs, (ws2 ++ [x]).filter (stayM x.l.tx ml0), ?_⟩
                          · rw [HR6.out]; rfl
                          · rw [HR6.out]
                            exact ⟨HTc.out.setW HP7.out (fun m hm => HTc.out.wo m (List.mem_filter.1 hm).1), rfl, leaveM_l _ _ _, kp_then HKc.out (fun k hk _ => hk) HP7.out.kp, .inl rfl, .inr (fun y hy => by have := ownY_at HP7.out.o y hy; have := HKc.out.size; omega)⟩
                    · have hjn' : ((j : Int) == (wn2 : Int)) = false := by simp; omega
                      have HQ : Hid (ws2.map ML.l = queuedL (ws2.map ML.l) x.l) := by
                        show _ = _
                        have hm : x.l ∈ ws2.map ML.l := by
                          rcases HAh.out.2.2.2 with e | e
                          · rw [List.length_map] at e; omega
                          · exact List.mem_of_getElem? e
                        unfold queuedL
                        rw [if_pos hm]
                      have HTa := HT6
                      have HKa := HK6
                      have HXa := HX6
                      have HPw : Hid (wa2 = wa ∨ ∀ y, wa2 = some y → w.heap.size ≤ y.block ∧ y.block < wc.heap.size) := hide (.inr (fun y hy => by have := ownY_at HP2.out.o y hy; have := hB5.size; have := hB3.size; omega))
                      clear hT6 hB5 hB3 x0 x1 x2 x3 x4
                      go_upto_region 21 with fail
                      have HEd := hide (xedges_any q ha k hc wa2 wn2 wc2 hs (ws2) wc.drew (HTa.out.keep (Below.refl _ _).drew).a (by omega) (by omega))
                      have HLe := hide (ed_len200 hs (ws2) (by omega) (by have := HTa.out.wt.1; omega))
                      obtain ⟨zc, hzc⟩ : ∃ z, decide (cycleW (edgesL (hs.map ML.l) ((ws2).map ML.l)) x.l.tx = []) = z := ⟨_, rfl⟩
                      have HZc := hide hzc
                      have HR5 : Hid (r = if zc = true then (⟨hs.map ML.l, (ws2).map ML.l⟩, false, 0) else (⟨hs.map ML.l, leaveL ((ws2).map ML.l) x.l.tx lck0⟩, false, 131)) := by
                        show _ = _
                        rw [HR1.out, if_neg (by decide), ← hzc, ← HQ.out]
                        by_cases e : cycleW (edgesL (hs.map ML.l) ((ws2).map ML.l)) x.l.tx = []
                        · rw [if_pos e, if_pos (decide_eq_true e)]
                        · rw [if_neg e, if_neg (fun e2 => e (of_decide_eq_true e2))]
                      clear hzc
                      go_cut [146] from 141 to 151 (fun s wx => s = .bool (!zc) ∧ Hid (Below wc.heap.size wc wx))
                      case first =>
                        have HV : Hid (∀ V, Below wc.drew.heap.size wc.drew V → V.cell? ⟨w.heap.size, 0, none⟩ = some (.int .u64 x.l.tx)) := fun V hV => by
                          have hV2 := below_undrew hV
                          exact (HXa.out.same (hV2.block _ (by have := HKa.out.size; have := HSz.out; omega))).zero.1
                        refine startX 99 (by kernel_rfl) ?_
                        refine' takeX (E := 99) (i := 0) (v := _) rfl (by kernel_rfl) (by kernel_rfl) (by kernel_rfl) (by kernel_rfl) (fun _ _ _ h => h) (by rfl) (Below.refl _ _) ?_ ?_; rotate_left
                        · (intro V hSV; obtain x0 := HV.out V hSV; go_simp; all_goals (with_reducible rfl))
                        (try simp only [Act.put, List.setIfInBounds_toArray, List.set_cons_zero, List.set_cons_succ])
                        refine' takeX (E := 99) (i := 2) (v := _) rfl (by kernel_rfl) (by kernel_rfl) (by kernel_rfl) (by kernel_rfl) (fun _ _ _ h => h) (by rfl) (Below.refl _ _) ?_ ?_; rotate_left
                        · (intro V hSV; obtain x0 := HV.out V hSV; go_simp; all_goals (with_reducible rfl))
                        (try simp only [Act.put, List.setIfInBounds_toArray, List.set_cons_zero, List.set_cons_succ])
                        refine' takeX (E := 99) (i := 3) (v := _) rfl (by kernel_rfl) (by kernel_rfl) (by kernel_rfl) (by kernel_rfl) (fun _ _ _ h => h) (by rfl) (Below.refl _ _) ?_ ?_; rotate_left
                        · (intro V hSV; obtain x0 := HV.out V hSV; go_simp; all_goals (with_reducible rfl))
                        (try simp only [Act.put, List.setIfInBounds_toArray, List.set_cons_zero, List.set_cons_succ])
                        refine callX (i := 1) rfl (by kernel_rfl) (fun K hK => ?_)
                        go_simp
                        refine HEd.out.mono ?_
                        rintro e w3 ⟨v3, rfl, ho3, hb3⟩
                        obtain ⟨va, vn, vc, rfl⟩ := ho3.any3
                        have hvl := ho3.is.1
                        have HCy := hide (cycleN_any va vn vc _ x.l.tx w3 ho3.is (by have := HLe.out; omega))
                        have HB4 := hide (below_undrew hb3)
                        refine hK.out _ _ (fun _ => hb3) ?_
                        clear hK K ho3 hvl
                        (try simp only [Act.put, List.setIfInBounds_toArray, List.set_cons_zero, List.set_cons_succ])
                        refine callX (i := 4) rfl (by kernel_rfl) (fun K hK => ?_)
                        go_simp
                        refine HCy.out.mono ?_
                        rintro e w4 ⟨v4, rfl, ho4, hb4, hnil⟩
                        obtain ⟨ca, cn, cc, rfl⟩ := ho4.any3
                        have hb5 := hb3.trans (hb4.mono hb3.size)
                        have HB5 := hide (below_undrew hb5)
                        have HC5 : Hid (ca.isNone = zc) := by
                          show _ = _
                          rw [← HZc.out]
                          by_cases e : cycleW (edgesL (hs.map ML.l) ((ws2).map ML.l)) x.l.tx = []
                          · have := hnil e
                            cases this
                            rw [decide_eq_true e]; rfl
                          · rcases ho4.form with ⟨e1, e2⟩ | ⟨g, cap, e1, -⟩
                            · exact absurd e2 e
                            · cases e1; rw [decide_eq_false e]; rfl
                        refine hK.out _ _ (fun _ => hb5) ?_
                        clear hK K ho4 hnil
                        (try simp only [Act.put, List.setIfInBounds_toArray, List.set_cons_zero, List.set_cons_succ])
                        have HC6 := HC5
                        cases ca with
                        | none =>
                          refine callX (i := 5) rfl (by kernel_rfl) (fun K hK => ?_)
                          go_simp
                          refine hK.out _ _ (fun _ => hb5) ?_
                          clear hK K
                          (try simp only [Act.put, List.setIfInBounds_toArray, List.set_cons_zero, List.set_cons_succ])
                          refine doneX (by kernel_rfl) ?_ _
                          go_wp2
                          go_meet
                          exact ⟨by rw [← HC5.out]; rfl, HB5⟩
                        | some y =>
                          refine callX (i := 5) rfl (by kernel_rfl) (fun K hK => ?_)
                          go_simp
                          refine hK.out _ _ (fun _ => hb5) ?_
                          clear hK K
                          (try simp only [Act.put, List.setIfInBounds_toArray, List.set_cons_zero, List.set_cons_succ])
                          refine doneX (by kernel_rfl) ?_ _
                          go_wp2
                          go_meet
                          exact ⟨by rw [← HC5.out]; rfl, HB5⟩
                      case rest =>
                        obtain ⟨rfl, HBc⟩ := hcut
                        have hBc := HBc.out
                        have hTc := HTa.out.keep hBc
                        have HTc := hide hTc
                        have HKc := hide (kp_then HKa.out (fun k hk _ => hk) (Below.keeps hBc _))
                        have HXc := hide (HXa.out.same (hBc.block _ (by have := HKa.out.size; have := HSz.out; omega)))
                        cases zc with
                        | true =>
                          have HR6 := hide (show r = (⟨hs.map ML.l, (ws2).map ML.l⟩, false, 0) from HR5.out.trans (if_pos rfl))
                          clear hTc hBc
                          go_wp2
                          go_ret2
                          refine ⟨?_, ha, k, hc, wa2, wn2, wc2, hs, ws2, ?_⟩
                          · rw [HR6.out]; rfl
                          · rw [HR6.out]; exact ⟨HTc.out, rfl, rfl, HKc.out, .inl rfl, HPw.out.imp id (fun h y hy => ⟨(h y hy).1, Nat.lt_of_lt_of_le (h y hy).2 HBc.out.size⟩)⟩
                        | false =>
                          have HR6 := hide (show r = (⟨hs.map ML.l, leaveL ((ws2).map ML.l) x.l.tx lck0⟩, false, 131) from HR5.out.trans (if_neg (by simp)))
                          have HLc := hide (leave_any q ha k hc wa2 wn2 wc2 hs (ws2) x.l.tx ml0 _ hTc.a (hTc.fz 1) (ml0_ok _) (by omega))
                          obtain ⟨x0, x1, x2, x3, x4⟩ := HXc.out.zero
                          have hl0 : ml0.l = lck0 := rfl
                          clear hTc hBc
                          go_wp2_with (first
                            | (go_at_call 126; go_must (refine HLc.out.mono ?_); rintro e w7 ⟨v7, rfl, hp7⟩; obtain ⟨wa7, wn7, wc7, rfl⟩ := hp7.o.any3; have HP7 := hide hp7; clear hp7))
                          go_ret2
                          refine ⟨?_, ha, k, hc, wa7, wn7, wc7, hs, (ws2).filter (stayM x.l.tx ml0), ?_⟩
                          · rw [HR6.out]; rfl
                          · rw [HR6.out]
                            exact ⟨HTc.out.setW HP7.out (fun m hm => HTc.out.wo m (List.mem_filter.1 hm).1), rfl, leaveM_l _ _ _, kp_then HKc.out (fun k hk _ => hk) HP7.out.kp, .inl rfl, .inr (fun y hy => by have := ownY_at HP7.out.o y hy; have := HKc.out.size; omega)⟩

end Go.Proofs.YtcgiicmmfleinaaGreatDoor
