/- The reference's Meta.one: decide. Printed by part/gen_mxg.py. The reference's Meta.one: status. Printed by part/gen_mxh.py. -/
import Derived.Test.YtcgiicmmfleinaaGreatDoorMxQ
namespace Go.Proofs.YtcgiicmmfleinaaGreatDoor
open Go.RowKit NumMath Go.ChangeShapes Go.WideShapes Go.Deep
set_option linter.unusedVariables false
set_option linter.unusedSimpArgs false
set_option maxRecDepth 100000

/-- the end of a call, what is answered told of the last world -/
theorem xs_doneW {F : Nat → Prop} {w0 w W3 V W : World} {a a' : Xm} {z y b : Nat} {S : Mac} {x : Res × Mac} (h : IsXm F w0 w a z S) (hb : Below w.heap.size w W3) (hkp : Keeps a.X W3 V) (h' : IsXm (fun k => F k ∨ k = b) w0 V a' y x.2) (hX : ∀ k, a'.X k → a.X k ∨ w.heap.size ≤ k) (hp : a'.p = a.p) (hb1 : w.heap.size ≤ b) (hkk : Keeps (fun k => k = b) V W) (r : MRr) (hr : r.p = x.1.p) (hf : Foot (fun k => a'.X k ∨ F k) W (fun V => r.ok V)) :
    XsPost F w0 w a y x (.returned (.agg #[.int .i64 r.er, .int .u64 r.tx, .int .u64 r.ts, .bool r.fl, .slice r.ss.a r.ss.n r.ss.c, .slice r.ce.a r.ce.n r.ce.c, .slice r.tb.a r.tb.n r.tb.c])) W := by
  refine ⟨a', r, rfl, hr, hf, ?_, hp, ?_, hX⟩
  · exact h'.other (Keeps.wider hkk (fun k hk => .inr hk)) (fun k hk => ⟨.inl (.inl hk), Nat.lt_of_lt_of_le (h'.fx k (.inl hk)).2 hkk.size⟩)
  · exact kpThen (kpThen (Below.keeps hb _) (fun k hk => .inl hk) hkp) (fun k (e : k = b) => .inr (by omega)) hkk

/-- one number in a list that a call makes -/
theorem sta_list {X : Nat → Prop} (V : World) (s : Sta) (cs : Array Value) (hc : cs.toList = laySt.cells s) (hX : ∀ k, X k → k < V.heap.size) : Foot X (V.alloc (.cells cs 80)) (fun W => IsY laySt W (some ⟨V.heap.size, 0, none⟩) 1 1 [s]) :=
  foot_ownY (ownY_one (L := laySt) V V.heap.size cs s (Nat.le_refl _) hc) hX

theorem IsXm.less {F G : Nat → Prop} {w0 w : World} {a : Xm} {z : Nat} {S : Mac} (h : IsXm F w0 w a z S) (hG : ∀ k, G k → F k) : IsXm G w0 w a z S :=
  h.other (Below.keeps (Below.refl _ w) F) (fun k hk => ⟨.inl (hG k hk), (h.fx k (hG k hk)).2⟩)

theorem sets3 (V : World) (g o : Nat) (x y z : Value) : Keeps (fun j => j = g) V (((V.setCell ⟨g, o, none⟩ x).setCell ⟨g, o + 1, none⟩ y).setCell ⟨g, o + 2, none⟩ z).drew :=
  kpThen (kpSet (kpSet (kpSet (kpSelf (fun j => j = g) V) (.inl rfl) _) (.inl rfl) _) (.inl rfl) _) (fun k hk => .inl hk) (Below.keeps (Below.refl _ _).drew _)

theorem sta_set {V : World} {base g sn sc k : Nat} {ss : List Sta} {s1 : Sta} (h : OwnY laySt V base (.slice (some ⟨g, 0, none⟩) sn sc) ss) (hs : ss[k]? = some s1) (st ts : Int) :
    OwnY laySt (((V.setCell ⟨g, k * 3, none⟩ (.int .u64 s1.tx)).setCell ⟨g, k * 3 + 1, none⟩ (.int .i64 st)).setCell ⟨g, k * 3 + 2, none⟩ (.int .u64 ts)).drew base (.slice (some ⟨g, 0, none⟩) sn sc) (ss.set k ⟨s1.tx, st, ts⟩) := by
  have hl := (List.getElem?_eq_some_iff.1 hs).1
  have h1 := h.cell k 0 s1 s1 (.int .u64 s1.tx) hs (by decide) rfl (k * 3) rfl
  have h2 := h1.cell k 1 s1 ⟨s1.tx, st, s1.ts⟩ (.int .i64 st) (List.getElem?_set_self hl) (by decide) rfl (k * 3 + 1) rfl
  have h3 := h2.cell k 2 ⟨s1.tx, st, s1.ts⟩ ⟨s1.tx, st, ts⟩ (.int .u64 ts) (List.getElem?_set_self (by rw [List.length_set]; exact hl)) (by decide) rfl (k * 3 + 2) rfl
  rw [List.set_set, List.set_set] at h3
  exact h3.keep (Below.refl _ _).drew

theorem decide_two {z : Nat} {S : Mac} {c : Cmd} {k : Nat} {s : Sta} (hc : c.Few) (hi : MacI z S) (hk : c.kd = 2) (hct : c.tx = (k : Int) + 1) (hs : S.ss[k]? = some s) (h0 : s.st = 0) (st ts ck : Int) (hst : (if c.fl = true then ((1 : Int), S.ck + 1, S.ck + 1) else (2, s.ts, S.ck)) = (st, ts, ck)) :
    oneM S c = ({ res0 with ss := [⟨s.tx, st, ts⟩] }, { S with ck := ck, ss := S.ss.set k ⟨s.tx, st, ts⟩ }) := by
  have hl := (List.getElem?_eq_some_iff.1 hs).1
  have htx : s.tx = c.tx := (hi.nx k s hs).trans hct.symm
  obtain ⟨hsta, hh⟩ := sta_found hs htx hi.nx
  have ho : openM S.ss c.tx = true := by
    unfold openM
    rw [hh, hsta, h0]
    rfl
  have hk1 : c.tx.toNat - 1 = k := by omega
  have hD : decideM S c.tx c.fl = { S with ck := ck, ss := S.ss.set k ⟨s.tx, st, ts⟩ } := by
    unfold decideM
    rw [if_pos ho]
    unfold settleM
    rw [hk1, hsta]
    by_cases hf : c.fl = true
    · rw [if_pos hf] at hst ⊢
      cases hst
      rfl
    · rw [if_neg hf] at hst ⊢
      cases hst
      rfl
  have h2 : (oneM S c).2 = { S with ck := ck, ss := S.ss.set k ⟨s.tx, st, ts⟩ } := by
    unfold oneM
    simp [hk, hh, hD]
  have hm := (hi.one hc).1
  rw [h2] at hm
  have hsta2 := (sta_found (k := k) (s := ⟨s.tx, st, ts⟩) (List.getElem?_set_self hl) htx hm.nx).1
  unfold oneM
  simp [hk, hh, hD]
  exact hsta2

theorem MacI.tick {z : Nat} {S : Mac} (h : MacI z S) : MacI (z + 1) { S with ck := S.ck + 1 } := { h.mono (Nat.le_succ z) with ck := ⟨by have := h.ck.1; show 0 ≤ S.ck + 1; omega, by have := h.ck.2; show S.ck + 1 ≤ ((z + 1 : Nat) : Int); omega⟩ }

set_option maxHeartbeats 4000000 in
theorem xone2_any {F : Nat → Prop} {w0 w : World} {a : Xm} {z : Nat} {S : Mac} (h : IsXm F w0 w a z S) (c : MCmd) (hc : c.ok w0) (hf : c.c.Few) (hz : z ≤ 159) (hk : c.kd = 2) :
    Calls Tryz.prog 30 #[.pointer (some ⟨a.p, 0, none⟩), .agg #[.int .u64 c.cl, .int .u64 c.sq, .int .i64 c.kd, .int .u64 c.tx, .int .u64 c.ts, .bool c.fl, .int .u64 c.lk.l.tx, .int .i64 c.lk.l.lv, .int .i64 c.lk.l.md, .slice c.lk.la c.lk.ln c.lk.lc, .slice c.lk.ha c.lk.hn c.lk.hc, .slice c.lo.a c.lo.n c.lo.c, .slice c.hi.a c.hi.n c.hi.c, .slice c.txs.a c.txs.n c.txs.c, .slice c.ws.a c.ws.n c.ws.c, .slice c.ks.a c.ks.n c.ks.c, .int .i64 c.tb.id, .string (strB c.tb.nm), .slice c.tb.cs.a c.tb.cs.n c.tb.cs.c, .int .i64 c.tb.ky, .slice c.tb.ix.a c.tb.ix.n c.tb.ix.c]] w (XsPost F w0 w a (z + 1) (oneM S c.c)) := by
  have HKd := hide hk
  clear hk
  obtain ⟨W1, hW1⟩ : ∃ W1, W1 = ((w.alloc (.cells #[.int .u64 c.cl, .int .u64 c.sq, .int .i64 c.kd, .int .u64 c.tx, .int .u64 c.ts, .bool c.fl, .int .u64 c.lk.l.tx, .int .i64 c.lk.l.lv, .int .i64 c.lk.l.md, .slice c.lk.la c.lk.ln c.lk.lc, .slice c.lk.ha c.lk.hn c.lk.hc, .slice c.lo.a c.lo.n c.lo.c, .slice c.hi.a c.hi.n c.hi.c, .slice c.txs.a c.txs.n c.txs.c, .slice c.ws.a c.ws.n c.ws.c, .slice c.ks.a c.ks.n c.ks.c, .int .i64 c.tb.id, .string (strB c.tb.nm), .slice c.tb.cs.a c.tb.cs.n c.tb.cs.c, .int .i64 c.tb.ky, .slice c.tb.ix.a c.tb.ix.n c.tb.ix.c] 50)).alloc (.cells #[.int .i64 0, .int .u64 0, .int .u64 0, .bool false, .slice none 0 0, .slice none 0 0, .slice none 0 0] 55)) := ⟨_, rfl⟩
  have hb1 : Below w.heap.size w W1 := by
    rw [hW1]
    exact (new_below w _).trans ((new_below _ _).mono (new_below w _).size)
  have hl1 : W1.heap.size = w.heap.size + 2 := by rw [hW1]; simp
  have HX : Hid (∀ V, Below W1.heap.size W1 V → V.rangeAt w.heap.size 0 (layCm.cells c) ∧ V.rangeAt (w.heap.size + 1) 0 [.int .i64 0, .int .u64 0, .int .u64 0, .bool false, .slice none 0 0, .slice none 0 0, .slice none 0 0] ∧ ∀ j, V.frozen? ⟨w.heap.size + 1, j, none⟩ = false) := by
    intro V hb
    refine ⟨?_, ?_, fun j => ?_⟩
    · subst hW1
      exact (two_boxes w #[.int .u64 c.cl, .int .u64 c.sq, .int .i64 c.kd, .int .u64 c.tx, .int .u64 c.ts, .bool c.fl, .int .u64 c.lk.l.tx, .int .i64 c.lk.l.lv, .int .i64 c.lk.l.md, .slice c.lk.la c.lk.ln c.lk.lc, .slice c.lk.ha c.lk.hn c.lk.hc, .slice c.lo.a c.lo.n c.lo.c, .slice c.hi.a c.hi.n c.hi.c, .slice c.txs.a c.txs.n c.txs.c, .slice c.ws.a c.ws.n c.ws.c, .slice c.ks.a c.ks.n c.ks.c, .int .i64 c.tb.id, .string (strB c.tb.nm), .slice c.tb.cs.a c.tb.cs.n c.tb.cs.c, .int .i64 c.tb.ky, .slice c.tb.ix.a c.tb.ix.n c.tb.ix.c] #[.int .i64 0, .int .u64 0, .int .u64 0, .bool false, .slice none 0 0, .slice none 0 0, .slice none 0 0] 50 55 V hb).1
    · subst hW1
      exact (two_boxes w #[.int .u64 c.cl, .int .u64 c.sq, .int .i64 c.kd, .int .u64 c.tx, .int .u64 c.ts, .bool c.fl, .int .u64 c.lk.l.tx, .int .i64 c.lk.l.lv, .int .i64 c.lk.l.md, .slice c.lk.la c.lk.ln c.lk.lc, .slice c.lk.ha c.lk.hn c.lk.hc, .slice c.lo.a c.lo.n c.lo.c, .slice c.hi.a c.hi.n c.hi.c, .slice c.txs.a c.txs.n c.txs.c, .slice c.ws.a c.ws.n c.ws.c, .slice c.ks.a c.ks.n c.ks.c, .int .i64 c.tb.id, .string (strB c.tb.nm), .slice c.tb.cs.a c.tb.cs.n c.tb.cs.c, .int .i64 c.tb.ky, .slice c.tb.ix.a c.tb.ix.n c.tb.ix.c] #[.int .i64 0, .int .u64 0, .int .u64 0, .bool false, .slice none 0 0, .slice none 0 0, .slice none 0 0] 50 55 V hb).2
    · rw [hb.frozen (p := ⟨w.heap.size + 1, j, none⟩) (by show w.heap.size + 1 < W1.heap.size; omega), hW1]
      have h := fzY_new (w.alloc (.cells #[.int .u64 c.cl, .int .u64 c.sq, .int .i64 c.kd, .int .u64 c.tx, .int .u64 c.ts, .bool c.fl, .int .u64 c.lk.l.tx, .int .i64 c.lk.l.lv, .int .i64 c.lk.l.md, .slice c.lk.la c.lk.ln c.lk.lc, .slice c.lk.ha c.lk.hn c.lk.hc, .slice c.lo.a c.lo.n c.lo.c, .slice c.hi.a c.hi.n c.hi.c, .slice c.txs.a c.txs.n c.txs.c, .slice c.ws.a c.ws.n c.ws.c, .slice c.ks.a c.ks.n c.ks.c, .int .i64 c.tb.id, .string (strB c.tb.nm), .slice c.tb.cs.a c.tb.cs.n c.tb.cs.c, .int .i64 c.tb.ky, .slice c.tb.ix.a c.tb.ix.n c.tb.ix.c] 50)) #[.int .i64 0, .int .u64 0, .int .u64 0, .bool false, .slice none 0 0, .slice none 0 0, .slice none 0 0] 55 j
      rwa [World.size_alloc] at h
  obtain ⟨sa, sn, sc, hsv⟩ := h.so.any3
  have hI : IsY laySt w sa sn sc S.ss := by
    have h2 := h.so
    rw [hsv] at h2
    exact h2.is
  have hc2 : w.cell? ⟨a.p, 2, none⟩ = some (.slice sa sn sc) := by rw [← hsv]; exact h.c2
  have hst := xstate_any a.p sa sn sc S.ss c.tx W1 (Nat.lt_of_lt_of_le h.lt hb1.size) ((hb1.cell (p := ⟨a.p, 2, none⟩) h.lt).trans hc2) (hI.keep hb1) h.i.nx hf.tx
  obtain ⟨s, hs⟩ : ∃ s, staM S.ss c.tx = s := ⟨_, rfl⟩
  obtain ⟨b, hbb⟩ : ∃ b, hasM S.ss c.tx = b := ⟨_, rfl⟩
  rw [hs, hbb] at hst
  have HSt := hide hst
  have HI := hide h
  have HCo := hide hc
  have HFw := hide hf
  have HB1 := hide hb1
  have HL1 := hide hl1
  have HS := hide hs
  have HBb := hide hbb
  have HSv := hide hsv
  have HSY := hide hI
  have x3 : W1.cell? ⟨w.heap.size, 3, none⟩ = some (.int .u64 c.tx) := (HX.out W1 (Below.refl _ _)).1 3 _ rfl
  have hpl := h.lt
  have hpw : ¬ w.heap.size = a.p := by omega
  have hpw2 : ¬ w.heap.size + 1 = a.p := by omega
  clear h hc hf hb1 hl1 hst hs hbb hsv hI hc2
  go_enter Tryz.func30, Tryz.ntmps30
  go_upto_region 1 with fail
  rw [← hW1]
  clear hW1
  go_upto_region 2 with (first
    | (go_at_call 82; go_must (refine HSt.out.mono ?_); rintro e w2 ⟨rfl, hb2⟩; have HB2 := hide hb2; clear hb2))
  obtain ⟨W3, hW3⟩ : ∃ W3, W3 = w2.alloc (.cells #[.int .u64 s.tx, .int .i64 s.st, .int .u64 s.ts] 80) := ⟨_, rfl⟩
  rw [← hW3]
  have HN3 : Hid (Below w2.heap.size w2 W3) := by rw [hW3]; exact new_below _ _
  have HR3 : Hid (W3.rangeAt w2.heap.size 0 (laySt.cells s)) := by
    rw [hW3]
    exact rangeY_new w2 w2.heap.size _ _ rfl
  have HFz3 : Hid (∀ j, W3.frozen? ⟨w2.heap.size, j, none⟩ = false) := by
    rw [hW3]
    exact fun j => fzY_new _ _ _ _
  have HL3 : Hid (w2.heap.size < W3.heap.size) := by
    rw [hW3]
    exact (Array.getElem?_eq_some_iff.1 (heap_alloc_new _ _)).1
  have HB3 : Hid (Below W1.heap.size W1 W3) := HB2.out.trans (HN3.out.mono HB2.out.size)
  have HBw : Hid (Below w.heap.size w W3) := HB1.out.trans (HB3.out.mono HB1.out.size)
  clear hW3 x3 HSt
  have x2 : W3.cell? ⟨w.heap.size, 2, none⟩ = some (.int .i64 c.kd) := (HX.out W3 HB3.out).1 2 _ rfl
  have x3 : W3.cell? ⟨w.heap.size, 3, none⟩ = some (.int .u64 c.tx) := (HX.out W3 HB3.out).1 3 _ rfl
  have x5 : W3.cell? ⟨w.heap.size, 5, none⟩ = some (.bool c.fl) := (HX.out W3 HB3.out).1 5 _ rfl
  rw [show c.kd = 2 from HKd.out] at x2
  have HI3 := hide (HI.out.box HBw.out (b := w.heap.size + 1) (by omega) (by have := HB3.out.size; have := HL1.out; omega))
  have HWs : Hid (w.heap.size + 1 < W3.heap.size) := by show _ < _; have := HB3.out.size; have := HL1.out; omega
  have y0 : W3.cell? ⟨w2.heap.size, 0, none⟩ = some (.int .u64 s.tx) := HR3.out 0 _ rfl
  have y1 : W3.cell? ⟨w2.heap.size, 1, none⟩ = some (.int .i64 s.st) := HR3.out 1 _ rfl
  have y2 : W3.cell? ⟨w2.heap.size, 2, none⟩ = some (.int .u64 s.ts) := HR3.out 2 _ rfl
  have HMi : Hid (MacI (z + 1) (oneM S c.c).2) := (HI.out.i.one HFw.out).1
  cases b
  · have HE : Hid (oneM S c.c = (errR 150, S)) := by
      show _ = _
      have hk2 : c.c.kd = 2 := HKd.out
      have hh : hasM S.ss c.c.tx = false := HBb.out
      simp [oneM, hk2, hh]
    obtain ⟨-, z, zf⟩ := HX.out W3 HB3.out
    have z0 : W3.cell? ⟨w.heap.size + 1, 0, none⟩ = some (.int .i64 0) := z 0 _ rfl
    have z1 : W3.cell? ⟨w.heap.size + 1, 1, none⟩ = some (.int .u64 0) := z 1 _ rfl
    have z2 : W3.cell? ⟨w.heap.size + 1, 2, none⟩ = some (.int .u64 0) := z 2 _ rfl
    have z3 : W3.cell? ⟨w.heap.size + 1, 3, none⟩ = some (.bool false) := z 3 _ rfl
    have z4 : W3.cell? ⟨w.heap.size + 1, 4, none⟩ = some (.slice none 0 0) := z 4 _ rfl
    have z5 : W3.cell? ⟨w.heap.size + 1, 5, none⟩ = some (.slice none 0 0) := z 5 _ rfl
    have z6 : W3.cell? ⟨w.heap.size + 1, 6, none⟩ = some (.slice none 0 0) := z 6 _ rfl
    have g0 := zf 0
    have g1 := zf 1
    have g2 := zf 2
    have g3 := zf 3
    have g4 := zf 4
    have g5 := zf 5
    have g6 := zf 6
    clear z zf
    go_wp2
    change bodyPost _ _ _ _ _ (W3.setCells (w.heap.size + 1) 0 [.int .i64 150, .int .u64 0, .int .u64 0, .bool false, .slice none 0 0, .slice none 0 0, .slice none 0 0])
    have hr := box_set (V := W3) (b := w.heap.size + 1) (new := [.int .i64 150, .int .u64 0, .int .u64 0, .bool false, .slice none 0 0, .slice none 0 0, .slice none 0 0]) (HX.out W3 HB3.out).2.1 (Nat.le_refl _) (HX.out W3 HB3.out).2.2
    have r0 := hr 0 _ rfl
    have r1 := hr 1 _ rfl
    have r2 := hr 2 _ rfl
    have r3 := hr 3 _ rfl
    have r4 := hr 4 _ rfl
    have r5 := hr 5 _ rfl
    have r6 := hr 6 _ rfl
    have hbe := box_below (l := [.int .i64 150, .int .u64 0, .int .u64 0, .bool false, .slice none 0 0, .slice none 0 0, .slice none 0 0]) HBw.out (show w.heap.size ≤ w.heap.size + 1 by omega)
    clear hr
    generalize W3.setCells (w.heap.size + 1) 0 [.int .i64 150, .int .u64 0, .int .u64 0, .bool false, .slice none 0 0, .slice none 0 0, .slice none 0 0] = W at *
    refine bodyPost_ret (v := .agg #[.int .i64 150, .int .u64 0, .int .u64 0, .bool false, .slice none 0 0, .slice none 0 0, .slice none 0 0]) (by simp [results, Tryz.results30, go_sem, r0, r1, r2, r3, r4, r5, r6]) rfl ?_
    rw [HE.out]
    exact xs_same HI.out hbe (resR 150) rfl (foot_pure (fun V => resR_ok 150 V)) (Nat.le_succ _)
  · by_cases h0 : s.st = 0
    · have HMt := hide (has_at HFw.out.tx.1 HBb.out)
      obtain ⟨k, hct, hkl, s1, hs1, hs2⟩ := HMt.out
      have hss : s1 = s := hs2.symm.trans HS.out
      subst hss
      have HSk := hide hs1
      have HCt : Hid (c.tx = (k : Int) + 1) := hct
      have hsl : S.ss.length = sn := HSY.out.1
      have hkI : (k : Int) < (sn : Int) := by omega
      have hkn : k < sn := by omega
      have hwk : IntKind.u64.wrap (k : Int) = k := u64wrap (by have := HI.out.i.ns; omega)
      have hHI2 := HI.out.box (HB1.out.trans (HB2.out.mono HB1.out.size)) (b := w.heap.size + 1) (by omega) (by have := HB2.out.size; have := HL1.out; omega)
      have HI3q := hide (hHI2.box HN3.out (b := w2.heap.size) (Nat.le_refl _) HL3.out)
      obtain ⟨g, hsa⟩ : ∃ g, sa = some ⟨g, 0, none⟩ := by
        have h2 := HI3q.out.so
        rw [HSv.out] at h2
        rcases h2.form with ⟨e, e2⟩ | ⟨g, cap, e, -⟩
        · cases e
          have := HSY.out.1
          rw [e2] at hkl
          cases hkl
        · cases e
          exact ⟨g, rfl⟩
      subst hsa
      have HG : Hid (a.sv = .slice (some ⟨g, 0, none⟩) sn sc) := HSv.out
      have HXg : Hid (∀ j, a.X j ↔ j = a.p ∨ j = g) := by
        intro j
        unfold Xm.X
        rw [HSv.out]
        exact ⟨fun h => by
          rcases h with h | h
          · exact .inl h
          · exact .inr (Option.some.inj h).symm, fun h => by
          rcases h with h | h
          · exact .inl h
          · exact .inr (congrArg some h.symm)⟩
      have hgp : g ≠ a.p := fun e => HI3q.out.sp (by rw [HSv.out, ← e]; rfl)
      have hgl : g < w.heap.size := (HI.out.xl g ((HXg.out g).2 (.inr rfl))).2
      have hpl2 : a.p < w.heap.size := hpl
      have hq3 : w.heap.size + 2 ≤ w2.heap.size := by have := HB2.out.size; have := HL1.out; omega
      rw [h0] at y1
      have H0 := hide h0
      clear h0 hct hkl hs1 hs2 hHI2 hsl
      have f1 := HFz3.out 1
      go_upto_region 12 with fail
      obtain ⟨W4, hW4⟩ : ∃ W4, W4 = W3.setCell ⟨w2.heap.size, 1, none⟩ (.int .i64 2) := ⟨_, rfl⟩
      rw [← hW4]
      have HK4 : Hid (Keeps (fun k => k = w2.heap.size) W3 W4) := by rw [hW4]; exact keepsY_cell _
      have HQ4 : Hid (W4.cell? ⟨w2.heap.size, 0, none⟩ = some (.int .u64 s1.tx) ∧ W4.cell? ⟨w2.heap.size, 1, none⟩ = some (.int .i64 2) ∧ W4.cell? ⟨w2.heap.size, 2, none⟩ = some (.int .u64 s1.ts) ∧ ∀ j, W4.frozen? ⟨w2.heap.size, j, none⟩ = false) := by
        rw [hW4]
        refine ⟨?_, ?_, ?_, fun j => ?_⟩
        · rw [World.cell?_setCell_other _ _ _ _ (by intro e; cases e)]; exact y0
        · exact World.cell?_setCell_same' _ _ _ (by rw [y1]; rfl)
        · rw [World.cell?_setCell_other _ _ _ _ (by intro e; cases e)]; exact y2
        · rw [World.frozen?_setCell]; exact HFz3.out j
      have HI4 := hide (HI3q.out.other (G := fun k => (F k ∨ k = w.heap.size + 1) ∨ k = w2.heap.size) (Keeps.wider HK4.out (fun k hk => .inr hk)) (fun k hk => ⟨.inl hk, Nat.lt_of_lt_of_le (HI3q.out.fx k hk).2 HK4.out.size⟩))
      have x3 : W4.cell? ⟨w.heap.size, 3, none⟩ = some (.int .u64 c.tx) := (World.cell?_of_block (a := ⟨w.heap.size, 3, none⟩) (HK4.out.block w.heap.size (by have := HWs.out; omega) (by show ¬ w.heap.size = w2.heap.size; omega))).trans x3
      have x5 : W4.cell? ⟨w.heap.size, 5, none⟩ = some (.bool c.fl) := (World.cell?_of_block (a := ⟨w.heap.size, 5, none⟩) (HK4.out.block w.heap.size (by have := HWs.out; omega) (by show ¬ w.heap.size = w2.heap.size; omega))).trans x5
      have HBX4 : Hid (W4.heap[w.heap.size + 1]? = W3.heap[w.heap.size + 1]?) := HK4.out.block _ HWs.out (by show ¬ w.heap.size + 1 = w2.heap.size; omega)
      rw [HCt.out] at x3
      clear hW4 y0 y1 y2 f1
      cases hfl : c.fl
      · have HKn : Hid (Keeps (fun j => a.X j ∨ j = w2.heap.size) W3 W4) := Keeps.wider HK4.out (fun k hk => .inr hk)
        rw [hfl] at x5
        obtain ⟨q0, q1, q2, qf⟩ := HQ4.out
        have hO := HI4.out.so
        rw [HG.out] at hO
        have hC : CellsY laySt W4 g 0 S.ss := by
          rcases hO.form with ⟨e, _⟩ | ⟨g', cap', e, -, -, -, -, hC, -⟩
          · cases e
          · cases e; exact hC
        have hzf : ∀ i, W4.frozen? ⟨g, i, none⟩ = false := by
          rcases hO.form with ⟨e, _⟩ | ⟨g', cap', e, -, -, -, -, -, hz⟩
          · cases e
          · cases e; exact hz
        obtain ⟨m0, m1, m2⟩ := at3_list hC HSk.out
        simp only [Nat.zero_add] at m0 m1 m2
        have p0 := hzf (k * 3)
        have p1 := hzf (k * 3 + 1)
        have p2 := hzf (k * 3 + 2)
        have u2 : W4.cell? ⟨a.p, 2, none⟩ = some (.slice (some ⟨g, 0, none⟩) sn sc) := by
          have h2 := HI4.out.c2
          rw [HG.out] at h2
          exact h2
        have HOw := hide hO
        clear hO hC hzf
        go_upto_region 15 with fail
        go_region
        go_upto_region 16 with fail
        have HK7 := hide (sets3 W4 g (k * 3) (.int .u64 s1.tx) (.int .i64 2) (.int .u64 (s1.ts)))
        have HO7 := hide (sta_set HOw.out HSk.out 2 (s1.ts))
        obtain ⟨W7, hW7⟩ : ∃ W7, W7 = (((W4.setCell ⟨g, k * 3, none⟩ (.int .u64 s1.tx)).setCell ⟨g, k * 3 + 1, none⟩ (.int .i64 2)).setCell ⟨g, k * 3 + 2, none⟩ (.int .u64 (s1.ts))).drew := ⟨_, rfl⟩
        rw [← hW7] at HK7 HO7 ⊢
        clear hW7 m0 m1 m2 p0 p1 p2 u2
        have HS7 : Hid (W3.heap.size ≤ W7.heap.size) := Nat.le_trans HKn.out.size HK7.out.size
        have HWs : Hid (w.heap.size + 1 < W7.heap.size) := Nat.lt_of_lt_of_le HWs.out HS7.out
        have hbx : W7.heap[w.heap.size + 1]? = W3.heap[w.heap.size + 1]? := (HK7.out.block _ (by have := HKn.out.size; have := HB3.out.size; have := HL1.out; omega) (by show ¬ w.heap.size + 1 = g; omega)).trans HBX4.out
        have hbq : W7.heap[w2.heap.size]? = W4.heap[w2.heap.size]? := HK7.out.block _ (by have := HKn.out.size; have := HL3.out; omega) (by show ¬ w2.heap.size = g; omega)
        have hbp : W7.heap[a.p]? = W4.heap[a.p]? := HK7.out.block _ HI4.out.lt (fun e => hgp e.symm)
        replace q0 := (World.cell?_of_block (a := ⟨w2.heap.size, 0, none⟩) hbq).trans q0
        replace q1 := (World.cell?_of_block (a := ⟨w2.heap.size, 1, none⟩) hbq).trans q1
        replace q2 := (World.cell?_of_block (a := ⟨w2.heap.size, 2, none⟩) hbq).trans q2
        have HE : Hid (oneM S c.c = ({ res0 with ss := [⟨s1.tx, 2, s1.ts⟩] }, { S with ck := S.ck, ss := S.ss.set k ⟨s1.tx, 2, s1.ts⟩ })) := decide_two HFw.out HI.out.i HKd.out HCt.out HSk.out H0.out 2 (s1.ts) (S.ck) (by rw [show c.c.fl = c.fl from rfl, hfl]; rfl)
        have hmi := HMi.out
        rw [HE.out] at hmi
        have HI7 := hide (HI4.out.turn (W := W7) (y := z + 1) (Keeps.wider HK7.out (fun j e => (HXg.out j).2 (.inr e))) (sv' := a.sv) (ck' := S.ck) (l := S.ss.set k ⟨s1.tx, 2, s1.ts⟩) (fun j _ _ => World.cell?_of_block (a := ⟨a.p, j, none⟩) hbp) (fun j => World.frozen?_of_block (a := ⟨a.p, j, none⟩) hbp) ((World.cell?_of_block (a := ⟨a.p, 1, none⟩) hbp).trans HI4.out.c1) ((World.cell?_of_block (a := ⟨a.p, 2, none⟩) hbp).trans HI4.out.c2) (by rw [HG.out]; exact HO7.out) (fun j hj => .inl hj) hmi (Nat.le_succ _))
        have HI7b := hide (HI7.out.less (G := fun k => F k ∨ k = w.heap.size + 1) (fun k hk => .inl hk))
        have HKw : Hid (Keeps a.X w2 W7) := kpThen (Below.keeps HN3.out a.X) (fun k (hk : a.X k ∨ k = w2.heap.size) => by
    rcases hk with hk | hk
    · exact .inl hk
    · exact .inr (by omega)) (kpThen HKn.out (fun k (hk : k = g) => .inl (.inl ((HXg.out k).2 (.inr hk)))) HK7.out)
        clear hbp hbq hmi qf
        have HZ5 : Hid (W7.rangeAt (w.heap.size + 1) 0 [.int .i64 0, .int .u64 0, .int .u64 0, .bool false, .slice none 0 0, .slice none 0 0, .slice none 0 0]) := rangeY_same (HX.out W3 HB3.out).2.1 hbx
        have HF5 : Hid (∀ j, W7.frozen? ⟨w.heap.size + 1, j, none⟩ = false) := fun j => (World.frozen?_of_block (a := ⟨w.heap.size + 1, j, none⟩) hbx).trans ((HX.out W3 HB3.out).2.2 j)
        clear hbx
        have z0 := fun o => (World.cell?_of_block (a := ⟨w.heap.size + 1, 0, none⟩) ((new_below W7 o).block _ HWs.out)).trans (show W7.cell? ⟨w.heap.size + 1, 0, none⟩ = some (.int .i64 0) from HZ5.out 0 _ rfl)
        have z1 := fun o => (World.cell?_of_block (a := ⟨w.heap.size + 1, 1, none⟩) ((new_below W7 o).block _ HWs.out)).trans (show W7.cell? ⟨w.heap.size + 1, 1, none⟩ = some (.int .u64 0) from HZ5.out 1 _ rfl)
        have z2 := fun o => (World.cell?_of_block (a := ⟨w.heap.size + 1, 2, none⟩) ((new_below W7 o).block _ HWs.out)).trans (show W7.cell? ⟨w.heap.size + 1, 2, none⟩ = some (.int .u64 0) from HZ5.out 2 _ rfl)
        have z3 := fun o => (World.cell?_of_block (a := ⟨w.heap.size + 1, 3, none⟩) ((new_below W7 o).block _ HWs.out)).trans (show W7.cell? ⟨w.heap.size + 1, 3, none⟩ = some (.bool false) from HZ5.out 3 _ rfl)
        have z4 := fun o => (World.cell?_of_block (a := ⟨w.heap.size + 1, 4, none⟩) ((new_below W7 o).block _ HWs.out)).trans (show W7.cell? ⟨w.heap.size + 1, 4, none⟩ = some (.slice none 0 0) from HZ5.out 4 _ rfl)
        have z5 := fun o => (World.cell?_of_block (a := ⟨w.heap.size + 1, 5, none⟩) ((new_below W7 o).block _ HWs.out)).trans (show W7.cell? ⟨w.heap.size + 1, 5, none⟩ = some (.slice none 0 0) from HZ5.out 5 _ rfl)
        have z6 := fun o => (World.cell?_of_block (a := ⟨w.heap.size + 1, 6, none⟩) ((new_below W7 o).block _ HWs.out)).trans (show W7.cell? ⟨w.heap.size + 1, 6, none⟩ = some (.slice none 0 0) from HZ5.out 6 _ rfl)
        have g0 := fun o => (World.frozen?_of_block (a := ⟨w.heap.size + 1, 0, none⟩) ((new_below W7 o).block _ HWs.out)).trans (HF5.out 0)
        have g1 := fun o => (World.frozen?_of_block (a := ⟨w.heap.size + 1, 1, none⟩) ((new_below W7 o).block _ HWs.out)).trans (HF5.out 1)
        have g2 := fun o => (World.frozen?_of_block (a := ⟨w.heap.size + 1, 2, none⟩) ((new_below W7 o).block _ HWs.out)).trans (HF5.out 2)
        have g3 := fun o => (World.frozen?_of_block (a := ⟨w.heap.size + 1, 3, none⟩) ((new_below W7 o).block _ HWs.out)).trans (HF5.out 3)
        have g4 := fun o => (World.frozen?_of_block (a := ⟨w.heap.size + 1, 4, none⟩) ((new_below W7 o).block _ HWs.out)).trans (HF5.out 4)
        have g5 := fun o => (World.frozen?_of_block (a := ⟨w.heap.size + 1, 5, none⟩) ((new_below W7 o).block _ HWs.out)).trans (HF5.out 5)
        have g6 := fun o => (World.frozen?_of_block (a := ⟨w.heap.size + 1, 6, none⟩) ((new_below W7 o).block _ HWs.out)).trans (HF5.out 6)
        have hnb : ¬ W7.heap.size = w.heap.size + 1 := by have := HWs.out; omega
        have hnb2 : ¬ w.heap.size + 1 = W7.heap.size := by have := HWs.out; omega
        go_wp2
        change bodyPost _ _ _ _ _ ((W7.alloc (.cells #[.int .u64 s1.tx, .int .i64 2, .int .u64 (s1.ts)] 80)).setCells (w.heap.size + 1) 0 [.int .i64 0, .int .u64 0, .int .u64 0, .bool false, .slice (some ⟨W7.heap.size, 0, none⟩) 1 1, .slice none 0 0, .slice none 0 0])
        have hfo := sta_list (X := fun k => a.X k ∨ (F k ∨ k = w.heap.size + 1)) W7 ⟨s1.tx, 2, (s1.ts)⟩ #[.int .u64 s1.tx, .int .i64 2, .int .u64 (s1.ts)] rfl (fun k hk => by
      rcases hk with hk | hk
      · exact (HI7b.out.xl k hk).2
      · exact (HI7b.out.fx k hk).2)
        obtain ⟨W8, hW8⟩ : ∃ W8, W8 = W7.alloc (.cells #[.int .u64 s1.tx, .int .i64 2, .int .u64 (s1.ts)] 80) := ⟨_, rfl⟩
        rw [← hW8] at hfo ⊢
        have hb8 : Below W7.heap.size W7 W8 := by rw [hW8]; exact new_below _ _
        clear hW8
        have hr := box_set (V := W8) (b := w.heap.size + 1) (new := [.int .i64 0, .int .u64 0, .int .u64 0, .bool false, .slice (some ⟨W7.heap.size, 0, none⟩) 1 1, .slice none 0 0, .slice none 0 0]) (rangeY_same HZ5.out (hb8.block _ HWs.out)) (Nat.le_refl _) (fun j => (World.frozen?_of_block (a := ⟨w.heap.size + 1, j, none⟩) (hb8.block _ HWs.out)).trans (HF5.out j))
        have hkk : Keeps (fun k => k = w.heap.size + 1) W8 (W8.setCells (w.heap.size + 1) 0 [.int .i64 0, .int .u64 0, .int .u64 0, .bool false, .slice (some ⟨W7.heap.size, 0, none⟩) 1 1, .slice none 0 0, .slice none 0 0]) := keepsYs _ _ _ _
        have r0 := hr 0 _ rfl
        have r1 := hr 1 _ rfl
        have r2 := hr 2 _ rfl
        have r3 := hr 3 _ rfl
        have r4 := hr 4 _ rfl
        have r5 := hr 5 _ rfl
        have r6 := hr 6 _ rfl
        clear hr
        generalize W8.setCells (w.heap.size + 1) 0 [.int .i64 0, .int .u64 0, .int .u64 0, .bool false, .slice (some ⟨W7.heap.size, 0, none⟩) 1 1, .slice none 0 0, .slice none 0 0] = W at *
        refine bodyPost_ret (v := .agg #[.int .i64 0, .int .u64 0, .int .u64 0, .bool false, .slice (some ⟨W7.heap.size, 0, none⟩) 1 1, .slice none 0 0, .slice none 0 0]) (by simp [results, Tryz.results30, go_sem, r0, r1, r2, r3, r4, r5, r6]) rfl ?_
        rw [HE.out]
        have hK8 : Keeps a.X w2 W8 := kpThen HKw.out (fun k hk => .inl hk) (Below.keeps hb8 a.X)
        exact xs_done (a' := a) (b := w.heap.size + 1) HI.out (HB1.out.trans (HB2.out.mono HB1.out.size)) hK8 (HI7b.out.keep hb8) (fun k hk => .inl hk) rfl (by omega) hkk ⟨0, 0, 0, false, ⟨some ⟨W7.heap.size, 0, none⟩, 1, 1, [⟨s1.tx, 2, (s1.ts)⟩]⟩, ⟨none, 0, 0, []⟩, ⟨none, 0, 0, []⟩⟩ rfl (hfo.imp (fun V hV => ⟨hV, isY_nil V, isY_nil V, by simp, by simp⟩))
      · rw [hfl] at x5
        have v1 : W4.cell? ⟨a.p, 1, none⟩ = some (.int .u64 S.ck) := HI4.out.c1
        have fv := HI4.out.lk.fz 1
        have b1 := HI.out.i.ck.1
        have b2 : S.ck ≤ 1000 := by have := HI.out.i.ck.2; omega
        go_upto_region 14 with fail
        obtain ⟨W5, hW5⟩ : ∃ W5, W5 = W4.setCell ⟨a.p, 1, none⟩ (.int .u64 (S.ck + 1)) := ⟨_, rfl⟩
        rw [← hW5]
        have HK5 : Hid (Keeps (fun k => k = a.p) W4 W5) := by rw [hW5]; exact keepsY_cell _
        have hC5 : ∀ j, j ≠ 1 → W5.cell? ⟨a.p, j, none⟩ = W4.cell? ⟨a.p, j, none⟩ := fun j hj => by rw [hW5, World.cell?_setCell_other _ _ _ _ (by intro e; cases e; exact hj rfl)]
        have hF5 : ∀ j, W5.frozen? ⟨a.p, j, none⟩ = W4.frozen? ⟨a.p, j, none⟩ := fun j => by rw [hW5, World.frozen?_setCell]
        have hD5 : W5.cell? ⟨a.p, 1, none⟩ = some (.int .u64 (S.ck + 1)) := by rw [hW5]; exact World.cell?_setCell_same' _ _ _ (by rw [v1]; rfl)
        have HI5 := hide (HI4.out.turn (W := W5) (y := z + 1) (Keeps.wider HK5.out (fun j e => .inl e)) (sv' := a.sv) (ck' := S.ck + 1) (l := S.ss) (fun j h1 _ => hC5 j h1) hF5 hD5 ((hC5 2 (by omega)).trans HI4.out.c2) (HI4.out.so.lies (fun g2 hg2 => HK5.out.block g2 (HI4.out.so.lt g2 hg2).2 (fun e => HI4.out.sp (by rw [hg2, e])))) (fun j hj => .inl hj) HI.out.i.tick (Nat.le_succ _))
        have hbq5 : W5.heap[w2.heap.size]? = W4.heap[w2.heap.size]? := HK5.out.block _ (by have := HK4.out.size; have := HL3.out; omega) (by show ¬ w2.heap.size = a.p; omega)
        obtain ⟨q0, q1, q2, qf⟩ := HQ4.out
        replace q0 := (World.cell?_of_block (a := ⟨w2.heap.size, 0, none⟩) hbq5).trans q0
        replace q1 := (World.cell?_of_block (a := ⟨w2.heap.size, 1, none⟩) hbq5).trans q1
        replace q2 := (World.cell?_of_block (a := ⟨w2.heap.size, 2, none⟩) hbq5).trans q2
        have HQf5 : Hid (∀ j, W5.frozen? ⟨w2.heap.size, j, none⟩ = false) := fun j => (World.frozen?_of_block (a := ⟨w2.heap.size, j, none⟩) hbq5).trans (qf j)
        have f1 := HQf5.out 1
        have f2 := HQf5.out 2
        have w1 := hD5
        have x3 : W5.cell? ⟨w.heap.size, 3, none⟩ = some (.int .u64 ((k : Int) + 1)) := (World.cell?_of_block (a := ⟨w.heap.size, 3, none⟩) (HK5.out.block w.heap.size (by have := HWs.out; have := HK4.out.size; omega) (by show ¬ w.heap.size = a.p; omega))).trans x3
        clear hW5 v1 fv hC5 hF5 hD5 qf hbq5
        have hq1 := q1
        have hq2 := q2
        have hq0 := q0
        go_region
        go_upto_region 15 with fail
        obtain ⟨W6, hW6⟩ : ∃ W6, W6 = ((W5.setCell ⟨w2.heap.size, 1, none⟩ (.int .i64 1)).setCell ⟨w2.heap.size, 2, none⟩ (.int .u64 (S.ck + 1))).drew := ⟨_, rfl⟩
        rw [← hW6]
        have HK6 : Hid (Keeps (fun k => k = w2.heap.size) W5 W6) := by
          rw [hW6]
          exact kpThen (kpSet (kpSet (kpSelf (fun j => j = w2.heap.size) W5) (.inl rfl) _) (.inl rfl) _) (fun k hk => .inl hk) (Below.keeps (Below.refl _ _).drew _)
        have HQ6 : Hid (W6.cell? ⟨w2.heap.size, 0, none⟩ = some (.int .u64 s1.tx) ∧ W6.cell? ⟨w2.heap.size, 1, none⟩ = some (.int .i64 1) ∧ W6.cell? ⟨w2.heap.size, 2, none⟩ = some (.int .u64 (S.ck + 1)) ∧ ∀ j, W6.frozen? ⟨w2.heap.size, j, none⟩ = false) := by
          rw [hW6]
          refine ⟨?_, ?_, ?_, fun j => ?_⟩
          · show World.cell? (World.setCell (World.setCell W5 _ _) _ _) _ = _
            rw [World.cell?_setCell_other _ _ _ _ (by intro e; cases e), World.cell?_setCell_other _ _ _ _ (by intro e; cases e)]; exact hq0
          · show World.cell? (World.setCell (World.setCell W5 _ _) _ _) _ = _
            rw [World.cell?_setCell_other _ _ _ _ (by intro e; cases e)]
            exact World.cell?_setCell_same' _ _ _ (by rw [hq1]; rfl)
          · show World.cell? (World.setCell (World.setCell W5 _ _) _ _) _ = _
            exact World.cell?_setCell_same' _ _ _ (by rw [World.cell?_setCell_other _ _ _ _ (by intro e; cases e), hq2]; rfl)
          · show World.frozen? (World.setCell (World.setCell W5 _ _) _ _) _ = _
            rw [World.frozen?_setCell, World.frozen?_setCell]; exact HQf5.out j
        have HI6 := hide (HI5.out.other (G := fun k => (F k ∨ k = w.heap.size + 1) ∨ k = w2.heap.size) (Keeps.wider HK6.out (fun k hk => .inr hk)) (fun k hk => ⟨.inl hk, Nat.lt_of_lt_of_le (HI5.out.fx k hk).2 HK6.out.size⟩))
        have hls5 : W3.heap.size ≤ W5.heap.size := Nat.le_trans HK4.out.size HK5.out.size
        have x3 : W6.cell? ⟨w.heap.size, 3, none⟩ = some (.int .u64 ((k : Int) + 1)) := (World.cell?_of_block (a := ⟨w.heap.size, 3, none⟩) (HK6.out.block w.heap.size (by have := HWs.out; omega) (by show ¬ w.heap.size = w2.heap.size; omega))).trans x3
        have HKn : Hid (Keeps (fun j => a.X j ∨ j = w2.heap.size) W3 W6) := kpThen (kpThen (Keeps.wider HK4.out (fun k hk => .inr hk)) (fun k hk => .inl (.inl (.inl hk))) HK5.out) (fun k hk => .inl (.inr hk)) HK6.out
        have HBX6 : Hid (W6.heap[w.heap.size + 1]? = W3.heap[w.heap.size + 1]?) := ((HK6.out.block _ (by have := HWs.out; omega) (by show ¬ w.heap.size + 1 = w2.heap.size; omega)).trans (HK5.out.block _ (by have := HWs.out; have := HK4.out.size; omega) (by show ¬ w.heap.size + 1 = a.p; omega))).trans HBX4.out
        clear hW6 hq0 hq1 hq2 q0 q1 q2 f1 f2 w1
        obtain ⟨q0, q1, q2, qf⟩ := HQ6.out
        have hO := HI6.out.so
        rw [HG.out] at hO
        have hC : CellsY laySt W6 g 0 S.ss := by
          rcases hO.form with ⟨e, _⟩ | ⟨g', cap', e, -, -, -, -, hC, -⟩
          · cases e
          · cases e; exact hC
        have hzf : ∀ i, W6.frozen? ⟨g, i, none⟩ = false := by
          rcases hO.form with ⟨e, _⟩ | ⟨g', cap', e, -, -, -, -, -, hz⟩
          · cases e
          · cases e; exact hz
        obtain ⟨m0, m1, m2⟩ := at3_list hC HSk.out
        simp only [Nat.zero_add] at m0 m1 m2
        have p0 := hzf (k * 3)
        have p1 := hzf (k * 3 + 1)
        have p2 := hzf (k * 3 + 2)
        have u2 : W6.cell? ⟨a.p, 2, none⟩ = some (.slice (some ⟨g, 0, none⟩) sn sc) := by
          have h2 := HI6.out.c2
          rw [HG.out] at h2
          exact h2
        have HOw := hide hO
        clear hO hC hzf
        go_upto_region 15 with fail
        go_region
        go_upto_region 16 with fail
        have HK7 := hide (sets3 W6 g (k * 3) (.int .u64 s1.tx) (.int .i64 1) (.int .u64 (S.ck + 1)))
        have HO7 := hide (sta_set HOw.out HSk.out 1 (S.ck + 1))
        obtain ⟨W7, hW7⟩ : ∃ W7, W7 = (((W6.setCell ⟨g, k * 3, none⟩ (.int .u64 s1.tx)).setCell ⟨g, k * 3 + 1, none⟩ (.int .i64 1)).setCell ⟨g, k * 3 + 2, none⟩ (.int .u64 (S.ck + 1))).drew := ⟨_, rfl⟩
        rw [← hW7] at HK7 HO7 ⊢
        clear hW7 m0 m1 m2 p0 p1 p2 u2
        have HS7 : Hid (W3.heap.size ≤ W7.heap.size) := Nat.le_trans HKn.out.size HK7.out.size
        have HWs : Hid (w.heap.size + 1 < W7.heap.size) := Nat.lt_of_lt_of_le HWs.out HS7.out
        have hbx : W7.heap[w.heap.size + 1]? = W3.heap[w.heap.size + 1]? := (HK7.out.block _ (by have := HKn.out.size; have := HB3.out.size; have := HL1.out; omega) (by show ¬ w.heap.size + 1 = g; omega)).trans HBX6.out
        have hbq : W7.heap[w2.heap.size]? = W6.heap[w2.heap.size]? := HK7.out.block _ (by have := HKn.out.size; have := HL3.out; omega) (by show ¬ w2.heap.size = g; omega)
        have hbp : W7.heap[a.p]? = W6.heap[a.p]? := HK7.out.block _ HI6.out.lt (fun e => hgp e.symm)
        replace q0 := (World.cell?_of_block (a := ⟨w2.heap.size, 0, none⟩) hbq).trans q0
        replace q1 := (World.cell?_of_block (a := ⟨w2.heap.size, 1, none⟩) hbq).trans q1
        replace q2 := (World.cell?_of_block (a := ⟨w2.heap.size, 2, none⟩) hbq).trans q2
        have HE : Hid (oneM S c.c = ({ res0 with ss := [⟨s1.tx, 1, S.ck + 1⟩] }, { S with ck := S.ck + 1, ss := S.ss.set k ⟨s1.tx, 1, S.ck + 1⟩ })) := decide_two HFw.out HI.out.i HKd.out HCt.out HSk.out H0.out 1 (S.ck + 1) (S.ck + 1) (by rw [show c.c.fl = c.fl from rfl, hfl]; rfl)
        have hmi := HMi.out
        rw [HE.out] at hmi
        have HI7 := hide (HI6.out.turn (W := W7) (y := z + 1) (Keeps.wider HK7.out (fun j e => (HXg.out j).2 (.inr e))) (sv' := a.sv) (ck' := S.ck + 1) (l := S.ss.set k ⟨s1.tx, 1, S.ck + 1⟩) (fun j _ _ => World.cell?_of_block (a := ⟨a.p, j, none⟩) hbp) (fun j => World.frozen?_of_block (a := ⟨a.p, j, none⟩) hbp) ((World.cell?_of_block (a := ⟨a.p, 1, none⟩) hbp).trans HI6.out.c1) ((World.cell?_of_block (a := ⟨a.p, 2, none⟩) hbp).trans HI6.out.c2) (by rw [HG.out]; exact HO7.out) (fun j hj => .inl hj) hmi (Nat.le_refl _))
        have HI7b := hide (HI7.out.less (G := fun k => F k ∨ k = w.heap.size + 1) (fun k hk => .inl hk))
        have HKw : Hid (Keeps a.X w2 W7) := kpThen (Below.keeps HN3.out a.X) (fun k (hk : a.X k ∨ k = w2.heap.size) => by
    rcases hk with hk | hk
    · exact .inl hk
    · exact .inr (by omega)) (kpThen HKn.out (fun k (hk : k = g) => .inl (.inl ((HXg.out k).2 (.inr hk)))) HK7.out)
        clear hbp hbq hmi qf
        have HZ5 : Hid (W7.rangeAt (w.heap.size + 1) 0 [.int .i64 0, .int .u64 0, .int .u64 0, .bool false, .slice none 0 0, .slice none 0 0, .slice none 0 0]) := rangeY_same (HX.out W3 HB3.out).2.1 hbx
        have HF5 : Hid (∀ j, W7.frozen? ⟨w.heap.size + 1, j, none⟩ = false) := fun j => (World.frozen?_of_block (a := ⟨w.heap.size + 1, j, none⟩) hbx).trans ((HX.out W3 HB3.out).2.2 j)
        clear hbx
        have z0 := fun o => (World.cell?_of_block (a := ⟨w.heap.size + 1, 0, none⟩) ((new_below W7 o).block _ HWs.out)).trans (show W7.cell? ⟨w.heap.size + 1, 0, none⟩ = some (.int .i64 0) from HZ5.out 0 _ rfl)
        have z1 := fun o => (World.cell?_of_block (a := ⟨w.heap.size + 1, 1, none⟩) ((new_below W7 o).block _ HWs.out)).trans (show W7.cell? ⟨w.heap.size + 1, 1, none⟩ = some (.int .u64 0) from HZ5.out 1 _ rfl)
        have z2 := fun o => (World.cell?_of_block (a := ⟨w.heap.size + 1, 2, none⟩) ((new_below W7 o).block _ HWs.out)).trans (show W7.cell? ⟨w.heap.size + 1, 2, none⟩ = some (.int .u64 0) from HZ5.out 2 _ rfl)
        have z3 := fun o => (World.cell?_of_block (a := ⟨w.heap.size + 1, 3, none⟩) ((new_below W7 o).block _ HWs.out)).trans (show W7.cell? ⟨w.heap.size + 1, 3, none⟩ = some (.bool false) from HZ5.out 3 _ rfl)
        have z4 := fun o => (World.cell?_of_block (a := ⟨w.heap.size + 1, 4, none⟩) ((new_below W7 o).block _ HWs.out)).trans (show W7.cell? ⟨w.heap.size + 1, 4, none⟩ = some (.slice none 0 0) from HZ5.out 4 _ rfl)
        have z5 := fun o => (World.cell?_of_block (a := ⟨w.heap.size + 1, 5, none⟩) ((new_below W7 o).block _ HWs.out)).trans (show W7.cell? ⟨w.heap.size + 1, 5, none⟩ = some (.slice none 0 0) from HZ5.out 5 _ rfl)
        have z6 := fun o => (World.cell?_of_block (a := ⟨w.heap.size + 1, 6, none⟩) ((new_below W7 o).block _ HWs.out)).trans (show W7.cell? ⟨w.heap.size + 1, 6, none⟩ = some (.slice none 0 0) from HZ5.out 6 _ rfl)
        have g0 := fun o => (World.frozen?_of_block (a := ⟨w.heap.size + 1, 0, none⟩) ((new_below W7 o).block _ HWs.out)).trans (HF5.out 0)
        have g1 := fun o => (World.frozen?_of_block (a := ⟨w.heap.size + 1, 1, none⟩) ((new_below W7 o).block _ HWs.out)).trans (HF5.out 1)
        have g2 := fun o => (World.frozen?_of_block (a := ⟨w.heap.size + 1, 2, none⟩) ((new_below W7 o).block _ HWs.out)).trans (HF5.out 2)
        have g3 := fun o => (World.frozen?_of_block (a := ⟨w.heap.size + 1, 3, none⟩) ((new_below W7 o).block _ HWs.out)).trans (HF5.out 3)
        have g4 := fun o => (World.frozen?_of_block (a := ⟨w.heap.size + 1, 4, none⟩) ((new_below W7 o).block _ HWs.out)).trans (HF5.out 4)
        have g5 := fun o => (World.frozen?_of_block (a := ⟨w.heap.size + 1, 5, none⟩) ((new_below W7 o).block _ HWs.out)).trans (HF5.out 5)
        have g6 := fun o => (World.frozen?_of_block (a := ⟨w.heap.size + 1, 6, none⟩) ((new_below W7 o).block _ HWs.out)).trans (HF5.out 6)
        have hnb : ¬ W7.heap.size = w.heap.size + 1 := by have := HWs.out; omega
        have hnb2 : ¬ w.heap.size + 1 = W7.heap.size := by have := HWs.out; omega
        go_wp2
        change bodyPost _ _ _ _ _ ((W7.alloc (.cells #[.int .u64 s1.tx, .int .i64 1, .int .u64 (S.ck + 1)] 80)).setCells (w.heap.size + 1) 0 [.int .i64 0, .int .u64 0, .int .u64 0, .bool false, .slice (some ⟨W7.heap.size, 0, none⟩) 1 1, .slice none 0 0, .slice none 0 0])
        have hfo := sta_list (X := fun k => a.X k ∨ (F k ∨ k = w.heap.size + 1)) W7 ⟨s1.tx, 1, (S.ck + 1)⟩ #[.int .u64 s1.tx, .int .i64 1, .int .u64 (S.ck + 1)] rfl (fun k hk => by
      rcases hk with hk | hk
      · exact (HI7b.out.xl k hk).2
      · exact (HI7b.out.fx k hk).2)
        obtain ⟨W8, hW8⟩ : ∃ W8, W8 = W7.alloc (.cells #[.int .u64 s1.tx, .int .i64 1, .int .u64 (S.ck + 1)] 80) := ⟨_, rfl⟩
        rw [← hW8] at hfo ⊢
        have hb8 : Below W7.heap.size W7 W8 := by rw [hW8]; exact new_below _ _
        clear hW8
        have hr := box_set (V := W8) (b := w.heap.size + 1) (new := [.int .i64 0, .int .u64 0, .int .u64 0, .bool false, .slice (some ⟨W7.heap.size, 0, none⟩) 1 1, .slice none 0 0, .slice none 0 0]) (rangeY_same HZ5.out (hb8.block _ HWs.out)) (Nat.le_refl _) (fun j => (World.frozen?_of_block (a := ⟨w.heap.size + 1, j, none⟩) (hb8.block _ HWs.out)).trans (HF5.out j))
        have hkk : Keeps (fun k => k = w.heap.size + 1) W8 (W8.setCells (w.heap.size + 1) 0 [.int .i64 0, .int .u64 0, .int .u64 0, .bool false, .slice (some ⟨W7.heap.size, 0, none⟩) 1 1, .slice none 0 0, .slice none 0 0]) := keepsYs _ _ _ _
        have r0 := hr 0 _ rfl
        have r1 := hr 1 _ rfl
        have r2 := hr 2 _ rfl
        have r3 := hr 3 _ rfl
        have r4 := hr 4 _ rfl
        have r5 := hr 5 _ rfl
        have r6 := hr 6 _ rfl
        clear hr
        generalize W8.setCells (w.heap.size + 1) 0 [.int .i64 0, .int .u64 0, .int .u64 0, .bool false, .slice (some ⟨W7.heap.size, 0, none⟩) 1 1, .slice none 0 0, .slice none 0 0] = W at *
        refine bodyPost_ret (v := .agg #[.int .i64 0, .int .u64 0, .int .u64 0, .bool false, .slice (some ⟨W7.heap.size, 0, none⟩) 1 1, .slice none 0 0, .slice none 0 0]) (by simp [results, Tryz.results30, go_sem, r0, r1, r2, r3, r4, r5, r6]) rfl ?_
        rw [HE.out]
        have hK8 : Keeps a.X w2 W8 := kpThen HKw.out (fun k hk => .inl hk) (Below.keeps hb8 a.X)
        exact xs_done (a' := a) (b := w.heap.size + 1) HI.out (HB1.out.trans (HB2.out.mono HB1.out.size)) hK8 (HI7b.out.keep hb8) (fun k hk => .inl hk) rfl (by omega) hkk ⟨0, 0, 0, false, ⟨some ⟨W7.heap.size, 0, none⟩, 1, 1, [⟨s1.tx, 1, (S.ck + 1)⟩]⟩, ⟨none, 0, 0, []⟩, ⟨none, 0, 0, []⟩⟩ rfl (hfo.imp (fun V hV => ⟨hV, isY_nil V, isY_nil V, by simp, by simp⟩))
    · have d0 : (s.st == 0) = false := by simpa using h0
      have d1 : decide (s.st = 0) = false := by simpa using h0
      have HE : Hid (oneM S c.c = ({ res0 with ss := [s] }, S)) := by
        show _ = _
        have hk2 : c.c.kd = 2 := HKd.out
        have hh : hasM S.ss c.c.tx = true := HBb.out
        have ho : openM S.ss c.c.tx = false := by
          unfold openM
          rw [hh, show staM S.ss c.c.tx = s from HS.out]
          simpa using h0
        have hd : decideM S c.c.tx c.c.fl = S := by unfold decideM; rw [ho]; rfl
        simp [oneM, hk2, hh, hd]
        exact HS.out
      clear h0
      have HZ5 : Hid (W3.rangeAt (w.heap.size + 1) 0 [.int .i64 0, .int .u64 0, .int .u64 0, .bool false, .slice none 0 0, .slice none 0 0, .slice none 0 0]) := rangeY_same (HX.out W3 HB3.out).2.1 rfl
      have HF5 : Hid (∀ j, W3.frozen? ⟨w.heap.size + 1, j, none⟩ = false) := fun j => (World.frozen?_of_block (a := ⟨w.heap.size + 1, j, none⟩) rfl).trans ((HX.out W3 HB3.out).2.2 j)
      have z0 := fun o => (World.cell?_of_block (a := ⟨w.heap.size + 1, 0, none⟩) ((new_below W3 o).block _ HWs.out)).trans (show W3.cell? ⟨w.heap.size + 1, 0, none⟩ = some (.int .i64 0) from HZ5.out 0 _ rfl)
      have z1 := fun o => (World.cell?_of_block (a := ⟨w.heap.size + 1, 1, none⟩) ((new_below W3 o).block _ HWs.out)).trans (show W3.cell? ⟨w.heap.size + 1, 1, none⟩ = some (.int .u64 0) from HZ5.out 1 _ rfl)
      have z2 := fun o => (World.cell?_of_block (a := ⟨w.heap.size + 1, 2, none⟩) ((new_below W3 o).block _ HWs.out)).trans (show W3.cell? ⟨w.heap.size + 1, 2, none⟩ = some (.int .u64 0) from HZ5.out 2 _ rfl)
      have z3 := fun o => (World.cell?_of_block (a := ⟨w.heap.size + 1, 3, none⟩) ((new_below W3 o).block _ HWs.out)).trans (show W3.cell? ⟨w.heap.size + 1, 3, none⟩ = some (.bool false) from HZ5.out 3 _ rfl)
      have z4 := fun o => (World.cell?_of_block (a := ⟨w.heap.size + 1, 4, none⟩) ((new_below W3 o).block _ HWs.out)).trans (show W3.cell? ⟨w.heap.size + 1, 4, none⟩ = some (.slice none 0 0) from HZ5.out 4 _ rfl)
      have z5 := fun o => (World.cell?_of_block (a := ⟨w.heap.size + 1, 5, none⟩) ((new_below W3 o).block _ HWs.out)).trans (show W3.cell? ⟨w.heap.size + 1, 5, none⟩ = some (.slice none 0 0) from HZ5.out 5 _ rfl)
      have z6 := fun o => (World.cell?_of_block (a := ⟨w.heap.size + 1, 6, none⟩) ((new_below W3 o).block _ HWs.out)).trans (show W3.cell? ⟨w.heap.size + 1, 6, none⟩ = some (.slice none 0 0) from HZ5.out 6 _ rfl)
      have g0 := fun o => (World.frozen?_of_block (a := ⟨w.heap.size + 1, 0, none⟩) ((new_below W3 o).block _ HWs.out)).trans (HF5.out 0)
      have g1 := fun o => (World.frozen?_of_block (a := ⟨w.heap.size + 1, 1, none⟩) ((new_below W3 o).block _ HWs.out)).trans (HF5.out 1)
      have g2 := fun o => (World.frozen?_of_block (a := ⟨w.heap.size + 1, 2, none⟩) ((new_below W3 o).block _ HWs.out)).trans (HF5.out 2)
      have g3 := fun o => (World.frozen?_of_block (a := ⟨w.heap.size + 1, 3, none⟩) ((new_below W3 o).block _ HWs.out)).trans (HF5.out 3)
      have g4 := fun o => (World.frozen?_of_block (a := ⟨w.heap.size + 1, 4, none⟩) ((new_below W3 o).block _ HWs.out)).trans (HF5.out 4)
      have g5 := fun o => (World.frozen?_of_block (a := ⟨w.heap.size + 1, 5, none⟩) ((new_below W3 o).block _ HWs.out)).trans (HF5.out 5)
      have g6 := fun o => (World.frozen?_of_block (a := ⟨w.heap.size + 1, 6, none⟩) ((new_below W3 o).block _ HWs.out)).trans (HF5.out 6)
      have hnb : ¬ W3.heap.size = w.heap.size + 1 := by have := HWs.out; omega
      have hnb2 : ¬ w.heap.size + 1 = W3.heap.size := by have := HWs.out; omega
      go_wp2
      change bodyPost _ _ _ _ _ ((W3.alloc (.cells #[.int .u64 s.tx, .int .i64 s.st, .int .u64 s.ts] 80)).setCells (w.heap.size + 1) 0 [.int .i64 0, .int .u64 0, .int .u64 0, .bool false, .slice (some ⟨W3.heap.size, 0, none⟩) 1 1, .slice none 0 0, .slice none 0 0])
      have hfo := sta_list (X := fun k => a.X k ∨ (F k ∨ k = w.heap.size + 1)) W3 ⟨s.tx, s.st, s.ts⟩ #[.int .u64 s.tx, .int .i64 s.st, .int .u64 s.ts] rfl (fun k hk => by
      rcases hk with hk | hk
      · exact (HI3.out.xl k hk).2
      · exact (HI3.out.fx k hk).2)
      obtain ⟨W8, hW8⟩ : ∃ W8, W8 = W3.alloc (.cells #[.int .u64 s.tx, .int .i64 s.st, .int .u64 s.ts] 80) := ⟨_, rfl⟩
      rw [← hW8] at hfo ⊢
      have hb8 : Below W3.heap.size W3 W8 := by rw [hW8]; exact new_below _ _
      clear hW8
      have hr := box_set (V := W8) (b := w.heap.size + 1) (new := [.int .i64 0, .int .u64 0, .int .u64 0, .bool false, .slice (some ⟨W3.heap.size, 0, none⟩) 1 1, .slice none 0 0, .slice none 0 0]) (rangeY_same HZ5.out (hb8.block _ HWs.out)) (Nat.le_refl _) (fun j => (World.frozen?_of_block (a := ⟨w.heap.size + 1, j, none⟩) (hb8.block _ HWs.out)).trans (HF5.out j))
      have hkk : Keeps (fun k => k = w.heap.size + 1) W8 (W8.setCells (w.heap.size + 1) 0 [.int .i64 0, .int .u64 0, .int .u64 0, .bool false, .slice (some ⟨W3.heap.size, 0, none⟩) 1 1, .slice none 0 0, .slice none 0 0]) := keepsYs _ _ _ _
      have r0 := hr 0 _ rfl
      have r1 := hr 1 _ rfl
      have r2 := hr 2 _ rfl
      have r3 := hr 3 _ rfl
      have r4 := hr 4 _ rfl
      have r5 := hr 5 _ rfl
      have r6 := hr 6 _ rfl
      clear hr
      generalize W8.setCells (w.heap.size + 1) 0 [.int .i64 0, .int .u64 0, .int .u64 0, .bool false, .slice (some ⟨W3.heap.size, 0, none⟩) 1 1, .slice none 0 0, .slice none 0 0] = W at *
      refine bodyPost_ret (v := .agg #[.int .i64 0, .int .u64 0, .int .u64 0, .bool false, .slice (some ⟨W3.heap.size, 0, none⟩) 1 1, .slice none 0 0, .slice none 0 0]) (by simp [results, Tryz.results30, go_sem, r0, r1, r2, r3, r4, r5, r6]) rfl ?_
      rw [HE.out]
      have hK8 : Keeps a.X W3 W8 := kpThen (Keeps.wider (Below.keeps (Below.refl _ W3) (fun _ => False)) (fun k hk => hk.elim)) (fun k hk => .inl hk) (Below.keeps hb8 a.X)
      exact xs_done (a' := a) (b := w.heap.size + 1) HI.out HBw.out hK8 ((HI3.out.more (Nat.le_succ _)).keep hb8) (fun k hk => .inl hk) rfl (by omega) hkk ⟨0, 0, 0, false, ⟨some ⟨W3.heap.size, 0, none⟩, 1, 1, [⟨s.tx, s.st, s.ts⟩]⟩, ⟨none, 0, 0, []⟩, ⟨none, 0, 0, []⟩⟩ rfl (hfo.imp (fun V hV => ⟨hV, isY_nil V, isY_nil V, by simp, by simp⟩))

end Go.Proofs.YtcgiicmmfleinaaGreatDoor

namespace Go.Proofs.YtcgiicmmfleinaaGreatDoor
open Go.RowKit NumMath Go.ChangeShapes Go.WideShapes Go.Deep
set_option linter.unusedVariables false
set_option linter.unusedSimpArgs false
set_option maxRecDepth 100000

/-- a result in a variable, with numbers alone -/
structure StB (V : World) (b : Nat) (v : Value) : Prop where
  r : V.rangeAt b 0 [.int .i64 0, .int .u64 0, .int .u64 0, .bool false, v, .slice none 0 0, .slice none 0 0]
  fz : ∀ j, V.frozen? ⟨b, j, none⟩ = false
  lt : b < V.heap.size

theorem StB.same {V W : World} {b : Nat} {v : Value} (h : StB V b v) (e : W.heap[b]? = V.heap[b]?) (hl : V.heap.size ≤ W.heap.size) : StB W b v :=
  ⟨rangeY_same h.r e, fun j => (World.frozen?_of_block (a := ⟨b, j, none⟩) e).trans (h.fz j), Nat.lt_of_lt_of_le h.lt hl⟩

theorem StB.set {V : World} {b : Nat} {v : Value} (h : StB V b v) (v' : Value) : StB (V.setCell ⟨b, 4, none⟩ v') b v' := by
  have ho : ∀ j, j ≠ 4 → (V.setCell ⟨b, 4, none⟩ v').cell? ⟨b, j, none⟩ = V.cell? ⟨b, j, none⟩ := fun j hj => World.cell?_setCell_other _ _ _ _ (by intro e; cases e; exact hj rfl)
  have q : ∀ (j : Nat) (u : Value), [.int .i64 0, .int .u64 0, .int .u64 0, .bool false, v, .slice none 0 0, .slice none 0 0][j]? = some u → V.cell? ⟨b, j, none⟩ = some u := fun j u hu => by
    have := h.r j u hu
    rwa [Nat.zero_add] at this
  refine ⟨fun j u hu => ?_, fun j => by rw [World.frozen?_setCell]; exact h.fz j, by simpa using h.lt⟩
  rw [Nat.zero_add]
  match j, hu with
  | 0, hu => rw [ho 0 (by omega)]; exact q 0 u hu
  | 1, hu => rw [ho 1 (by omega)]; exact q 1 u hu
  | 2, hu => rw [ho 2 (by omega)]; exact q 2 u hu
  | 3, hu => rw [ho 3 (by omega)]; exact q 3 u hu
  | 4, hu => cases hu; exact World.cell?_setCell_same' _ _ _ (by rw [q 4 v rfl]; rfl)
  | 5, hu => rw [ho 5 (by omega)]; exact q 5 u hu
  | 6, hu => rw [ho 6 (by omega)]; exact q 6 u hu
  | j + 7, hu => cases hu

/-- an answer that changes nothing of the machine, told of the world ahead of its box -/
theorem xs_same2 {F : Nat → Prop} {w0 w V W : World} {a : Xm} {z y b : Nat} {S : Mac} (h : IsXm F w0 w a z S) (hv : Below w.heap.size w V) (hk : Keeps (fun k => k = b) V W) (hb : Below w.heap.size w W) (r : MRr) {R : Res} (hr : r.p = R.p) (hf : Foot (fun k => (a.X k ∨ F k) ∨ k = b) V (fun V => r.ok V)) (hz : z ≤ y) (hbn : w.heap.size ≤ b) :
    XsPost F w0 w a y (R, S) (.returned (.agg #[.int .i64 r.er, .int .u64 r.tx, .int .u64 r.ts, .bool r.fl, .slice r.ss.a r.ss.n r.ss.c, .slice r.ce.a r.ce.n r.ce.c, .slice r.tb.a r.tb.n r.tb.c])) W :=
  ⟨a, r, rfl, hr, hf.step (Keeps.wider hk (fun k e => .inr e)) (fun k hk => .inl (.inl hk)), (h.keep hb).more hz, rfl, Below.keeps hb _, fun k hk => .inl hk⟩

set_option maxHeartbeats 4000000 in
theorem xone3_any {F : Nat → Prop} {w0 w : World} {a : Xm} {z : Nat} {S : Mac} (h : IsXm F w0 w a z S) (c : MCmd) (hc : c.ok w0) (hf : c.c.Few) (hz : z ≤ 159) (hk : c.kd = 3) :
    Calls Tryz.prog 30 #[.pointer (some ⟨a.p, 0, none⟩), .agg #[.int .u64 c.cl, .int .u64 c.sq, .int .i64 c.kd, .int .u64 c.tx, .int .u64 c.ts, .bool c.fl, .int .u64 c.lk.l.tx, .int .i64 c.lk.l.lv, .int .i64 c.lk.l.md, .slice c.lk.la c.lk.ln c.lk.lc, .slice c.lk.ha c.lk.hn c.lk.hc, .slice c.lo.a c.lo.n c.lo.c, .slice c.hi.a c.hi.n c.hi.c, .slice c.txs.a c.txs.n c.txs.c, .slice c.ws.a c.ws.n c.ws.c, .slice c.ks.a c.ks.n c.ks.c, .int .i64 c.tb.id, .string (strB c.tb.nm), .slice c.tb.cs.a c.tb.cs.n c.tb.cs.c, .int .i64 c.tb.ky, .slice c.tb.ix.a c.tb.ix.n c.tb.ix.c]] w (XsPost F w0 w a (z + 1) (oneM S c.c)) := by
  have HKd := hide hk
  clear hk
  obtain ⟨W1, hW1⟩ : ∃ W1, W1 = ((w.alloc (.cells #[.int .u64 c.cl, .int .u64 c.sq, .int .i64 c.kd, .int .u64 c.tx, .int .u64 c.ts, .bool c.fl, .int .u64 c.lk.l.tx, .int .i64 c.lk.l.lv, .int .i64 c.lk.l.md, .slice c.lk.la c.lk.ln c.lk.lc, .slice c.lk.ha c.lk.hn c.lk.hc, .slice c.lo.a c.lo.n c.lo.c, .slice c.hi.a c.hi.n c.hi.c, .slice c.txs.a c.txs.n c.txs.c, .slice c.ws.a c.ws.n c.ws.c, .slice c.ks.a c.ks.n c.ks.c, .int .i64 c.tb.id, .string (strB c.tb.nm), .slice c.tb.cs.a c.tb.cs.n c.tb.cs.c, .int .i64 c.tb.ky, .slice c.tb.ix.a c.tb.ix.n c.tb.ix.c] 50)).alloc (.cells #[.int .i64 0, .int .u64 0, .int .u64 0, .bool false, .slice none 0 0, .slice none 0 0, .slice none 0 0] 55)) := ⟨_, rfl⟩
  have hb1 : Below w.heap.size w W1 := by
    rw [hW1]
    exact (new_below w _).trans ((new_below _ _).mono (new_below w _).size)
  have hl1 : W1.heap.size = w.heap.size + 2 := by rw [hW1]; simp
  have HX : Hid (∀ V, Below W1.heap.size W1 V → V.rangeAt w.heap.size 0 (layCm.cells c) ∧ V.rangeAt (w.heap.size + 1) 0 [.int .i64 0, .int .u64 0, .int .u64 0, .bool false, .slice none 0 0, .slice none 0 0, .slice none 0 0] ∧ ∀ j, V.frozen? ⟨w.heap.size + 1, j, none⟩ = false) := by
    intro V hb
    refine ⟨?_, ?_, fun j => ?_⟩
    · subst hW1
      exact (two_boxes w #[.int .u64 c.cl, .int .u64 c.sq, .int .i64 c.kd, .int .u64 c.tx, .int .u64 c.ts, .bool c.fl, .int .u64 c.lk.l.tx, .int .i64 c.lk.l.lv, .int .i64 c.lk.l.md, .slice c.lk.la c.lk.ln c.lk.lc, .slice c.lk.ha c.lk.hn c.lk.hc, .slice c.lo.a c.lo.n c.lo.c, .slice c.hi.a c.hi.n c.hi.c, .slice c.txs.a c.txs.n c.txs.c, .slice c.ws.a c.ws.n c.ws.c, .slice c.ks.a c.ks.n c.ks.c, .int .i64 c.tb.id, .string (strB c.tb.nm), .slice c.tb.cs.a c.tb.cs.n c.tb.cs.c, .int .i64 c.tb.ky, .slice c.tb.ix.a c.tb.ix.n c.tb.ix.c] #[.int .i64 0, .int .u64 0, .int .u64 0, .bool false, .slice none 0 0, .slice none 0 0, .slice none 0 0] 50 55 V hb).1
    · subst hW1
      exact (two_boxes w #[.int .u64 c.cl, .int .u64 c.sq, .int .i64 c.kd, .int .u64 c.tx, .int .u64 c.ts, .bool c.fl, .int .u64 c.lk.l.tx, .int .i64 c.lk.l.lv, .int .i64 c.lk.l.md, .slice c.lk.la c.lk.ln c.lk.lc, .slice c.lk.ha c.lk.hn c.lk.hc, .slice c.lo.a c.lo.n c.lo.c, .slice c.hi.a c.hi.n c.hi.c, .slice c.txs.a c.txs.n c.txs.c, .slice c.ws.a c.ws.n c.ws.c, .slice c.ks.a c.ks.n c.ks.c, .int .i64 c.tb.id, .string (strB c.tb.nm), .slice c.tb.cs.a c.tb.cs.n c.tb.cs.c, .int .i64 c.tb.ky, .slice c.tb.ix.a c.tb.ix.n c.tb.ix.c] #[.int .i64 0, .int .u64 0, .int .u64 0, .bool false, .slice none 0 0, .slice none 0 0, .slice none 0 0] 50 55 V hb).2
    · rw [hb.frozen (p := ⟨w.heap.size + 1, j, none⟩) (by show w.heap.size + 1 < W1.heap.size; omega), hW1]
      have h := fzY_new (w.alloc (.cells #[.int .u64 c.cl, .int .u64 c.sq, .int .i64 c.kd, .int .u64 c.tx, .int .u64 c.ts, .bool c.fl, .int .u64 c.lk.l.tx, .int .i64 c.lk.l.lv, .int .i64 c.lk.l.md, .slice c.lk.la c.lk.ln c.lk.lc, .slice c.lk.ha c.lk.hn c.lk.hc, .slice c.lo.a c.lo.n c.lo.c, .slice c.hi.a c.hi.n c.hi.c, .slice c.txs.a c.txs.n c.txs.c, .slice c.ws.a c.ws.n c.ws.c, .slice c.ks.a c.ks.n c.ks.c, .int .i64 c.tb.id, .string (strB c.tb.nm), .slice c.tb.cs.a c.tb.cs.n c.tb.cs.c, .int .i64 c.tb.ky, .slice c.tb.ix.a c.tb.ix.n c.tb.ix.c] 50)) #[.int .i64 0, .int .u64 0, .int .u64 0, .bool false, .slice none 0 0, .slice none 0 0, .slice none 0 0] 55 j
      rwa [World.size_alloc] at h
  obtain ⟨sa, sn, sc, hsv⟩ := h.so.any3
  have hI : IsY laySt w sa sn sc S.ss := by
    have h2 := h.so
    rw [hsv] at h2
    exact h2.is
  have hc2 : w.cell? ⟨a.p, 2, none⟩ = some (.slice sa sn sc) := by rw [← hsv]; exact h.c2
  have hst := xstate_any a.p sa sn sc S.ss c.tx W1 (Nat.lt_of_lt_of_le h.lt hb1.size) ((hb1.cell (p := ⟨a.p, 2, none⟩) h.lt).trans hc2) (hI.keep hb1) h.i.nx hf.tx
  obtain ⟨s, hs⟩ : ∃ s, staM S.ss c.tx = s := ⟨_, rfl⟩
  obtain ⟨b, hbb⟩ : ∃ b, hasM S.ss c.tx = b := ⟨_, rfl⟩
  rw [hs, hbb] at hst
  have HSt := hide hst
  have HI := hide h
  have HCo := hide hc
  have HFw := hide hf
  have HB1 := hide hb1
  have HL1 := hide hl1
  have HS := hide hs
  have HBb := hide hbb
  have HSv := hide hsv
  have HSY := hide hI
  have x3 : W1.cell? ⟨w.heap.size, 3, none⟩ = some (.int .u64 c.tx) := (HX.out W1 (Below.refl _ _)).1 3 _ rfl
  have hpl := h.lt
  have hpw : ¬ w.heap.size = a.p := by omega
  have hpw2 : ¬ w.heap.size + 1 = a.p := by omega
  clear h hc hf hb1 hl1 hst hs hbb hsv hI hc2
  go_enter Tryz.func30, Tryz.ntmps30
  go_upto_region 1 with fail
  rw [← hW1]
  clear hW1
  go_upto_region 2 with (first
    | (go_at_call 82; go_must (refine HSt.out.mono ?_); rintro e w2 ⟨rfl, hb2⟩; have HB2 := hide hb2; clear hb2))
  obtain ⟨W3, hW3⟩ : ∃ W3, W3 = w2.alloc (.cells #[.int .u64 s.tx, .int .i64 s.st, .int .u64 s.ts] 80) := ⟨_, rfl⟩
  rw [← hW3]
  have HN3 : Hid (Below w2.heap.size w2 W3) := by rw [hW3]; exact new_below _ _
  have HR3 : Hid (W3.rangeAt w2.heap.size 0 (laySt.cells s)) := by
    rw [hW3]
    exact rangeY_new w2 w2.heap.size _ _ rfl
  have HFz3 : Hid (∀ j, W3.frozen? ⟨w2.heap.size, j, none⟩ = false) := by
    rw [hW3]
    exact fun j => fzY_new _ _ _ _
  have HL3 : Hid (w2.heap.size < W3.heap.size) := by
    rw [hW3]
    exact (Array.getElem?_eq_some_iff.1 (heap_alloc_new _ _)).1
  have HB3 : Hid (Below W1.heap.size W1 W3) := HB2.out.trans (HN3.out.mono HB2.out.size)
  have HBw : Hid (Below w.heap.size w W3) := HB1.out.trans (HB3.out.mono HB1.out.size)
  clear hW3 x3 HSt
  have x2 : W3.cell? ⟨w.heap.size, 2, none⟩ = some (.int .i64 c.kd) := (HX.out W3 HB3.out).1 2 _ rfl
  rw [show c.kd = 3 from HKd.out] at x2
  have HI3 := hide (HI.out.box HBw.out (b := w.heap.size + 1) (by omega) (by have := HB3.out.size; have := HL1.out; omega))
  have HWs : Hid (w.heap.size + 1 < W3.heap.size) := by show _ < _; have := HB3.out.size; have := HL1.out; omega
  have HE : Hid (oneM S c.c = ({ res0 with ss := c.txs.xs.map (staM S.ss) }, S)) := by
    show _ = _
    have hk2 : c.c.kd = 3 := HKd.out
    simp [oneM, hk2]
    rfl
  obtain ⟨W4, hW4⟩ : ∃ W4, W4 = W3.alloc (.cells #[.int .i64 0, .int .u64 0, .int .u64 0, .bool false, .slice none 0 0, .slice none 0 0, .slice none 0 0] 55) := ⟨_, rfl⟩
  have hb4 : Below W3.heap.size W3 W4 := by rw [hW4]; exact new_below _ _
  have hl4 : W4.heap.size = W3.heap.size + 1 := by rw [hW4]; simp
  have HR4 : Hid (StB W4 W3.heap.size (.slice none 0 0)) := by
    show StB _ _ _
    rw [hW4]
    exact ⟨rangeY_new W3 W3.heap.size _ _ rfl, fun j => fzY_new _ _ _ _, by simp⟩
  have HB4 := hide (HBw.out.trans (hb4.mono HBw.out.size))
  have htx : IsY layU W3 c.txs.a c.txs.n c.txs.c c.txs.xs := HCo.out.txs.keep (HI.out.lk.b0.trans (HBw.out.mono HI.out.lk.b0.size))
  have HTx := hide htx
  have htl : c.txs.xs.length ≤ 1000 := HFw.out.txs
  have hnl : c.txs.n ≤ 1000 := by rw [← htx.1]; exact htl
  have hm : (c.txs.n : Int) ≤ 9223372036854775807 := by omega
  have x13o := fun o => (World.cell?_of_block (a := ⟨w.heap.size, 13, none⟩) ((new_below W3 o).block w.heap.size (by have := HWs.out; omega))).trans (show W3.cell? ⟨w.heap.size, 13, none⟩ = some (.slice c.txs.a c.txs.n c.txs.c) from (HX.out W3 HB3.out).1 13 _ rfl)
  have HL4 := hide hl4
  have HN4 := hide hb4
  clear htx htl hl4 hb4
  go_wp2
  rw [← hW4]
  clear hW4 x13o
  generalize hta : c.txs.a = ta at *
  clear hta
  go_loopg [92] c.txs.n (fun gk ix wr => ∃ (k : Nat) (va : Option Addr) (vn vc : Nat), gk = c.txs.n - k ∧ ix = .int .i64 k ∧ k ≤ c.txs.n ∧ StB wr W3.heap.size (.slice va vn vc) ∧ OwnY laySt wr W4.heap.size (.slice va vn vc) ((c.txs.xs.take k).map (staM S.ss)) ∧ Below W3.heap.size W3 wr ∧ W4.heap.size ≤ wr.heap.size)
  case atStart => exact ⟨0, _, _, _, rfl, rfl, Nat.zero_le _, HR4.out, ownY_nil _ _, HN4.out, Nat.le_refl _⟩
  case round =>
    obtain ⟨k, va, vn, vc, rfl, rfl, hk, hR, hO, hB, hs4⟩ := hrel
    have HR := hide hR
    have HO := hide hO
    have HB := hide hB
    have HS4 := hide hs4
    have HBr := hide (HBw.out.trans (hB.mono HBw.out.size))
    clear hR hO hB hs4
    by_cases hlt : k < c.txs.n
    · have hltI : (k : Int) < (c.txs.n : Int) := by omega
      obtain ⟨n, hn⟩ := at_of HTx.out.1 hlt
      have hun : U64 n := HFw.out.txu n (List.mem_of_getElem? hn)
      obtain ⟨g1, o1, rfl, hg1, hC1⟩ := (HTx.out.keep HB.out).at hlt
      have e0 : wr.cell? ⟨g1, o1 + k, none⟩ = some (.int .u64 n) := by simpa [layU] using hC1 k n hn 0 _ rfl
      have HTk : Hid ((c.txs.xs.take (k + 1)).map (staM S.ss) = (c.txs.xs.take k).map (staM S.ss) ++ [staM S.ss n]) := by
        show _ = _
        rw [List.take_add_one, hn, List.map_append]
        rfl
      have hst := xstate_any a.p sa sn sc S.ss n wr (Nat.lt_of_lt_of_le HI.out.lt HBr.out.size) (by rw [← HSv.out]; exact (HI.out.keep HBr.out).c2) (HSY.out.keep HBr.out) HI.out.i.nx hun
      obtain ⟨s2, hs2⟩ : ∃ s2, staM S.ss n = s2 := ⟨_, rfl⟩
      obtain ⟨b2, hb2⟩ : ∃ b2, hasM S.ss n = b2 := ⟨_, rfl⟩
      rw [hs2, hb2] at hst
      rw [hs2] at HTk
      have HSt := hide hst
      clear hst hC1 hn hun hs2 hb2
      go_upto_region 23 with (first
        | (go_at_call 82; go_must (refine HSt.out.mono ?_); rintro e w5 ⟨rfl, hb5⟩; have HB5 := hide hb5; clear hb5))
      obtain ⟨W6, hW6⟩ : ∃ W6, W6 = w5.alloc (.cells #[.int .u64 s2.tx, .int .i64 s2.st, .int .u64 s2.ts] 80) := ⟨_, rfl⟩
      rw [← hW6]
      have hb6 : Below wr.heap.size wr W6 := by rw [hW6]; exact HB5.out.trans ((new_below w5 _).mono HB5.out.size)
      have hq6 : W6.rangeAt w5.heap.size 0 (laySt.cells s2) := by rw [hW6]; exact rangeY_new w5 w5.heap.size _ _ rfl
      have hl6 : w5.heap.size < W6.heap.size := by rw [hW6]; exact (Array.getElem?_eq_some_iff.1 (heap_alloc_new _ _)).1
      obtain ⟨W7, hW7⟩ : ∃ W7, W7 = W6.alloc (.cells #[.int .u64 s2.tx, .int .i64 s2.st, .int .u64 s2.ts] 80) := ⟨_, rfl⟩
      have hb7 : Below W6.heap.size W6 W7 := by rw [hW7]; exact new_below _ _
      have HO7 := hide ((HO.out.keep hb6).keep hb7)
      have HXs : Hid (SrcY laySt W7 (some ⟨W6.heap.size, 0, none⟩) 1 [s2]) := by
        show SrcY _ _ _ _ _
        rw [hW7]
        exact (ownY_one (L := laySt) W6 W6.heap.size #[.int .u64 s2.tx, .int .i64 s2.st, .int .u64 s2.ts] s2 (Nat.le_refl _) rfl).is.src
      have HBig : Hid (((c.txs.xs.take k).map (staM S.ss)).length + [s2].length ≤ 1000000000) := by show _ ≤ _; rw [List.length_map, List.length_take]; simp; omega
      have HBl : Hid (W4.heap.size ≤ W7.heap.size) := Nat.le_trans HS4.out (Nat.le_trans hb6.size hb7.size)
      have HR6 := hide (HR.out.same (hb6.block _ HR.out.lt) hb6.size)
      have HR7 := hide (HR6.out.same (hb7.block _ HR6.out.lt) hb7.size)
      have HB7 := hide (hb6.trans (hb7.mono hb6.size))
      have q0 : W6.cell? ⟨w5.heap.size, 0, none⟩ = some (.int .u64 s2.tx) := hq6 0 _ rfl
      have q1 : W6.cell? ⟨w5.heap.size, 1, none⟩ = some (.int .i64 s2.st) := hq6 1 _ rfl
      have q2 : W6.cell? ⟨w5.heap.size, 2, none⟩ = some (.int .u64 s2.ts) := hq6 2 _ rfl
      have r4 : W6.cell? ⟨W3.heap.size, 4, none⟩ = some (.slice va vn vc) := HR6.out.r 4 _ rfl
      have HW7 := hide hW7
      clear hW6 hW7 hb6 hb7 hq6 hl6 e0
      go_upto_region 24 with (first
        | (at_builtin; (try rw [← HW7.out]); go_must (refine wp_joinY laySt _ rfl (.tmp 103) (.tmp 105) rfl W4.heap.size _ ((c.txs.xs.take k).map (staM S.ss)) rfl HO7.out (some ⟨W6.heap.size, 0, none⟩) 1 1 [s2] rfl HXs.out HBig.out HBl.out ?_); intro v8 w8 hown8 hg8 hat8; obtain ⟨xa, xn, xc, rfl⟩ := hown8.any3; have HO8 := hide hown8; have HG8 := hide (HO7.out.grown hg8 HBl.out); have hr8 := HR7.out.same (HG8.out.block W3.heap.size (by have := HL4.out; omega)) HG8.out.size; have HR8 := hide hr8; have u4 : w8.cell? ⟨W3.heap.size, 4, none⟩ = some (.slice va vn vc) := hr8.r 4 _ rfl; have uf := hr8.fz 4; clear hown8 hg8 hat8 hr8))
      obtain ⟨W9, hW9⟩ : ∃ W9, W9 = w8.setCell ⟨W3.heap.size, 4, none⟩ (.slice xa xn xc) := ⟨_, rfl⟩
      rw [← hW9]
      have HK9 : Hid (Keeps (fun j => j = W3.heap.size) w8 W9) := by rw [hW9]; exact keepsY_cell _
      have HR9 : Hid (StB W9 W3.heap.size (.slice xa xn xc)) := by rw [hW9]; exact HR8.out.set _
      have HO9 : Hid (OwnY laySt W9 W4.heap.size (.slice xa xn xc) ((c.txs.xs.take k).map (staM S.ss) ++ [s2])) := HO8.out.lies (fun g hg => HK9.out.block g (HO8.out.lt g hg).2 (fun e => by have := (HO8.out.lt g hg).1; have := HL4.out; omega))
      have HB9 : Hid (Below W3.heap.size W3 W9) := by
        have h1 := HB.out.trans (HB7.out.mono HB.out.size)
        have h2 := h1.trans (HG8.out.mono (by have := HL4.out; omega))
        exact h2.trans (HK9.out.below h2.size (fun k (e : k = W3.heap.size) => by omega))
      have HS9 : Hid (W4.heap.size ≤ W9.heap.size) := Nat.le_trans HBl.out (Nat.le_trans HG8.out.size HK9.out.size)
      clear hW9 u4 uf r4 q0 q1 q2
      go_wp2
      go_roundg (c.txs.n - (k + 1))
      case measure => omega
      case rel => exact ⟨k + 1, xa, xn, xc, rfl, by go_num, by omega, HR9.out, by rw [HTk.out]; exact HO9.out, HB9.out, HS9.out⟩
    · obtain rfl : k = c.txs.n := by omega
      have ek : c.txs.xs.take c.txs.n = c.txs.xs := List.take_of_length_le (by rw [HTx.out.1]; exact Nat.le_refl _)
      have HOe : Hid (OwnY laySt wr W4.heap.size (.slice va vn vc) (c.txs.xs.map (staM S.ss))) := by
        have h2 := HO.out
        rw [ek] at h2
        exact h2
      have b0 : wr.cell? ⟨W3.heap.size, 0, none⟩ = some (.int .i64 0) := HR.out.r 0 _ rfl
      have b1 : wr.cell? ⟨W3.heap.size, 1, none⟩ = some (.int .u64 0) := HR.out.r 1 _ rfl
      have b2 : wr.cell? ⟨W3.heap.size, 2, none⟩ = some (.int .u64 0) := HR.out.r 2 _ rfl
      have b3 : wr.cell? ⟨W3.heap.size, 3, none⟩ = some (.bool false) := HR.out.r 3 _ rfl
      have b4 : wr.cell? ⟨W3.heap.size, 4, none⟩ = some (.slice va vn vc) := HR.out.r 4 _ rfl
      have b5 : wr.cell? ⟨W3.heap.size, 5, none⟩ = some (.slice none 0 0) := HR.out.r 5 _ rfl
      have b6 : wr.cell? ⟨W3.heap.size, 6, none⟩ = some (.slice none 0 0) := HR.out.r 6 _ rfl
      have hB3r : Below W1.heap.size W1 wr := HB3.out.trans (HB.out.mono HB3.out.size)
      have HB3r := hide hB3r
      clear hB3r ek HO
      obtain ⟨-, z, zf⟩ := HX.out wr HB3r.out
      have z0 : wr.cell? ⟨w.heap.size + 1, 0, none⟩ = some (.int .i64 0) := z 0 _ rfl
      have z1 : wr.cell? ⟨w.heap.size + 1, 1, none⟩ = some (.int .u64 0) := z 1 _ rfl
      have z2 : wr.cell? ⟨w.heap.size + 1, 2, none⟩ = some (.int .u64 0) := z 2 _ rfl
      have z3 : wr.cell? ⟨w.heap.size + 1, 3, none⟩ = some (.bool false) := z 3 _ rfl
      have z4 : wr.cell? ⟨w.heap.size + 1, 4, none⟩ = some (.slice none 0 0) := z 4 _ rfl
      have z5 : wr.cell? ⟨w.heap.size + 1, 5, none⟩ = some (.slice none 0 0) := z 5 _ rfl
      have z6 : wr.cell? ⟨w.heap.size + 1, 6, none⟩ = some (.slice none 0 0) := z 6 _ rfl
      have g0 := zf 0
      have g1 := zf 1
      have g2 := zf 2
      have g3 := zf 3
      have g4 := zf 4
      have g5 := zf 5
      have g6 := zf 6
      clear z zf
      go_wp2
      change bodyPost _ _ _ _ _ (wr.setCells (w.heap.size + 1) 0 [.int .i64 0, .int .u64 0, .int .u64 0, .bool false, .slice va vn vc, .slice none 0 0, .slice none 0 0])
      have hr := box_set (V := wr) (b := w.heap.size + 1) (new := [.int .i64 0, .int .u64 0, .int .u64 0, .bool false, .slice va vn vc, .slice none 0 0, .slice none 0 0]) (HX.out wr HB3r.out).2.1 (Nat.le_refl _) (HX.out wr HB3r.out).2.2
      have r0 := hr 0 _ rfl
      have r1 := hr 1 _ rfl
      have r2 := hr 2 _ rfl
      have r3 := hr 3 _ rfl
      have r4 := hr 4 _ rfl
      have r5 := hr 5 _ rfl
      have r6 := hr 6 _ rfl
      have hbe := box_below (l := [.int .i64 0, .int .u64 0, .int .u64 0, .bool false, .slice va vn vc, .slice none 0 0, .slice none 0 0]) HBr.out (show w.heap.size ≤ w.heap.size + 1 by omega)
      clear hr
      have hke : Keeps (fun k => k = w.heap.size + 1) wr (wr.setCells (w.heap.size + 1) 0 [.int .i64 0, .int .u64 0, .int .u64 0, .bool false, .slice va vn vc, .slice none 0 0, .slice none 0 0]) := keepsYs _ _ _ _
      generalize wr.setCells (w.heap.size + 1) 0 [.int .i64 0, .int .u64 0, .int .u64 0, .bool false, .slice va vn vc, .slice none 0 0, .slice none 0 0] = W at *
      refine bodyPost_ret (v := .agg #[.int .i64 0, .int .u64 0, .int .u64 0, .bool false, .slice va vn vc, .slice none 0 0, .slice none 0 0]) (by simp [results, Tryz.results30, go_sem, r0, r1, r2, r3, r4, r5, r6]) rfl ?_
      rw [HE.out]
      have hfo := foot_ownY (X := fun k => (a.X k ∨ F k) ∨ k = w.heap.size + 1) HOe.out (fun k hk => by
        have h1 := HB4.out.size
        rcases hk with (hk | hk) | hk
        · have := (HI.out.xl k hk).2; omega
        · have := (HI.out.fx k hk).2; omega
        · have := HWs.out; have := HL4.out; omega)
      skip
      exact xs_same2 HI.out HBr.out hke hbe ⟨0, 0, 0, false, ⟨va, vn, vc, c.txs.xs.map (staM S.ss)⟩, ⟨none, 0, 0, []⟩, ⟨none, 0, 0, []⟩⟩ rfl (hfo.imp (fun V hV => ⟨hV, isY_nil V, isY_nil V, by simp, by simp⟩)) (Nat.le_succ _) (by omega)

end Go.Proofs.YtcgiicmmfleinaaGreatDoor
