/- The program's machine: done: what a command comes to. Printed by part/gen_meg.py. The program's machine: done: Free, the catalog; all kinds. Printed by part/gen_meh.py. -/
import Derived.Test.YtcgiicmmfleinaaGreatDoorMfE
namespace Go.Proofs.YtcgiicmmfleinaaGreatDoor
open Go.RowKit NumMath Go.ChangeShapes Go.WideShapes Go.Deep
set_option linter.unusedVariables false
set_option maxRecDepth 100000

variable {F : Nat → Prop} {base : Nat} {a : Mm} {z : Nat} {S : Mac}

/-- a result that is handed on lies in the caller's box -/
theorem rs_pass {w W1 w2 : World} {a' : Mm} {x : Res × Mac} {mr : MRes} (hb : Below w.heap.size w W1) (hs : W1.heap.size = w.heap.size + 2) (hr : mr.r = x.1) (hf : Foot (fun k => a'.X k ∨ ((F k ∨ k = w.heap.size) ∨ k = w.heap.size + 1)) w2 (fun V => mr.ok V)) (hI : IsMm (fun k => (F k ∨ k = w.heap.size) ∨ k = w.heap.size + 1) base w2 a' z x.2) (st : MStep W1 w2 a a') :
    RsPost F base w a z x (.returned mr.v) (ResAt w2 (w.heap.size + 1) mr) :=
  rs_close2 (fun k hk => .inl (.inl hk)) (fun k hk => by
    rcases hk with (hk | hk) | hk
    · exact .inl hk
    · exact .inr (by omega)
    · exact .inr (by omega)) (Nat.le_succ _) (.inr rfl) hI st.p (kpThen (Below.keeps hb _) (fun k hk => .inl hk) st.kp) (fun k hk => by
      rcases st.st k hk with h1 | h1
      · exact .inl h1
      · exact .inr (by omega)) hr hf

/-- a result of tables -/
def mresC (a : Option Addr) (n c : Nat) (ts : List MTb) : MRes := ⟨0, 0, 0, false, none, 0, 0, [], a, n, c, ts⟩

set_option maxHeartbeats 4000000 in
theorem pdone1 {w : World} (h : IsMm F base w a z S) (c : MCmd) (hc : Foot (fun k => a.X k ∨ F k) w (fun V => c.ok V)) (hf : c.c.Few) (hz : z ≤ 159) (hkd : c.kd = 1) (X : Res × Mac) (hX : ((⟨0, (S.ss.length : Int) + 1, S.ck, false, [], []⟩, { S with ss := S.ss ++ [sta0 ((S.ss.length : Int) + 1)] })) = X) :
    Calls Tryz.prog 28 #[.pointer (some ⟨a.p, 0, none⟩), .agg #[.int .u64 c.cl, .int .u64 c.sq, .int .i64 c.kd, .int .u64 c.tx, .int .u64 c.ts, .bool c.fl, .int .u64 c.lk.l.tx, .int .i64 c.lk.l.lv, .int .i64 c.lk.l.md, .slice c.lk.la c.lk.ln c.lk.lc, .slice c.lk.ha c.lk.hn c.lk.hc, .slice c.lo.a c.lo.n c.lo.c, .slice c.hi.a c.hi.n c.hi.c, .slice c.txs.a c.txs.n c.txs.c, .slice c.ws.a c.ws.n c.ws.c, .slice c.ks.a c.ks.n c.ks.c, .int .i64 c.tb.id, .string (strB c.tb.nm), .slice c.tb.cs.a c.tb.cs.n c.tb.cs.c, .int .i64 c.tb.ky, .slice c.tb.ix.a c.tb.ix.n c.tb.ix.c]] w (RsPost F base w a (z + 1) X) := by
  obtain ⟨W0, hW0⟩ : ∃ W0, W0 = w.alloc (.cells #[.int .u64 c.cl, .int .u64 c.sq, .int .i64 c.kd, .int .u64 c.tx, .int .u64 c.ts, .bool c.fl, .int .u64 c.lk.l.tx, .int .i64 c.lk.l.lv, .int .i64 c.lk.l.md, .slice c.lk.la c.lk.ln c.lk.lc, .slice c.lk.ha c.lk.hn c.lk.hc, .slice c.lo.a c.lo.n c.lo.c, .slice c.hi.a c.hi.n c.hi.c, .slice c.txs.a c.txs.n c.txs.c, .slice c.ws.a c.ws.n c.ws.c, .slice c.ks.a c.ks.n c.ks.c, .int .i64 c.tb.id, .string (strB c.tb.nm), .slice c.tb.cs.a c.tb.cs.n c.tb.cs.c, .int .i64 c.tb.ky, .slice c.tb.ix.a c.tb.ix.n c.tb.ix.c] 50) := ⟨_, rfl⟩
  obtain ⟨W1, hW1⟩ : ∃ W1, W1 = W0.alloc (.cells #[.int .i64 0, .int .u64 0, .int .u64 0, .bool false, .slice none 0 0, .slice none 0 0, .slice none 0 0] 55) := ⟨_, rfl⟩
  have hb0 : Below w.heap.size w W0 := by rw [hW0]; exact new_below _ _
  have hb01 : Below W0.heap.size W0 W1 := by rw [hW1]; exact new_below _ _
  have hs0 : W0.heap.size = w.heap.size + 1 := by rw [hW0]; simp
  have hs1 : W1.heap.size = w.heap.size + 2 := by rw [hW1, World.size_alloc, hs0]
  have hX0 : ∀ V, Below W0.heap.size W0 V → Box21 V w.heap.size c := by subst hW0; exact box21_new w c _
  have HX1 := hide (hX0 W1 hb01)
  have HXa := hide hX0
  have hZ1 : Zero7 W1 W0.heap.size := by rw [hW1]; exact zero7_new W0 _
  rw [hs0] at hZ1
  have HZ1 := hide hZ1
  have HS1 := hide hs1
  have HS0 := hide hs0
  have HB01 := hide hb01
  have HB1 := hide (hb0.trans (hb01.mono hb0.size))
  have H0 := h.box hb0 (by omega)
  have H1 := H0.box hb01 (by omega)
  rw [hs0] at H1
  have H1h := hide H1
  have Hck : Hid (Foot (fun k => a.X k ∨ ((F k ∨ k = w.heap.size) ∨ k = w.heap.size + 1)) W1 (fun V => c.ok V)) := hc.step (Below.keeps HB1.out _) (fun k hk => by
    rcases hk with hk | (hk | hk) | hk
    · exact .inl (.inl hk)
    · exact .inl (.inr hk)
    · exact .inr (by omega)
    · exact .inr (by omega))
  have HFw := hide hf
  have hnp : ¬ a.p = w.heap.size := by have := h.lt; omega
  have H0x : Hid (∀ k, a.X k → k < w.heap.size) := fun k hk => (h.xl k hk).2
  obtain ⟨x0, x1, x2, x3, x4, x5, x6, x7, x8, x9, x10, x11, x12, x13, x14, x15, x16, x17, x18, x19, x20⟩ := HX1.out
  rw [hW0] at hW1
  clear hb0 hb01 hs0 hs1 hX0 hZ1 H0 H1 hc hf
  rw [hkd] at x2
  have hcon := pbegin_any H1h.out (by omega)
  rw [hX] at hcon
  have HCon := hide hcon
  clear h hkd hX hcon
  go_enter Tryz.func28, Tryz.ntmps28
  go_upto_region 1 with fail
  rw [← hW1]
  clear hW1 hW0
  go_wp2_with (first
    | (go_at_call 75; go_must (refine (HCon.out).mono ?_); rintro e w2 ⟨a', mr, rfl, hr, hf2, hI, hst⟩; unfold MRes.v; have hz2 := HZ1.out.same (hst.kp.block (w.heap.size + 1) (by have := HS1.out; omega) (fun hx => by have := H0x.out _ hx; omega)); have HZ2 := hide hz2; obtain ⟨z0, z1, z2, z3, z4, z5, z6, zf⟩ := hz2; have g0 := zf 0; have g1 := zf 1; have g2 := zf 2; have g3 := zf 3; have g4 := zf 4; have g5 := zf 5; have g6 := zf 6; have HR := hide hr; have HF := hide hf2; have HI := hide hI; have HSt := hide hst; clear zf hr hf2 hI hst))
  change bodyPost _ _ _ _ _ (ResAt w2 (w.heap.size + 1) mr)
  have hend := rs_pass HB1.out HS1.out HR.out HF.out HI.out HSt.out
  obtain ⟨r0, r1, r2, r3, r4, r5, r6⟩ := resAt_box HZ2.out mr
  generalize ResAt w2 (w.heap.size + 1) mr = W at *
  exact bodyPost_ret (v := mr.v) (by simp [results, Tryz.results28, go_sem, MRes.v, r0, r1, r2, r3, r4, r5, r6]) rfl hend

set_option maxHeartbeats 4000000 in
theorem pdone2 {w : World} (h : IsMm F base w a z S) (c : MCmd) (hc : Foot (fun k => a.X k ∨ F k) w (fun V => c.ok V)) (hf : c.c.Few) (hz : z ≤ 159) (hkd : c.kd = 2) (X : Res × Mac) (hX : (if hasM S.ss c.tx = true then ({ res0 with ss := [staM (decideM S c.tx c.fl).ss c.tx] }, decideM S c.tx c.fl) else (errR 150, S)) = X) :
    Calls Tryz.prog 28 #[.pointer (some ⟨a.p, 0, none⟩), .agg #[.int .u64 c.cl, .int .u64 c.sq, .int .i64 c.kd, .int .u64 c.tx, .int .u64 c.ts, .bool c.fl, .int .u64 c.lk.l.tx, .int .i64 c.lk.l.lv, .int .i64 c.lk.l.md, .slice c.lk.la c.lk.ln c.lk.lc, .slice c.lk.ha c.lk.hn c.lk.hc, .slice c.lo.a c.lo.n c.lo.c, .slice c.hi.a c.hi.n c.hi.c, .slice c.txs.a c.txs.n c.txs.c, .slice c.ws.a c.ws.n c.ws.c, .slice c.ks.a c.ks.n c.ks.c, .int .i64 c.tb.id, .string (strB c.tb.nm), .slice c.tb.cs.a c.tb.cs.n c.tb.cs.c, .int .i64 c.tb.ky, .slice c.tb.ix.a c.tb.ix.n c.tb.ix.c]] w (RsPost F base w a (z + 1) X) := by
  obtain ⟨W0, hW0⟩ : ∃ W0, W0 = w.alloc (.cells #[.int .u64 c.cl, .int .u64 c.sq, .int .i64 c.kd, .int .u64 c.tx, .int .u64 c.ts, .bool c.fl, .int .u64 c.lk.l.tx, .int .i64 c.lk.l.lv, .int .i64 c.lk.l.md, .slice c.lk.la c.lk.ln c.lk.lc, .slice c.lk.ha c.lk.hn c.lk.hc, .slice c.lo.a c.lo.n c.lo.c, .slice c.hi.a c.hi.n c.hi.c, .slice c.txs.a c.txs.n c.txs.c, .slice c.ws.a c.ws.n c.ws.c, .slice c.ks.a c.ks.n c.ks.c, .int .i64 c.tb.id, .string (strB c.tb.nm), .slice c.tb.cs.a c.tb.cs.n c.tb.cs.c, .int .i64 c.tb.ky, .slice c.tb.ix.a c.tb.ix.n c.tb.ix.c] 50) := ⟨_, rfl⟩
  obtain ⟨W1, hW1⟩ : ∃ W1, W1 = W0.alloc (.cells #[.int .i64 0, .int .u64 0, .int .u64 0, .bool false, .slice none 0 0, .slice none 0 0, .slice none 0 0] 55) := ⟨_, rfl⟩
  have hb0 : Below w.heap.size w W0 := by rw [hW0]; exact new_below _ _
  have hb01 : Below W0.heap.size W0 W1 := by rw [hW1]; exact new_below _ _
  have hs0 : W0.heap.size = w.heap.size + 1 := by rw [hW0]; simp
  have hs1 : W1.heap.size = w.heap.size + 2 := by rw [hW1, World.size_alloc, hs0]
  have hX0 : ∀ V, Below W0.heap.size W0 V → Box21 V w.heap.size c := by subst hW0; exact box21_new w c _
  have HX1 := hide (hX0 W1 hb01)
  have HXa := hide hX0
  have hZ1 : Zero7 W1 W0.heap.size := by rw [hW1]; exact zero7_new W0 _
  rw [hs0] at hZ1
  have HZ1 := hide hZ1
  have HS1 := hide hs1
  have HS0 := hide hs0
  have HB01 := hide hb01
  have HB1 := hide (hb0.trans (hb01.mono hb0.size))
  have H0 := h.box hb0 (by omega)
  have H1 := H0.box hb01 (by omega)
  rw [hs0] at H1
  have H1h := hide H1
  have Hck : Hid (Foot (fun k => a.X k ∨ ((F k ∨ k = w.heap.size) ∨ k = w.heap.size + 1)) W1 (fun V => c.ok V)) := hc.step (Below.keeps HB1.out _) (fun k hk => by
    rcases hk with hk | (hk | hk) | hk
    · exact .inl (.inl hk)
    · exact .inl (.inr hk)
    · exact .inr (by omega)
    · exact .inr (by omega))
  have HFw := hide hf
  have hnp : ¬ a.p = w.heap.size := by have := h.lt; omega
  have H0x : Hid (∀ k, a.X k → k < w.heap.size) := fun k hk => (h.xl k hk).2
  obtain ⟨x0, x1, x2, x3, x4, x5, x6, x7, x8, x9, x10, x11, x12, x13, x14, x15, x16, x17, x18, x19, x20⟩ := HX1.out
  rw [hW0] at hW1
  clear hb0 hb01 hs0 hs1 hX0 hZ1 H0 H1 hc hf
  rw [hkd] at x2
  have hcon := pdecide_any H1h.out c.tx HFw.out.tx c.fl (by omega)
  rw [hX] at hcon
  have HCon := hide hcon
  clear h hkd hX hcon
  go_enter Tryz.func28, Tryz.ntmps28
  go_upto_region 1 with fail
  rw [← hW1]
  clear hW1 hW0
  go_wp2_with (first
    | (go_at_call 76; go_must (refine (HCon.out).mono ?_); rintro e w2 ⟨a', mr, rfl, hr, hf2, hI, hst⟩; unfold MRes.v; have hz2 := HZ1.out.same (hst.kp.block (w.heap.size + 1) (by have := HS1.out; omega) (fun hx => by have := H0x.out _ hx; omega)); have HZ2 := hide hz2; obtain ⟨z0, z1, z2, z3, z4, z5, z6, zf⟩ := hz2; have g0 := zf 0; have g1 := zf 1; have g2 := zf 2; have g3 := zf 3; have g4 := zf 4; have g5 := zf 5; have g6 := zf 6; have HR := hide hr; have HF := hide hf2; have HI := hide hI; have HSt := hide hst; clear zf hr hf2 hI hst))
  change bodyPost _ _ _ _ _ (ResAt w2 (w.heap.size + 1) mr)
  have hend := rs_pass HB1.out HS1.out HR.out HF.out HI.out HSt.out
  obtain ⟨r0, r1, r2, r3, r4, r5, r6⟩ := resAt_box HZ2.out mr
  generalize ResAt w2 (w.heap.size + 1) mr = W at *
  exact bodyPost_ret (v := mr.v) (by simp [results, Tryz.results28, go_sem, MRes.v, r0, r1, r2, r3, r4, r5, r6]) rfl hend

set_option maxHeartbeats 4000000 in
theorem pdone3 {w : World} (h : IsMm F base w a z S) (c : MCmd) (hc : Foot (fun k => a.X k ∨ F k) w (fun V => c.ok V)) (hf : c.c.Few) (hz : z ≤ 159) (hkd : c.kd = 3) (X : Res × Mac) (hX : (({ res0 with ss := c.txs.xs.map (staM S.ss) }, S)) = X) :
    Calls Tryz.prog 28 #[.pointer (some ⟨a.p, 0, none⟩), .agg #[.int .u64 c.cl, .int .u64 c.sq, .int .i64 c.kd, .int .u64 c.tx, .int .u64 c.ts, .bool c.fl, .int .u64 c.lk.l.tx, .int .i64 c.lk.l.lv, .int .i64 c.lk.l.md, .slice c.lk.la c.lk.ln c.lk.lc, .slice c.lk.ha c.lk.hn c.lk.hc, .slice c.lo.a c.lo.n c.lo.c, .slice c.hi.a c.hi.n c.hi.c, .slice c.txs.a c.txs.n c.txs.c, .slice c.ws.a c.ws.n c.ws.c, .slice c.ks.a c.ks.n c.ks.c, .int .i64 c.tb.id, .string (strB c.tb.nm), .slice c.tb.cs.a c.tb.cs.n c.tb.cs.c, .int .i64 c.tb.ky, .slice c.tb.ix.a c.tb.ix.n c.tb.ix.c]] w (RsPost F base w a (z + 1) X) := by
  obtain ⟨W0, hW0⟩ : ∃ W0, W0 = w.alloc (.cells #[.int .u64 c.cl, .int .u64 c.sq, .int .i64 c.kd, .int .u64 c.tx, .int .u64 c.ts, .bool c.fl, .int .u64 c.lk.l.tx, .int .i64 c.lk.l.lv, .int .i64 c.lk.l.md, .slice c.lk.la c.lk.ln c.lk.lc, .slice c.lk.ha c.lk.hn c.lk.hc, .slice c.lo.a c.lo.n c.lo.c, .slice c.hi.a c.hi.n c.hi.c, .slice c.txs.a c.txs.n c.txs.c, .slice c.ws.a c.ws.n c.ws.c, .slice c.ks.a c.ks.n c.ks.c, .int .i64 c.tb.id, .string (strB c.tb.nm), .slice c.tb.cs.a c.tb.cs.n c.tb.cs.c, .int .i64 c.tb.ky, .slice c.tb.ix.a c.tb.ix.n c.tb.ix.c] 50) := ⟨_, rfl⟩
  obtain ⟨W1, hW1⟩ : ∃ W1, W1 = W0.alloc (.cells #[.int .i64 0, .int .u64 0, .int .u64 0, .bool false, .slice none 0 0, .slice none 0 0, .slice none 0 0] 55) := ⟨_, rfl⟩
  have hb0 : Below w.heap.size w W0 := by rw [hW0]; exact new_below _ _
  have hb01 : Below W0.heap.size W0 W1 := by rw [hW1]; exact new_below _ _
  have hs0 : W0.heap.size = w.heap.size + 1 := by rw [hW0]; simp
  have hs1 : W1.heap.size = w.heap.size + 2 := by rw [hW1, World.size_alloc, hs0]
  have hX0 : ∀ V, Below W0.heap.size W0 V → Box21 V w.heap.size c := by subst hW0; exact box21_new w c _
  have HX1 := hide (hX0 W1 hb01)
  have HXa := hide hX0
  have hZ1 : Zero7 W1 W0.heap.size := by rw [hW1]; exact zero7_new W0 _
  rw [hs0] at hZ1
  have HZ1 := hide hZ1
  have HS1 := hide hs1
  have HS0 := hide hs0
  have HB01 := hide hb01
  have HB1 := hide (hb0.trans (hb01.mono hb0.size))
  have H0 := h.box hb0 (by omega)
  have H1 := H0.box hb01 (by omega)
  rw [hs0] at H1
  have H1h := hide H1
  have Hck : Hid (Foot (fun k => a.X k ∨ ((F k ∨ k = w.heap.size) ∨ k = w.heap.size + 1)) W1 (fun V => c.ok V)) := hc.step (Below.keeps HB1.out _) (fun k hk => by
    rcases hk with hk | (hk | hk) | hk
    · exact .inl (.inl hk)
    · exact .inl (.inr hk)
    · exact .inr (by omega)
    · exact .inr (by omega))
  have HFw := hide hf
  have hnp : ¬ a.p = w.heap.size := by have := h.lt; omega
  have H0x : Hid (∀ k, a.X k → k < w.heap.size) := fun k hk => (h.xl k hk).2
  obtain ⟨x0, x1, x2, x3, x4, x5, x6, x7, x8, x9, x10, x11, x12, x13, x14, x15, x16, x17, x18, x19, x20⟩ := HX1.out
  rw [hW0] at hW1
  clear hb0 hb01 hs0 hs1 hX0 hZ1 H0 H1 hc hf
  rw [hkd] at x2
  have hcon := pstatus_any (H1h.out.more (Nat.le_succ z)) c.txs.a c.txs.n c.txs.c c.txs.xs Hck.out.now.txs HFw.out.txu (by have h1 := Hck.out.now.txs.1; have h2 : c.txs.xs.length ≤ 1000 := HFw.out.txs; omega)
  rw [hX] at hcon
  have HCon := hide hcon
  clear h hkd hX hcon
  go_enter Tryz.func28, Tryz.ntmps28
  go_upto_region 1 with fail
  rw [← hW1]
  clear hW1 hW0
  go_wp2_with (first
    | (go_at_call 77; go_must (refine (HCon.out).mono ?_); rintro e w2 ⟨a', mr, rfl, hr, hf2, hI, hst⟩; unfold MRes.v; have hz2 := HZ1.out.same (hst.kp.block (w.heap.size + 1) (by have := HS1.out; omega) (fun hx => by have := H0x.out _ hx; omega)); have HZ2 := hide hz2; obtain ⟨z0, z1, z2, z3, z4, z5, z6, zf⟩ := hz2; have g0 := zf 0; have g1 := zf 1; have g2 := zf 2; have g3 := zf 3; have g4 := zf 4; have g5 := zf 5; have g6 := zf 6; have HR := hide hr; have HF := hide hf2; have HI := hide hI; have HSt := hide hst; clear zf hr hf2 hI hst))
  change bodyPost _ _ _ _ _ (ResAt w2 (w.heap.size + 1) mr)
  have hend := rs_pass HB1.out HS1.out HR.out HF.out HI.out HSt.out
  obtain ⟨r0, r1, r2, r3, r4, r5, r6⟩ := resAt_box HZ2.out mr
  generalize ResAt w2 (w.heap.size + 1) mr = W at *
  exact bodyPost_ret (v := mr.v) (by simp [results, Tryz.results28, go_sem, MRes.v, r0, r1, r2, r3, r4, r5, r6]) rfl hend

set_option maxHeartbeats 4000000 in
theorem pdone4 {w : World} (h : IsMm F base w a z S) (c : MCmd) (hc : Foot (fun k => a.X k ∨ F k) w (fun V => c.ok V)) (hf : c.c.Few) (hz : z ≤ 159) (hkd : c.kd = 4) (X : Res × Mac) (hX : (if openM S.ss c.tx = true then (⟨(askL S.tab { c.lk.l with tx := c.tx }).2.2, 0, 0, (askL S.tab { c.lk.l with tx := c.tx }).2.1, [], []⟩, { S with tab := (askL S.tab { c.lk.l with tx := c.tx }).1 }) else (errR 150, S)) = X) :
    Calls Tryz.prog 28 #[.pointer (some ⟨a.p, 0, none⟩), .agg #[.int .u64 c.cl, .int .u64 c.sq, .int .i64 c.kd, .int .u64 c.tx, .int .u64 c.ts, .bool c.fl, .int .u64 c.lk.l.tx, .int .i64 c.lk.l.lv, .int .i64 c.lk.l.md, .slice c.lk.la c.lk.ln c.lk.lc, .slice c.lk.ha c.lk.hn c.lk.hc, .slice c.lo.a c.lo.n c.lo.c, .slice c.hi.a c.hi.n c.hi.c, .slice c.txs.a c.txs.n c.txs.c, .slice c.ws.a c.ws.n c.ws.c, .slice c.ks.a c.ks.n c.ks.c, .int .i64 c.tb.id, .string (strB c.tb.nm), .slice c.tb.cs.a c.tb.cs.n c.tb.cs.c, .int .i64 c.tb.ky, .slice c.tb.ix.a c.tb.ix.n c.tb.ix.c]] w (RsPost F base w a (z + 1) X) := by
  obtain ⟨W0, hW0⟩ : ∃ W0, W0 = w.alloc (.cells #[.int .u64 c.cl, .int .u64 c.sq, .int .i64 c.kd, .int .u64 c.tx, .int .u64 c.ts, .bool c.fl, .int .u64 c.lk.l.tx, .int .i64 c.lk.l.lv, .int .i64 c.lk.l.md, .slice c.lk.la c.lk.ln c.lk.lc, .slice c.lk.ha c.lk.hn c.lk.hc, .slice c.lo.a c.lo.n c.lo.c, .slice c.hi.a c.hi.n c.hi.c, .slice c.txs.a c.txs.n c.txs.c, .slice c.ws.a c.ws.n c.ws.c, .slice c.ks.a c.ks.n c.ks.c, .int .i64 c.tb.id, .string (strB c.tb.nm), .slice c.tb.cs.a c.tb.cs.n c.tb.cs.c, .int .i64 c.tb.ky, .slice c.tb.ix.a c.tb.ix.n c.tb.ix.c] 50) := ⟨_, rfl⟩
  obtain ⟨W1, hW1⟩ : ∃ W1, W1 = W0.alloc (.cells #[.int .i64 0, .int .u64 0, .int .u64 0, .bool false, .slice none 0 0, .slice none 0 0, .slice none 0 0] 55) := ⟨_, rfl⟩
  have hb0 : Below w.heap.size w W0 := by rw [hW0]; exact new_below _ _
  have hb01 : Below W0.heap.size W0 W1 := by rw [hW1]; exact new_below _ _
  have hs0 : W0.heap.size = w.heap.size + 1 := by rw [hW0]; simp
  have hs1 : W1.heap.size = w.heap.size + 2 := by rw [hW1, World.size_alloc, hs0]
  have hX0 : ∀ V, Below W0.heap.size W0 V → Box21 V w.heap.size c := by subst hW0; exact box21_new w c _
  have HX1 := hide (hX0 W1 hb01)
  have HXa := hide hX0
  have hZ1 : Zero7 W1 W0.heap.size := by rw [hW1]; exact zero7_new W0 _
  rw [hs0] at hZ1
  have HZ1 := hide hZ1
  have HS1 := hide hs1
  have HS0 := hide hs0
  have HB01 := hide hb01
  have HB1 := hide (hb0.trans (hb01.mono hb0.size))
  have H0 := h.box hb0 (by omega)
  have H1 := H0.box hb01 (by omega)
  rw [hs0] at H1
  have H1h := hide H1
  have Hck : Hid (Foot (fun k => a.X k ∨ ((F k ∨ k = w.heap.size) ∨ k = w.heap.size + 1)) W1 (fun V => c.ok V)) := hc.step (Below.keeps HB1.out _) (fun k hk => by
    rcases hk with hk | (hk | hk) | hk
    · exact .inl (.inl hk)
    · exact .inl (.inr hk)
    · exact .inr (by omega)
    · exact .inr (by omega))
  have HFw := hide hf
  have hnp : ¬ a.p = w.heap.size := by have := h.lt; omega
  have H0x : Hid (∀ k, a.X k → k < w.heap.size) := fun k hk => (h.xl k hk).2
  obtain ⟨x0, x1, x2, x3, x4, x5, x6, x7, x8, x9, x10, x11, x12, x13, x14, x15, x16, x17, x18, x19, x20⟩ := HX1.out
  rw [hW0] at hW1
  clear hb0 hb01 hs0 hs1 hX0 hZ1 H0 H1 hc hf
  rw [hkd] at x2
  have hcon := plock_any H1h.out c.tx HFw.out.tx c.lk (Hck.out.imp (fun V hV => hV.lk)) (by have h1 := Hck.out.now.lk.lo.1; have h2 : c.lk.l.lo.length ≤ 200 := HFw.out.lo; omega) (by have h1 := Hck.out.now.lk.hi.1; have h2 : c.lk.l.hi.length ≤ 200 := HFw.out.hi; omega) (by omega)
  rw [hX] at hcon
  have HCon := hide hcon
  clear h hkd hX hcon
  go_enter Tryz.func28, Tryz.ntmps28
  go_upto_region 1 with fail
  rw [← hW1]
  clear hW1 hW0
  go_wp2_with (first
    | (go_at_call 78; go_must (refine (HCon.out).mono ?_); rintro e w2 ⟨a', mr, rfl, hr, hf2, hI, hst⟩; unfold MRes.v; have hz2 := HZ1.out.same (hst.kp.block (w.heap.size + 1) (by have := HS1.out; omega) (fun hx => by have := H0x.out _ hx; omega)); have HZ2 := hide hz2; obtain ⟨z0, z1, z2, z3, z4, z5, z6, zf⟩ := hz2; have g0 := zf 0; have g1 := zf 1; have g2 := zf 2; have g3 := zf 3; have g4 := zf 4; have g5 := zf 5; have g6 := zf 6; have HR := hide hr; have HF := hide hf2; have HI := hide hI; have HSt := hide hst; clear zf hr hf2 hI hst))
  change bodyPost _ _ _ _ _ (ResAt w2 (w.heap.size + 1) mr)
  have hend := rs_pass HB1.out HS1.out HR.out HF.out HI.out HSt.out
  obtain ⟨r0, r1, r2, r3, r4, r5, r6⟩ := resAt_box HZ2.out mr
  generalize ResAt w2 (w.heap.size + 1) mr = W at *
  exact bodyPost_ret (v := mr.v) (by simp [results, Tryz.results28, go_sem, MRes.v, r0, r1, r2, r3, r4, r5, r6]) rfl hend

set_option maxHeartbeats 4000000 in
theorem pdone6 {w : World} (h : IsMm F base w a z S) (c : MCmd) (hc : Foot (fun k => a.X k ∨ F k) w (fun V => c.ok V)) (hf : c.c.Few) (hz : z ≤ 159) (hkd : c.kd = 6) (X : Res × Mac) (hX : (tableM S c.tb.t) = X) :
    Calls Tryz.prog 28 #[.pointer (some ⟨a.p, 0, none⟩), .agg #[.int .u64 c.cl, .int .u64 c.sq, .int .i64 c.kd, .int .u64 c.tx, .int .u64 c.ts, .bool c.fl, .int .u64 c.lk.l.tx, .int .i64 c.lk.l.lv, .int .i64 c.lk.l.md, .slice c.lk.la c.lk.ln c.lk.lc, .slice c.lk.ha c.lk.hn c.lk.hc, .slice c.lo.a c.lo.n c.lo.c, .slice c.hi.a c.hi.n c.hi.c, .slice c.txs.a c.txs.n c.txs.c, .slice c.ws.a c.ws.n c.ws.c, .slice c.ks.a c.ks.n c.ks.c, .int .i64 c.tb.id, .string (strB c.tb.nm), .slice c.tb.cs.a c.tb.cs.n c.tb.cs.c, .int .i64 c.tb.ky, .slice c.tb.ix.a c.tb.ix.n c.tb.ix.c]] w (RsPost F base w a (z + 1) X) := by
  obtain ⟨W0, hW0⟩ : ∃ W0, W0 = w.alloc (.cells #[.int .u64 c.cl, .int .u64 c.sq, .int .i64 c.kd, .int .u64 c.tx, .int .u64 c.ts, .bool c.fl, .int .u64 c.lk.l.tx, .int .i64 c.lk.l.lv, .int .i64 c.lk.l.md, .slice c.lk.la c.lk.ln c.lk.lc, .slice c.lk.ha c.lk.hn c.lk.hc, .slice c.lo.a c.lo.n c.lo.c, .slice c.hi.a c.hi.n c.hi.c, .slice c.txs.a c.txs.n c.txs.c, .slice c.ws.a c.ws.n c.ws.c, .slice c.ks.a c.ks.n c.ks.c, .int .i64 c.tb.id, .string (strB c.tb.nm), .slice c.tb.cs.a c.tb.cs.n c.tb.cs.c, .int .i64 c.tb.ky, .slice c.tb.ix.a c.tb.ix.n c.tb.ix.c] 50) := ⟨_, rfl⟩
  obtain ⟨W1, hW1⟩ : ∃ W1, W1 = W0.alloc (.cells #[.int .i64 0, .int .u64 0, .int .u64 0, .bool false, .slice none 0 0, .slice none 0 0, .slice none 0 0] 55) := ⟨_, rfl⟩
  have hb0 : Below w.heap.size w W0 := by rw [hW0]; exact new_below _ _
  have hb01 : Below W0.heap.size W0 W1 := by rw [hW1]; exact new_below _ _
  have hs0 : W0.heap.size = w.heap.size + 1 := by rw [hW0]; simp
  have hs1 : W1.heap.size = w.heap.size + 2 := by rw [hW1, World.size_alloc, hs0]
  have hX0 : ∀ V, Below W0.heap.size W0 V → Box21 V w.heap.size c := by subst hW0; exact box21_new w c _
  have HX1 := hide (hX0 W1 hb01)
  have HXa := hide hX0
  have hZ1 : Zero7 W1 W0.heap.size := by rw [hW1]; exact zero7_new W0 _
  rw [hs0] at hZ1
  have HZ1 := hide hZ1
  have HS1 := hide hs1
  have HS0 := hide hs0
  have HB01 := hide hb01
  have HB1 := hide (hb0.trans (hb01.mono hb0.size))
  have H0 := h.box hb0 (by omega)
  have H1 := H0.box hb01 (by omega)
  rw [hs0] at H1
  have H1h := hide H1
  have Hck : Hid (Foot (fun k => a.X k ∨ ((F k ∨ k = w.heap.size) ∨ k = w.heap.size + 1)) W1 (fun V => c.ok V)) := hc.step (Below.keeps HB1.out _) (fun k hk => by
    rcases hk with hk | (hk | hk) | hk
    · exact .inl (.inl hk)
    · exact .inl (.inr hk)
    · exact .inr (by omega)
    · exact .inr (by omega))
  have HFw := hide hf
  have hnp : ¬ a.p = w.heap.size := by have := h.lt; omega
  have H0x : Hid (∀ k, a.X k → k < w.heap.size) := fun k hk => (h.xl k hk).2
  obtain ⟨x0, x1, x2, x3, x4, x5, x6, x7, x8, x9, x10, x11, x12, x13, x14, x15, x16, x17, x18, x19, x20⟩ := HX1.out
  rw [hW0] at hW1
  clear hb0 hb01 hs0 hs1 hX0 hZ1 H0 H1 hc hf
  rw [hkd] at x2
  have hcon := ptable_any H1h.out c.tb (Hck.out.imp (fun V hV => hV.tb)) ⟨by have h1 := Hck.out.now.tb.cs.1; have h2 : c.tb.cs.xs.length ≤ 20 := HFw.out.cs; omega, by have h1 := Hck.out.now.tb.ix.1; have h2 : c.tb.ix.xs.length ≤ 20 := HFw.out.ix; omega⟩ (by omega)
  rw [hX] at hcon
  have HCon := hide hcon
  clear h hkd hX hcon
  go_enter Tryz.func28, Tryz.ntmps28
  go_upto_region 1 with fail
  rw [← hW1]
  clear hW1 hW0
  go_wp2_with (first
    | (go_at_call 80; go_must (refine (HCon.out).mono ?_); rintro e w2 ⟨a', mr, rfl, hr, hf2, hI, hst⟩; unfold MRes.v; have hz2 := HZ1.out.same (hst.kp.block (w.heap.size + 1) (by have := HS1.out; omega) (fun hx => by have := H0x.out _ hx; omega)); have HZ2 := hide hz2; obtain ⟨z0, z1, z2, z3, z4, z5, z6, zf⟩ := hz2; have g0 := zf 0; have g1 := zf 1; have g2 := zf 2; have g3 := zf 3; have g4 := zf 4; have g5 := zf 5; have g6 := zf 6; have HR := hide hr; have HF := hide hf2; have HI := hide hI; have HSt := hide hst; clear zf hr hf2 hI hst))
  change bodyPost _ _ _ _ _ (ResAt w2 (w.heap.size + 1) mr)
  have hend := rs_pass HB1.out HS1.out HR.out HF.out HI.out HSt.out
  obtain ⟨r0, r1, r2, r3, r4, r5, r6⟩ := resAt_box HZ2.out mr
  generalize ResAt w2 (w.heap.size + 1) mr = W at *
  exact bodyPost_ret (v := mr.v) (by simp [results, Tryz.results28, go_sem, MRes.v, r0, r1, r2, r3, r4, r5, r6]) rfl hend

set_option maxHeartbeats 4000000 in
theorem pdone8 {w : World} (h : IsMm F base w a z S) (c : MCmd) (hc : Foot (fun k => a.X k ∨ F k) w (fun V => c.ok V)) (hf : c.c.Few) (hz : z ≤ 159) (hkd : c.kd ≠ 1 ∧ c.kd ≠ 2 ∧ c.kd ≠ 3 ∧ c.kd ≠ 4 ∧ c.kd ≠ 5 ∧ c.kd ≠ 6 ∧ c.kd ≠ 7) (X : Res × Mac) (hX : (errR 1, S) = X) :
    Calls Tryz.prog 28 #[.pointer (some ⟨a.p, 0, none⟩), .agg #[.int .u64 c.cl, .int .u64 c.sq, .int .i64 c.kd, .int .u64 c.tx, .int .u64 c.ts, .bool c.fl, .int .u64 c.lk.l.tx, .int .i64 c.lk.l.lv, .int .i64 c.lk.l.md, .slice c.lk.la c.lk.ln c.lk.lc, .slice c.lk.ha c.lk.hn c.lk.hc, .slice c.lo.a c.lo.n c.lo.c, .slice c.hi.a c.hi.n c.hi.c, .slice c.txs.a c.txs.n c.txs.c, .slice c.ws.a c.ws.n c.ws.c, .slice c.ks.a c.ks.n c.ks.c, .int .i64 c.tb.id, .string (strB c.tb.nm), .slice c.tb.cs.a c.tb.cs.n c.tb.cs.c, .int .i64 c.tb.ky, .slice c.tb.ix.a c.tb.ix.n c.tb.ix.c]] w (RsPost F base w a (z + 1) X) := by
  obtain ⟨W0, hW0⟩ : ∃ W0, W0 = w.alloc (.cells #[.int .u64 c.cl, .int .u64 c.sq, .int .i64 c.kd, .int .u64 c.tx, .int .u64 c.ts, .bool c.fl, .int .u64 c.lk.l.tx, .int .i64 c.lk.l.lv, .int .i64 c.lk.l.md, .slice c.lk.la c.lk.ln c.lk.lc, .slice c.lk.ha c.lk.hn c.lk.hc, .slice c.lo.a c.lo.n c.lo.c, .slice c.hi.a c.hi.n c.hi.c, .slice c.txs.a c.txs.n c.txs.c, .slice c.ws.a c.ws.n c.ws.c, .slice c.ks.a c.ks.n c.ks.c, .int .i64 c.tb.id, .string (strB c.tb.nm), .slice c.tb.cs.a c.tb.cs.n c.tb.cs.c, .int .i64 c.tb.ky, .slice c.tb.ix.a c.tb.ix.n c.tb.ix.c] 50) := ⟨_, rfl⟩
  obtain ⟨W1, hW1⟩ : ∃ W1, W1 = W0.alloc (.cells #[.int .i64 0, .int .u64 0, .int .u64 0, .bool false, .slice none 0 0, .slice none 0 0, .slice none 0 0] 55) := ⟨_, rfl⟩
  have hb0 : Below w.heap.size w W0 := by rw [hW0]; exact new_below _ _
  have hb01 : Below W0.heap.size W0 W1 := by rw [hW1]; exact new_below _ _
  have hs0 : W0.heap.size = w.heap.size + 1 := by rw [hW0]; simp
  have hs1 : W1.heap.size = w.heap.size + 2 := by rw [hW1, World.size_alloc, hs0]
  have hX0 : ∀ V, Below W0.heap.size W0 V → Box21 V w.heap.size c := by subst hW0; exact box21_new w c _
  have HX1 := hide (hX0 W1 hb01)
  have HXa := hide hX0
  have hZ1 : Zero7 W1 W0.heap.size := by rw [hW1]; exact zero7_new W0 _
  rw [hs0] at hZ1
  have HZ1 := hide hZ1
  have HS1 := hide hs1
  have HS0 := hide hs0
  have HB01 := hide hb01
  have HB1 := hide (hb0.trans (hb01.mono hb0.size))
  have H0 := h.box hb0 (by omega)
  have H1 := H0.box hb01 (by omega)
  rw [hs0] at H1
  have H1h := hide H1
  have Hck : Hid (Foot (fun k => a.X k ∨ ((F k ∨ k = w.heap.size) ∨ k = w.heap.size + 1)) W1 (fun V => c.ok V)) := hc.step (Below.keeps HB1.out _) (fun k hk => by
    rcases hk with hk | (hk | hk) | hk
    · exact .inl (.inl hk)
    · exact .inl (.inr hk)
    · exact .inr (by omega)
    · exact .inr (by omega))
  have HFw := hide hf
  have hnp : ¬ a.p = w.heap.size := by have := h.lt; omega
  have H0x : Hid (∀ k, a.X k → k < w.heap.size) := fun k hk => (h.xl k hk).2
  obtain ⟨x0, x1, x2, x3, x4, x5, x6, x7, x8, x9, x10, x11, x12, x13, x14, x15, x16, x17, x18, x19, x20⟩ := HX1.out
  rw [hW0] at hW1
  clear hb0 hb01 hs0 hs1 hX0 hZ1 H0 H1 hc hf
  subst hX
  obtain ⟨k1, k2, k3, k4, k5, k6, k7⟩ := hkd
  have HE := hide (fun w' (hb : Below w.heap.size w w') => rs_plain (r := errR 1) (er := 1) (tx := 0) (ts := 0) (fl := false) (h.more (Nat.le_succ z)) hb rfl)
  obtain ⟨z0, z1, z2, z3, z4, z5, z6, zf⟩ := HZ1.out
  have g0 := zf 0
  have g1 := zf 1
  have g2 := zf 2
  have g3 := zf 3
  have g4 := zf 4
  have g5 := zf 5
  have g6 := zf 6
  clear h zf
  go_enter Tryz.func28, Tryz.ntmps28
  go_upto_region 1 with fail
  rw [← hW1]
  clear hW1 hW0
  go_wp2
  change bodyPost _ _ _ _ _ (ResAt W1 (w.heap.size + 1) (mresN 1 0 0 false))
  have hk : Keeps (fun k => k = w.heap.size + 1) W1 (ResAt W1 (w.heap.size + 1) (mresN 1 0 0 false)) := keepsYs _ _ _ _
  have hend := HE.out (ResAt W1 (w.heap.size + 1) (mresN 1 0 0 false)) (kp_below (kpThen (Below.keeps HB1.out _) (fun k (e : k = w.heap.size + 1) => .inl (by omega)) hk))
  obtain ⟨r0, r1, r2, r3, r4, r5, r6⟩ := resAt_box HZ1.out (mresN 1 0 0 false)
  generalize ResAt W1 (w.heap.size + 1) (mresN 1 0 0 false) = W at *
  exact bodyPost_ret (v := (mresN 1 0 0 false).v) (by simp [results, Tryz.results28, go_sem, MRes.v, r0, r1, r2, r3, r4, r5, r6]) rfl hend

end Go.Proofs.YtcgiicmmfleinaaGreatDoor

namespace Go.Proofs.YtcgiicmmfleinaaGreatDoor
open Go.RowKit NumMath Go.ChangeShapes Go.WideShapes Go.Deep
set_option linter.unusedVariables false
set_option maxRecDepth 100000

variable {F : Nat → Prop} {base : Nat} {a : Mm} {z : Nat} {S : Mac}

theorem leave_filterM {L : List Lck} {tx : Int} (hok : ∀ w ∈ L, w.tx ≠ 0) : leaveL L tx lck0 = L.filter (fun w => w.tx != tx) := by
  unfold leaveL
  apply List.filter_congr
  intro w hw
  have : ¬ w = lck0 := fun e => hok w hw (by rw [e]; rfl)
  simp [this]

set_option maxHeartbeats 4000000 in
theorem pdone5 {w : World} (h : IsMm F base w a z S) (c : MCmd) (hc : Foot (fun k => a.X k ∨ F k) w (fun V => c.ok V)) (hf : c.c.Few) (hz : z ≤ 159) (hkd : c.kd = 5) (X : Res × Mac) (hX : (res0, { S with tab := (freeL S.tab c.tx).1 }) = X) :
    Calls Tryz.prog 28 #[.pointer (some ⟨a.p, 0, none⟩), .agg #[.int .u64 c.cl, .int .u64 c.sq, .int .i64 c.kd, .int .u64 c.tx, .int .u64 c.ts, .bool c.fl, .int .u64 c.lk.l.tx, .int .i64 c.lk.l.lv, .int .i64 c.lk.l.md, .slice c.lk.la c.lk.ln c.lk.lc, .slice c.lk.ha c.lk.hn c.lk.hc, .slice c.lo.a c.lo.n c.lo.c, .slice c.hi.a c.hi.n c.hi.c, .slice c.txs.a c.txs.n c.txs.c, .slice c.ws.a c.ws.n c.ws.c, .slice c.ks.a c.ks.n c.ks.c, .int .i64 c.tb.id, .string (strB c.tb.nm), .slice c.tb.cs.a c.tb.cs.n c.tb.cs.c, .int .i64 c.tb.ky, .slice c.tb.ix.a c.tb.ix.n c.tb.ix.c]] w (RsPost F base w a (z + 1) X) := by
  obtain ⟨W0, hW0⟩ : ∃ W0, W0 = w.alloc (.cells #[.int .u64 c.cl, .int .u64 c.sq, .int .i64 c.kd, .int .u64 c.tx, .int .u64 c.ts, .bool c.fl, .int .u64 c.lk.l.tx, .int .i64 c.lk.l.lv, .int .i64 c.lk.l.md, .slice c.lk.la c.lk.ln c.lk.lc, .slice c.lk.ha c.lk.hn c.lk.hc, .slice c.lo.a c.lo.n c.lo.c, .slice c.hi.a c.hi.n c.hi.c, .slice c.txs.a c.txs.n c.txs.c, .slice c.ws.a c.ws.n c.ws.c, .slice c.ks.a c.ks.n c.ks.c, .int .i64 c.tb.id, .string (strB c.tb.nm), .slice c.tb.cs.a c.tb.cs.n c.tb.cs.c, .int .i64 c.tb.ky, .slice c.tb.ix.a c.tb.ix.n c.tb.ix.c] 50) := ⟨_, rfl⟩
  obtain ⟨W1, hW1⟩ : ∃ W1, W1 = W0.alloc (.cells #[.int .i64 0, .int .u64 0, .int .u64 0, .bool false, .slice none 0 0, .slice none 0 0, .slice none 0 0] 55) := ⟨_, rfl⟩
  have hb0 : Below w.heap.size w W0 := by rw [hW0]; exact new_below _ _
  have hb01 : Below W0.heap.size W0 W1 := by rw [hW1]; exact new_below _ _
  have hs0 : W0.heap.size = w.heap.size + 1 := by rw [hW0]; simp
  have hs1 : W1.heap.size = w.heap.size + 2 := by rw [hW1, World.size_alloc, hs0]
  have hX0 : ∀ V, Below W0.heap.size W0 V → Box21 V w.heap.size c := by subst hW0; exact box21_new w c _
  have HX1 := hide (hX0 W1 hb01)
  have HXa := hide hX0
  have hZ1 : Zero7 W1 W0.heap.size := by rw [hW1]; exact zero7_new W0 _
  rw [hs0] at hZ1
  have HZ1 := hide hZ1
  have HS1 := hide hs1
  have HS0 := hide hs0
  have HB01 := hide hb01
  have HB1 := hide (hb0.trans (hb01.mono hb0.size))
  have H0 := h.box hb0 (by omega)
  have H1 := H0.box hb01 (by omega)
  rw [hs0] at H1
  have H1h := hide H1
  have Hck : Hid (Foot (fun k => a.X k ∨ ((F k ∨ k = w.heap.size) ∨ k = w.heap.size + 1)) W1 (fun V => c.ok V)) := hc.step (Below.keeps HB1.out _) (fun k hk => by
    rcases hk with hk | (hk | hk) | hk
    · exact .inl (.inl hk)
    · exact .inl (.inr hk)
    · exact .inr (by omega)
    · exact .inr (by omega))
  have HFw := hide hf
  have hnp : ¬ a.p = w.heap.size := by have := h.lt; omega
  have H0x : Hid (∀ k, a.X k → k < w.heap.size) := fun k hk => (h.xl k hk).2
  obtain ⟨x0, x1, x2, x3, x4, x5, x6, x7, x8, x9, x10, x11, x12, x13, x14, x15, x16, x17, x18, x19, x20⟩ := HX1.out
  rw [hW0] at hW1
  clear hb0 hb01 hs0 hs1 hX0 hZ1 H0 H1 hc hf
  rw [hkd] at x2
  have hI1 := H1h.out
  have HC2 := hide hI1.c2
  have HX3 : Hid (W1.cell? ⟨w.heap.size, 3, none⟩ = some (.int .u64 c.tx)) := x3
  have HFr := hide (pfree_any (hI1.tb.keep (Below.refl _ W1).drew) c.tx)
  have HXg : Hid (∀ k, Xt a.q a.hv a.wv k → k ≠ w.heap.size ∧ k ≠ a.p ∧ k < w.heap.size) := fun k hk => ⟨fun e => by have := H0x.out k (.inr hk); omega, fun e => hI1.tb.gx k hk (.inl (.inl e)), H0x.out k (.inr hk)⟩
  have hf1 : (a.hs.filter (fun m => m.l.tx != c.tx)).map ML.l = (freeL S.tab c.tx).1.held := by
    rw [filterM, hI1.th]
    rfl
  have hf2 : (a.ws.filter (fun m => m.l.tx != c.tx)).map ML.l = (freeL S.tab c.tx).1.wait := by
    rw [filterM, hI1.tw]
    exact (leave_filterM (fun w hw => bad_tx (hI1.i.ti.ok w hw))).symm
  have HF1 := hide hf1
  have HF2 := hide hf2
  have HIa := hide ((hI1.i.freed c.tx).mono (Nat.le_succ z))
  have HHX := hide hX
  clear h hkd hI1 hf1 hf2 hX x3
  go_enter Tryz.func28, Tryz.ntmps28
  go_upto_region 1 with fail
  rw [← hW1]
  clear hW1 hW0
  go_upto_region 11 with fail
  refine startG (fun V => V.heap[w.heap.size]? = W1.heap[w.heap.size]? ∧ V.heap[a.p]? = W1.heap[a.p]?) (fun i => false) (by kernel_rfl) ?_
  refine' takeG (i := 0) (v := _) rfl (by kernel_rfl) (by kernel_rfl) (by kernel_rfl) (by kernel_rfl) (fun _ _ _ h => h) (by rfl) (⟨rfl, rfl⟩) ?_ ?_; rotate_left
  · (intro V hSV; have q2 := (World.cell?_of_block (a := ⟨a.p, 2, none⟩) hSV.2).trans HC2.out; have q3 := (World.cell?_of_block (a := ⟨w.heap.size, 3, none⟩) hSV.1).trans HX3.out; go_simp; all_goals (with_reducible rfl))
  (try simp only [Act.put, List.setIfInBounds_toArray, List.set_cons_zero, List.set_cons_succ])
  refine' takeG (i := 1) (v := _) rfl (by kernel_rfl) (by kernel_rfl) (by kernel_rfl) (by kernel_rfl) (fun _ _ _ h => h) (by rfl) (⟨rfl, rfl⟩) ?_ ?_; rotate_left
  · (intro V hSV; have q2 := (World.cell?_of_block (a := ⟨a.p, 2, none⟩) hSV.2).trans HC2.out; have q3 := (World.cell?_of_block (a := ⟨w.heap.size, 3, none⟩) hSV.1).trans HX3.out; go_simp; all_goals (with_reducible rfl))
  (try simp only [Act.put, List.setIfInBounds_toArray, List.set_cons_zero, List.set_cons_succ])
  refine' takeG (i := 2) (v := _) rfl (by kernel_rfl) (by kernel_rfl) (by kernel_rfl) (by kernel_rfl) (fun _ _ _ h => h) (by rfl) (⟨rfl, rfl⟩) ?_ ?_; rotate_left
  · (intro V hSV; have q2 := (World.cell?_of_block (a := ⟨a.p, 2, none⟩) hSV.2).trans HC2.out; have q3 := (World.cell?_of_block (a := ⟨w.heap.size, 3, none⟩) hSV.1).trans HX3.out; go_simp; all_goals (with_reducible rfl))
  (try simp only [Act.put, List.setIfInBounds_toArray, List.set_cons_zero, List.set_cons_succ])
  refine' takeG (i := 3) (v := _) rfl (by kernel_rfl) (by kernel_rfl) (by kernel_rfl) (by kernel_rfl) (fun _ _ _ h => h) (by rfl) (⟨rfl, rfl⟩) ?_ ?_; rotate_left
  · (intro V hSV; have q2 := (World.cell?_of_block (a := ⟨a.p, 2, none⟩) hSV.2).trans HC2.out; have q3 := (World.cell?_of_block (a := ⟨w.heap.size, 3, none⟩) hSV.1).trans HX3.out; go_simp; all_goals (with_reducible rfl))
  (try simp only [Act.put, List.setIfInBounds_toArray, List.set_cons_zero, List.set_cons_succ])
  refine' takeG (i := 4) (v := _) rfl (by kernel_rfl) (by kernel_rfl) (by kernel_rfl) (by kernel_rfl) (fun _ _ _ h => h) (by rfl) (⟨rfl, rfl⟩) ?_ ?_; rotate_left
  · (intro V hSV; have q2 := (World.cell?_of_block (a := ⟨a.p, 2, none⟩) hSV.2).trans HC2.out; have q3 := (World.cell?_of_block (a := ⟨w.heap.size, 3, none⟩) hSV.1).trans HX3.out; go_simp; all_goals (with_reducible rfl))
  (try simp only [Act.put, List.setIfInBounds_toArray, List.set_cons_zero, List.set_cons_succ])
  refine' takeG (i := 5) (v := _) rfl (by kernel_rfl) (by kernel_rfl) (by kernel_rfl) (by kernel_rfl) (fun _ _ _ h => h) (by rfl) (⟨rfl, rfl⟩) ?_ ?_; rotate_left
  · (intro V hSV; have q2 := (World.cell?_of_block (a := ⟨a.p, 2, none⟩) hSV.2).trans HC2.out; have q3 := (World.cell?_of_block (a := ⟨w.heap.size, 3, none⟩) hSV.1).trans HX3.out; go_simp; all_goals (with_reducible rfl))
  (try simp only [Act.put, List.setIfInBounds_toArray, List.set_cons_zero, List.set_cons_succ])
  refine callE (i := 6) rfl (by kernel_rfl) (fun K hK => ?_)
  go_simp
  refine HFr.out.mono ?_
  rintro e w2 ⟨rfl, hT⟩
  have hkT := tpost_kpX hT
  have hS2 : w2.heap[w.heap.size]? = W1.heap[w.heap.size]? ∧ w2.heap[a.p]? = W1.heap[a.p]? := ⟨hkT.block w.heap.size (by show w.heap.size < W1.heap.size; have := HS1.out; omega) (fun hx => (HXg.out _ hx).1 rfl), hkT.block a.p H1h.out.lt (fun hx => (HXg.out _ hx).2.1 rfl)⟩
  have HT := hide hT
  have HZ2 := hide (HZ1.out.same (hkT.block (w.heap.size + 1) (by show w.heap.size + 1 < W1.heap.size; have := HS1.out; omega) (fun hx => by have := (HXg.out _ hx).2.2; omega)))
  refine hK.out _ _ (fun _ => hS2) ?_
  clear hK K hT hkT
  (try simp only [Act.put, List.setIfInBounds_toArray, List.set_cons_zero, List.set_cons_succ])
  refine doneE (by kernel_rfl) ?_ _
  clear hS2
  obtain ⟨z0, z1, z2, z3, z4, z5, z6, zf⟩ := HZ2.out
  have g0 := zf 0
  have g1 := zf 1
  have g2 := zf 2
  have g3 := zf 3
  have g4 := zf 4
  have g5 := zf 5
  have g6 := zf 6
  clear zf
  go_wp2
  obtain ⟨a', hI, hst⟩ := (H1h.out.keep (Below.refl _ W1).drew).tabbed HT.out HF1.out HF2.out (Nat.le_succ z) HIa.out
  have HI := hide hI
  have HSt := hide ((MStep.keep a (Below.refl _ W1).drew).trans hst)
  have HR : Hid ((mresN 0 0 0 false).r = res0) := (show _ = _ from rfl)
  have HF : Hid (Foot (fun k => a'.X k ∨ ((F k ∨ k = w.heap.size) ∨ k = w.heap.size + 1)) w2 (fun V => (mresN 0 0 0 false).ok V)) := foot_pure (fun V => mresN_ok _ _ _ _ V)
  rw [← HHX.out]
  change bodyPost _ _ _ _ _ (ResAt w2 (w.heap.size + 1) (mresN 0 0 0 false))
  have hend := rs_pass (x := (res0, { S with tab := (freeL S.tab c.tx).1 })) HB1.out HS1.out HR.out HF.out HI.out HSt.out
  obtain ⟨r0, r1, r2, r3, r4, r5, r6⟩ := resAt_box HZ2.out (mresN 0 0 0 false)
  generalize ResAt w2 (w.heap.size + 1) (mresN 0 0 0 false) = W at *
  exact bodyPost_ret (v := (mresN 0 0 0 false).v) (by simp [results, Tryz.results28, go_sem, MRes.v, r0, r1, r2, r3, r4, r5, r6]) rfl hend

set_option maxHeartbeats 4000000 in
theorem pdone7 {w : World} (h : IsMm F base w a z S) (c : MCmd) (hc : Foot (fun k => a.X k ∨ F k) w (fun V => c.ok V)) (hf : c.c.Few) (hz : z ≤ 159) (hkd : c.kd = 7) (X : Res × Mac) (hX : ({ res0 with tbs := S.tbs }, S) = X) :
    Calls Tryz.prog 28 #[.pointer (some ⟨a.p, 0, none⟩), .agg #[.int .u64 c.cl, .int .u64 c.sq, .int .i64 c.kd, .int .u64 c.tx, .int .u64 c.ts, .bool c.fl, .int .u64 c.lk.l.tx, .int .i64 c.lk.l.lv, .int .i64 c.lk.l.md, .slice c.lk.la c.lk.ln c.lk.lc, .slice c.lk.ha c.lk.hn c.lk.hc, .slice c.lo.a c.lo.n c.lo.c, .slice c.hi.a c.hi.n c.hi.c, .slice c.txs.a c.txs.n c.txs.c, .slice c.ws.a c.ws.n c.ws.c, .slice c.ks.a c.ks.n c.ks.c, .int .i64 c.tb.id, .string (strB c.tb.nm), .slice c.tb.cs.a c.tb.cs.n c.tb.cs.c, .int .i64 c.tb.ky, .slice c.tb.ix.a c.tb.ix.n c.tb.ix.c]] w (RsPost F base w a (z + 1) X) := by
  obtain ⟨W0, hW0⟩ : ∃ W0, W0 = w.alloc (.cells #[.int .u64 c.cl, .int .u64 c.sq, .int .i64 c.kd, .int .u64 c.tx, .int .u64 c.ts, .bool c.fl, .int .u64 c.lk.l.tx, .int .i64 c.lk.l.lv, .int .i64 c.lk.l.md, .slice c.lk.la c.lk.ln c.lk.lc, .slice c.lk.ha c.lk.hn c.lk.hc, .slice c.lo.a c.lo.n c.lo.c, .slice c.hi.a c.hi.n c.hi.c, .slice c.txs.a c.txs.n c.txs.c, .slice c.ws.a c.ws.n c.ws.c, .slice c.ks.a c.ks.n c.ks.c, .int .i64 c.tb.id, .string (strB c.tb.nm), .slice c.tb.cs.a c.tb.cs.n c.tb.cs.c, .int .i64 c.tb.ky, .slice c.tb.ix.a c.tb.ix.n c.tb.ix.c] 50) := ⟨_, rfl⟩
  obtain ⟨W1, hW1⟩ : ∃ W1, W1 = W0.alloc (.cells #[.int .i64 0, .int .u64 0, .int .u64 0, .bool false, .slice none 0 0, .slice none 0 0, .slice none 0 0] 55) := ⟨_, rfl⟩
  have hb0 : Below w.heap.size w W0 := by rw [hW0]; exact new_below _ _
  have hb01 : Below W0.heap.size W0 W1 := by rw [hW1]; exact new_below _ _
  have hs0 : W0.heap.size = w.heap.size + 1 := by rw [hW0]; simp
  have hs1 : W1.heap.size = w.heap.size + 2 := by rw [hW1, World.size_alloc, hs0]
  have hX0 : ∀ V, Below W0.heap.size W0 V → Box21 V w.heap.size c := by subst hW0; exact box21_new w c _
  have HX1 := hide (hX0 W1 hb01)
  have HXa := hide hX0
  have hZ1 : Zero7 W1 W0.heap.size := by rw [hW1]; exact zero7_new W0 _
  rw [hs0] at hZ1
  have HZ1 := hide hZ1
  have HS1 := hide hs1
  have HS0 := hide hs0
  have HB01 := hide hb01
  have HB1 := hide (hb0.trans (hb01.mono hb0.size))
  have H0 := h.box hb0 (by omega)
  have H1 := H0.box hb01 (by omega)
  rw [hs0] at H1
  have H1h := hide H1
  have Hck : Hid (Foot (fun k => a.X k ∨ ((F k ∨ k = w.heap.size) ∨ k = w.heap.size + 1)) W1 (fun V => c.ok V)) := hc.step (Below.keeps HB1.out _) (fun k hk => by
    rcases hk with hk | (hk | hk) | hk
    · exact .inl (.inl hk)
    · exact .inl (.inr hk)
    · exact .inr (by omega)
    · exact .inr (by omega))
  have HFw := hide hf
  have hnp : ¬ a.p = w.heap.size := by have := h.lt; omega
  have H0x : Hid (∀ k, a.X k → k < w.heap.size) := fun k hk => (h.xl k hk).2
  obtain ⟨x0, x1, x2, x3, x4, x5, x6, x7, x8, x9, x10, x11, x12, x13, x14, x15, x16, x17, x18, x19, x20⟩ := HX1.out
  rw [hW0] at hW1
  clear hb0 hb01 hs0 hs1 hX0 hZ1 H0 H1 hc hf
  rw [hkd] at x2
  have hI1 := H1h.out
  obtain ⟨ta, tn, tc, ev, hl, c3, hm, hY⟩ := hI1.slT
  have h40 := hI1.i.nt40
  have HCp := hide (pcopiesT_any ta tn tc a.ms W1 hY (by omega) (fun m hm => (hI1.tf m hm).now) (fun m hm => by
    have h1 := hI1.i.tl m.t (by rw [← hI1.tm]; exact List.mem_map.2 ⟨m, hm, rfl⟩)
    have h2 := ((hI1.tf m hm).now).cs.1
    have h3 := ((hI1.tf m hm).now).ix.1
    have h4 : m.t.cs.length = m.cs.n := h2
    have h5 : m.t.ix.length = m.ix.n := h3
    omega))
  have HTm := hide hI1.tm
  have HHX := hide hX
  have H0f : Hid (∀ k, F k → k < w.heap.size) := h.fl
  clear h hkd hI1 hX ev hl hm hY h40
  go_enter Tryz.func28, Tryz.ntmps28
  go_upto_region 1 with fail
  rw [← hW1]
  clear hW1 hW0
  go_wp2_with (first
    | (go_at_call 81; go_must (refine HCp.out.mono ?_); rintro e w2 ⟨ra, rn, rc, ys, rfl, ho, hm, hy, hb2⟩; have hz2 := HZ1.out.same (hb2.block (w.heap.size + 1) (by have := HS1.out; omega)); have HZ2 := hide hz2; obtain ⟨z0, z1, z2, z3, z4, z5, z6, zf⟩ := hz2; have g0 := zf 0; have g1 := zf 1; have g2 := zf 2; have g3 := zf 3; have g4 := zf 4; have g5 := zf 5; have g6 := zf 6; have HO := hide ho; have HM := hide hm; have HY := hide hy; have HB2 := hide hb2; clear zf ho hm hy hb2))
  have HI := hide ((H1h.out.keep HB2.out).more (Nat.le_succ z))
  have HSt := hide (MStep.keep a HB2.out)
  have HR : Hid ((mresC ra rn rc ys).r = { res0 with tbs := S.tbs }) := (by show (⟨0, 0, 0, false, [], ys.map MTb.t⟩ : Res) = ⟨0, 0, 0, false, [], S.tbs⟩; rw [HM.out, HTm.out])
  have hxl : ∀ k, a.X k ∨ ((F k ∨ k = w.heap.size) ∨ k = w.heap.size + 1) → k < W1.heap.size := fun k hk => by
    have := HS1.out
    rcases hk with hk | (hk | hk) | hk
    · have := H0x.out k hk; omega
    · have := H0f.out k hk; omega
    · omega
    · omega
  have HF : Hid (Foot (fun k => a.X k ∨ ((F k ∨ k = w.heap.size) ∨ k = w.heap.size + 1)) w2 (fun V => (mresC ra rn rc ys).ok V)) := by
    show Foot _ _ _
    have h1 := foot_ownY (X := fun k => a.X k ∨ ((F k ∨ k = w.heap.size) ∨ k = w.heap.size + 1)) HO.out hxl
    have h2 : Foot (fun k => a.X k ∨ ((F k ∨ k = w.heap.size) ∨ k = w.heap.size + 1)) w2 (fun V => ∀ m ∈ ys, m.ok V) := foot_all (fun m hm => (HY.out m hm).more (fun k hk => .inl (hxl k hk)))
    exact (h1.and h2).imp (fun V hV => ⟨isY_nil V, hV.1, hV.2⟩)
  rw [← HHX.out]
  change bodyPost _ _ _ _ _ (ResAt w2 (w.heap.size + 1) (mresC ra rn rc ys))
  have hend := rs_pass (x := ({ res0 with tbs := S.tbs }, S)) HB1.out HS1.out HR.out HF.out HI.out HSt.out
  obtain ⟨r0, r1, r2, r3, r4, r5, r6⟩ := resAt_box HZ2.out (mresC ra rn rc ys)
  generalize ResAt w2 (w.heap.size + 1) (mresC ra rn rc ys) = W at *
  exact bodyPost_ret (v := (mresC ra rn rc ys).v) (by simp [results, Tryz.results28, go_sem, MRes.v, r0, r1, r2, r3, r4, r5, r6]) rfl hend

theorem pdone_any {w : World} (h : IsMm F base w a z S) (c : MCmd) (hc : Foot (fun k => a.X k ∨ F k) w (fun V => c.ok V)) (hf : c.c.Few) (hz : z ≤ 159) :
    Calls Tryz.prog 28 #[.pointer (some ⟨a.p, 0, none⟩), .agg #[.int .u64 c.cl, .int .u64 c.sq, .int .i64 c.kd, .int .u64 c.tx, .int .u64 c.ts, .bool c.fl, .int .u64 c.lk.l.tx, .int .i64 c.lk.l.lv, .int .i64 c.lk.l.md, .slice c.lk.la c.lk.ln c.lk.lc, .slice c.lk.ha c.lk.hn c.lk.hc, .slice c.lo.a c.lo.n c.lo.c, .slice c.hi.a c.hi.n c.hi.c, .slice c.txs.a c.txs.n c.txs.c, .slice c.ws.a c.ws.n c.ws.c, .slice c.ks.a c.ks.n c.ks.c, .int .i64 c.tb.id, .string (strB c.tb.nm), .slice c.tb.cs.a c.tb.cs.n c.tb.cs.c, .int .i64 c.tb.ky, .slice c.tb.ix.a c.tb.ix.n c.tb.ix.c]] w (RsPost F base w a (z + 1) (oneM S c.c)) := by
  obtain ⟨X, hX⟩ : ∃ X, oneM S c.c = X := ⟨_, rfl⟩
  rw [hX]
  unfold oneM at hX
  by_cases h1 : c.kd = 1
  · exact pdone1 h c hc hf hz h1 X (by rw [← hX, if_pos (show c.c.kd = 1 from h1)])
  rw [if_neg (show ¬ c.c.kd = 1 from h1)] at hX
  by_cases h2 : c.kd = 2
  · exact pdone2 h c hc hf hz h2 X (by rw [← hX, if_pos (show c.c.kd = 2 from h2)]; rfl)
  rw [if_neg (show ¬ c.c.kd = 2 from h2)] at hX
  by_cases h3 : c.kd = 3
  · exact pdone3 h c hc hf hz h3 X (by rw [← hX, if_pos (show c.c.kd = 3 from h3)]; rfl)
  rw [if_neg (show ¬ c.c.kd = 3 from h3)] at hX
  by_cases h4 : c.kd = 4
  · exact pdone4 h c hc hf hz h4 X (by rw [← hX, if_pos (show c.c.kd = 4 from h4)]; rfl)
  rw [if_neg (show ¬ c.c.kd = 4 from h4)] at hX
  by_cases h5 : c.kd = 5
  · exact pdone5 h c hc hf hz h5 X (by rw [← hX, if_pos (show c.c.kd = 5 from h5)]; rfl)
  rw [if_neg (show ¬ c.c.kd = 5 from h5)] at hX
  by_cases h6 : c.kd = 6
  · exact pdone6 h c hc hf hz h6 X (by rw [← hX, if_pos (show c.c.kd = 6 from h6)]; rfl)
  rw [if_neg (show ¬ c.c.kd = 6 from h6)] at hX
  by_cases h7 : c.kd = 7
  · exact pdone7 h c hc hf hz h7 X (by rw [← hX, if_pos (show c.c.kd = 7 from h7)])
  rw [if_neg (show ¬ c.c.kd = 7 from h7)] at hX
  exact pdone8 h c hc hf hz ⟨h1, h2, h3, h4, h5, h6, h7⟩ X hX

end Go.Proofs.YtcgiicmmfleinaaGreatDoor
