/- The program's machine: Do, by package again. Printed by part/gen_mfi2.py. -/
import Derived.Test.YtcgiicmmfleinaaGreatDoorAgM
namespace Go.Proofs.YtcgiicmmfleinaaGreatDoor
open Go.RowKit NumMath Go.ChangeShapes Go.WideShapes Go.Deep
set_option linter.unusedVariables false
set_option maxRecDepth 100000

variable {F : Nat → Prop} {base : Nat} {a : Mm} {z : Nat} {S : Mac}

theorem run_loadM {α : Type} (L : Lay α) (w : World) (d : TypeDesc) (hu : Tryz.prog.underlying L.e = some d) (hd : d.isRow = true) (a : Act) (o : Oper) (y : Operand) (ho : o.op = .load L.e y) (g f : Nat) (x : α) (cs : Array Value) (hcs : (L.cells x).toArray = cs) (hx : a.eval y = .pointer (some ⟨g, f, none⟩)) (hc : w.rangeAt g f (L.cells x)) :
    (execOp a.eval o).run Tryz.prog w = .ok (.value (.agg cs)) w := by
  subst hcs
  unfold execOp
  simp only [ho, hx, Sem.run_bind, run_loadY L w g f x d hu hd hc, Sem.run_pure, Result.andThen_ok]

theorem pag_any {w : World} (h : IsMm F base w a z S) (c : MCmd) (hc : Foot (fun k => a.X k ∨ F k) w (fun V => c.ok V)) (hf : c.c.Few) (hz : z ≤ 159) :
    Calls Tryz.prog 27 #[.pointer (some ⟨a.p, 4, none⟩), .agg #[.int .u64 c.cl, .int .u64 c.sq, .int .i64 c.kd, .int .u64 c.tx, .int .u64 c.ts, .bool c.fl, .int .u64 c.lk.l.tx, .int .i64 c.lk.l.lv, .int .i64 c.lk.l.md, .slice c.lk.la c.lk.ln c.lk.lc, .slice c.lk.ha c.lk.hn c.lk.hc, .slice c.lo.a c.lo.n c.lo.c, .slice c.hi.a c.hi.n c.hi.c, .slice c.txs.a c.txs.n c.txs.c, .slice c.ws.a c.ws.n c.ws.c, .slice c.ks.a c.ks.n c.ks.c, .int .i64 c.tb.id, .string (strB c.tb.nm), .slice c.tb.cs.a c.tb.cs.n c.tb.cs.c, .int .i64 c.tb.ky, .slice c.tb.ix.a c.tb.ix.n c.tb.ix.c], .func (.func 28) #[.pointer (some ⟨a.p, 0, none⟩)] #[]] w (RsPost F base w a (z + 2) (doM S c.c)) := by
  obtain ⟨X, hX⟩ : ∃ X, doM S c.c = X := ⟨_, rfl⟩
  rw [hX]
  unfold doM at hX
  by_cases h0 : c.cl = 0
  · rw [if_pos (show c.c.cl = 0 from h0)] at hX
    exact pag0 h c hc hf hz h0 X hX
  rw [if_neg (show ¬ c.c.cl = 0 from h0)] at hX
  cases hl : S.la c.cl with
  | none =>
    have hl' : S.la c.c.cl = none := hl
    rw [hl'] at hX
    exact pag1 h c hc hf hz h0 hl X hX
  | some x =>
    obtain ⟨sq0, r0⟩ := x
    have hl' : S.la c.c.cl = some (sq0, r0) := hl
    rw [hl'] at hX
    dsimp only at hX
    by_cases h1 : sq0 = c.sq
    · rw [if_pos (show sq0 = c.c.sq from h1)] at hX
      exact pag3 h c hc hf hz h0 sq0 r0 hl h1 X hX
    · rw [if_neg (show ¬ sq0 = c.c.sq from h1)] at hX
      by_cases h2 : c.sq < sq0
      · rw [if_pos (show c.c.sq < sq0 from h2)] at hX
        exact pag4 h c hc hf hz h0 sq0 r0 hl h1 h2 X hX
      · rw [if_neg (show ¬ c.c.sq < sq0 from h2)] at hX
        exact pag2 h c hc hf hz h0 sq0 r0 hl h1 h2 X hX

set_option maxHeartbeats 4000000 in
theorem pdo_any {w : World} (h : IsMm F base w a z S) (c : MCmd) (hc : Foot (fun k => a.X k ∨ F k) w (fun V => c.ok V)) (hf : c.c.Few) (hz : z ≤ 159) :
    Calls Tryz.prog 10 #[.pointer (some ⟨a.p, 0, none⟩), .agg #[.int .u64 c.cl, .int .u64 c.sq, .int .i64 c.kd, .int .u64 c.tx, .int .u64 c.ts, .bool c.fl, .int .u64 c.lk.l.tx, .int .i64 c.lk.l.lv, .int .i64 c.lk.l.md, .slice c.lk.la c.lk.ln c.lk.lc, .slice c.lk.ha c.lk.hn c.lk.hc, .slice c.lo.a c.lo.n c.lo.c, .slice c.hi.a c.hi.n c.hi.c, .slice c.txs.a c.txs.n c.txs.c, .slice c.ws.a c.ws.n c.ws.c, .slice c.ks.a c.ks.n c.ks.c, .int .i64 c.tb.id, .string (strB c.tb.nm), .slice c.tb.cs.a c.tb.cs.n c.tb.cs.c, .int .i64 c.tb.ky, .slice c.tb.ix.a c.tb.ix.n c.tb.ix.c]] w (RsPost F base w a (z + 2) (doM S c.c)) := by
  obtain ⟨W0, hW0⟩ : ∃ W0, W0 = w.alloc (.cells #[.int .u64 c.cl, .int .u64 c.sq, .int .i64 c.kd, .int .u64 c.tx, .int .u64 c.ts, .bool c.fl, .int .u64 c.lk.l.tx, .int .i64 c.lk.l.lv, .int .i64 c.lk.l.md, .slice c.lk.la c.lk.ln c.lk.lc, .slice c.lk.ha c.lk.hn c.lk.hc, .slice c.lo.a c.lo.n c.lo.c, .slice c.hi.a c.hi.n c.hi.c, .slice c.txs.a c.txs.n c.txs.c, .slice c.ws.a c.ws.n c.ws.c, .slice c.ks.a c.ks.n c.ks.c, .int .i64 c.tb.id, .string (strB c.tb.nm), .slice c.tb.cs.a c.tb.cs.n c.tb.cs.c, .int .i64 c.tb.ky, .slice c.tb.ix.a c.tb.ix.n c.tb.ix.c] 50) := ⟨_, rfl⟩
  obtain ⟨W1, hW1⟩ : ∃ W1, W1 = W0.alloc (.cells #[.int .i64 0, .int .u64 0, .int .u64 0, .bool false, .slice none 0 0, .slice none 0 0, .slice none 0 0] 55) := ⟨_, rfl⟩
  have hb0 : Below w.heap.size w W0 := by rw [hW0]; exact new_below _ _
  have hb01 : Below W0.heap.size W0 W1 := by rw [hW1]; exact new_below _ _
  have hs0 : W0.heap.size = w.heap.size + 1 := by rw [hW0]; simp
  have hs1 : W1.heap.size = w.heap.size + 2 := by rw [hW1, World.size_alloc, hs0]
  have hX0 : ∀ V, Below W0.heap.size W0 V → Box21 V w.heap.size c := by subst hW0; exact box21_new w c _
  have HX1 := hide (hX0 W1 hb01)
  have hRg0 : W0.rangeAt w.heap.size 0 (layCm.cells c) := by rw [hW0]; exact rangeY_new w w.heap.size _ _ rfl
  have HRg := hide (rangeY_same hRg0 (hb01.block w.heap.size (by omega)))
  have HXa := hide hX0
  have hZ1 : Zero7 W1 W0.heap.size := by rw [hW1]; exact zero7_new W0 _
  rw [hs0] at hZ1
  have HZ1 := hide hZ1
  have HS1 := hide hs1
  have HS0 := hide hs0
  have HB01 := hide hb01
  have HB1 := hide (hb0.trans (hb01.mono hb0.size))
  have H0 := h.box hb0 (by omega)
  have H1 := H0.box hb01 (by omega)
  rw [hs0] at H1
  have H1h := hide H1
  have Hck : Hid (Foot (fun k => a.X k ∨ ((F k ∨ k = w.heap.size) ∨ k = w.heap.size + 1)) W1 (fun V => c.ok V)) := hc.step (Below.keeps HB1.out _) (fun k hk => by
    rcases hk with hk | (hk | hk) | hk
    · exact .inl (.inl hk)
    · exact .inl (.inr hk)
    · exact .inr (by omega)
    · exact .inr (by omega))
  have HFw := hide hf
  have hnp : ¬ a.p = w.heap.size := by have := h.lt; omega
  have H0x : Hid (∀ k, a.X k → k < w.heap.size) := fun k hk => (h.xl k hk).2
  obtain ⟨x0, x1, x2, x3, x4, x5, x6, x7, x8, x9, x10, x11, x12, x13, x14, x15, x16, x17, x18, x19, x20⟩ := HX1.out
  rw [hW0] at hW1
  have HMd := hide (madeM_any H1h.out)
  have H0f : Hid (∀ k, F k → k < w.heap.size) := h.fl
  clear hb0 hb01 hs0 hs1 hX0 hZ1 H0 H1 hc hf hRg0
  have hI1 := H1h.out.keep (Below.refl _ W1).drew
  have hcon := pag_any hI1 c (Hck.out.keep (Below.refl _ W1).drew) HFw.out hz
  have HCon := hide hcon
  clear h hcon hI1
  go_enter Tryz.func10, Tryz.ntmps10
  go_upto_region 1 with fail
  rw [← hW1]
  clear hW1 hW0
  go_upto_region 3 with (first
    | (go_at_call 26; go_must (refine HMd.out.mono ?_); rintro e w1 ⟨rfl, hw⟩; have hw := hw.symm; subst hw))
  clear x0 x1 x2 x3 x4 x5 x6 x7 x8 x9 x10 x11 x12 x13 x14 x15 x16 x17 x18 x19 x20
  refine startG (fun V : World => V.heap[w.heap.size]? = W1.heap[w.heap.size]?) (fun i => i == 7) (by kernel_rfl) ?_
  refine' takeG (i := 0) (v := _) rfl (by kernel_rfl) (by kernel_rfl) (by kernel_rfl) (by kernel_rfl) (fun _ _ _ h => h) (by rfl) (rfl) ?_ ?_; rotate_left
  · (intro V hSV; go_simp; all_goals (with_reducible rfl))
  (try simp only [Act.put, List.setIfInBounds_toArray, List.set_cons_zero, List.set_cons_succ])
  refine' takeG (i := 1) (v := _) rfl (by kernel_rfl) (by kernel_rfl) (by kernel_rfl) (by kernel_rfl) (fun _ _ _ h => h) (by rfl) (rfl) ?_ ?_; rotate_left
  · (intro V hSV; go_simp; all_goals (with_reducible rfl))
  (try simp only [Act.put, List.setIfInBounds_toArray, List.set_cons_zero, List.set_cons_succ])
  refine' takeG (i := 2) (v := _) rfl (by kernel_rfl) (by kernel_rfl) (by kernel_rfl) (by kernel_rfl) (fun _ _ _ h => h) (by rfl) (rfl) ?_ ?_; rotate_left
  · (intro V hSV; go_simp; all_goals (with_reducible rfl))
  (try simp only [Act.put, List.setIfInBounds_toArray, List.set_cons_zero, List.set_cons_succ])
  refine' takeG (i := 3) (v := _) rfl (by kernel_rfl) (by kernel_rfl) (by kernel_rfl) (by kernel_rfl) (fun _ _ _ h => h) (by rfl) (rfl) ?_ ?_; rotate_left
  · (intro V hSV; refine run_loadM layCm V _ Tryz.underlying50 rfl _ _ (.tmp 3) ?_ w.heap.size 0 c #[.int .u64 c.cl, .int .u64 c.sq, .int .i64 c.kd, .int .u64 c.tx, .int .u64 c.ts, .bool c.fl, .int .u64 c.lk.l.tx, .int .i64 c.lk.l.lv, .int .i64 c.lk.l.md, .slice c.lk.la c.lk.ln c.lk.lc, .slice c.lk.ha c.lk.hn c.lk.hc, .slice c.lo.a c.lo.n c.lo.c, .slice c.hi.a c.hi.n c.hi.c, .slice c.txs.a c.txs.n c.txs.c, .slice c.ws.a c.ws.n c.ws.c, .slice c.ks.a c.ks.n c.ks.c, .int .i64 c.tb.id, .string (strB c.tb.nm), .slice c.tb.cs.a c.tb.cs.n c.tb.cs.c, .int .i64 c.tb.ky, .slice c.tb.ix.a c.tb.ix.n c.tb.ix.c] rfl ?_ (rangeY_same HRg.out hSV) <;> rfl)
  (try simp only [Act.put, List.setIfInBounds_toArray, List.set_cons_zero, List.set_cons_succ])
  refine' takeG (i := 4) (v := _) rfl (by kernel_rfl) (by kernel_rfl) (by kernel_rfl) (by kernel_rfl) (fun _ _ _ h => h) (by rfl) (rfl) ?_ ?_; rotate_left
  · (intro V hSV; go_simp; all_goals (with_reducible rfl))
  (try simp only [Act.put, List.setIfInBounds_toArray, List.set_cons_zero, List.set_cons_succ])
  refine' takeG (i := 5) (v := _) rfl (by kernel_rfl) (by kernel_rfl) (by kernel_rfl) (by kernel_rfl) (fun _ _ _ h => h) (by rfl) (rfl) ?_ ?_; rotate_left
  · (intro V hSV; go_simp; all_goals (with_reducible rfl))
  (try simp only [Act.put, List.setIfInBounds_toArray, List.set_cons_zero, List.set_cons_succ])
  refine callE (i := 6) rfl (by kernel_rfl) (fun K hK => ?_)
  go_simp
  refine HCon.out.mono ?_
  rintro e w2 ⟨a', mr, rfl, hr, hf2, hI, hst⟩
  have hS2 : w2.heap[w.heap.size]? = W1.heap[w.heap.size]? := hst.kp.block w.heap.size (by have := HS1.out; show _ < W1.heap.size; omega) (fun hx => by have := H0x.out _ hx; omega)
  refine hK.out _ _ (fun _ => hS2) ?_
  unfold MRes.v
  clear hK K hS2
  (try simp only [Act.put, List.setIfInBounds_toArray, List.set_cons_zero, List.set_cons_succ])
  have hz2 := HZ1.out.same (show w2.heap[w.heap.size + 1]? = W1.heap[w.heap.size + 1]? from hst.kp.block (w.heap.size + 1) (by have := HS1.out; show _ < W1.heap.size; omega) (fun hx => by have := H0x.out _ hx; omega))
  have HZ2 := hide hz2
  obtain ⟨z0, z1, z2, z3, z4, z5, z6, zf⟩ := hz2
  have g0 := zf 0
  have g1 := zf 1
  have g2 := zf 2
  have g3 := zf 3
  have g4 := zf 4
  have g5 := zf 5
  have g6 := zf 6
  have HR := hide hr
  have HF := hide hf2
  have HI := hide hI
  have HSt : Hid (MStep W1 w2 a a') := (MStep.keep a (Below.refl _ W1).drew).trans hst
  clear zf hr hf2 hI hst
  refine callE (i := 7) rfl (by kernel_rfl) (fun K hK => ?_)
  go_simp
  refine hK.out _ _ (fun h => by cases h) ?_
  clear hK K
  (try simp only [Act.put, List.setIfInBounds_toArray, List.set_cons_zero, List.set_cons_succ])
  refine doneE (by kernel_rfl) ?_ _
  go_wp2
  change bodyPost _ _ _ _ _ (ResAt w2 (w.heap.size + 1) mr)
  have hend := rs_pass HB1.out HS1.out HR.out HF.out HI.out HSt.out
  obtain ⟨r0, r1, r2, r3, r4, r5, r6⟩ := resAt_box HZ2.out mr
  generalize ResAt w2 (w.heap.size + 1) mr = W at *
  exact bodyPost_ret (v := mr.v) (by simp [results, Tryz.results10, go_sem, MRes.v, r0, r1, r2, r3, r4, r5, r6]) rfl hend

end Go.Proofs.YtcgiicmmfleinaaGreatDoor
