/- Package again, with the machine of package meta: Do. Printed by part/gen_agm.py. -/
import Derived.Test.YtcgiicmmfleinaaGreatDoorMfG
import Derived.Test.YtcgiicmmfleinaaGreatDoorCm6
import Derived.Maps.OwnSet
namespace Go.Proofs.YtcgiicmmfleinaaGreatDoor
open Go.RowKit NumMath Go.ChangeShapes Go.WideShapes Go.Deep
set_option linter.unusedVariables false
set_option maxRecDepth 100000

variable {F : Nat → Prop} {base : Nat} {a : Mm} {z : Nat} {S : Mac}

theorem Box21.same {V W : World} {b : Nat} {m : MCmd} (h : Box21 V b m) (e : W.heap[b]? = V.heap[b]?) : Box21 W b m :=
  ⟨(World.cell?_of_block (a := ⟨b, 0, none⟩) e).trans h.c0, (World.cell?_of_block (a := ⟨b, 1, none⟩) e).trans h.c1, (World.cell?_of_block (a := ⟨b, 2, none⟩) e).trans h.c2, (World.cell?_of_block (a := ⟨b, 3, none⟩) e).trans h.c3, (World.cell?_of_block (a := ⟨b, 4, none⟩) e).trans h.c4, (World.cell?_of_block (a := ⟨b, 5, none⟩) e).trans h.c5, (World.cell?_of_block (a := ⟨b, 6, none⟩) e).trans h.c6, (World.cell?_of_block (a := ⟨b, 7, none⟩) e).trans h.c7, (World.cell?_of_block (a := ⟨b, 8, none⟩) e).trans h.c8, (World.cell?_of_block (a := ⟨b, 9, none⟩) e).trans h.c9, (World.cell?_of_block (a := ⟨b, 10, none⟩) e).trans h.c10, (World.cell?_of_block (a := ⟨b, 11, none⟩) e).trans h.c11, (World.cell?_of_block (a := ⟨b, 12, none⟩) e).trans h.c12, (World.cell?_of_block (a := ⟨b, 13, none⟩) e).trans h.c13, (World.cell?_of_block (a := ⟨b, 14, none⟩) e).trans h.c14, (World.cell?_of_block (a := ⟨b, 15, none⟩) e).trans h.c15, (World.cell?_of_block (a := ⟨b, 16, none⟩) e).trans h.c16, (World.cell?_of_block (a := ⟨b, 17, none⟩) e).trans h.c17, (World.cell?_of_block (a := ⟨b, 18, none⟩) e).trans h.c18, (World.cell?_of_block (a := ⟨b, 19, none⟩) e).trans h.c19, (World.cell?_of_block (a := ⟨b, 20, none⟩) e).trans h.c20⟩

set_option maxHeartbeats 4000000 in
theorem pag0 {w : World} (h : IsMm F base w a z S) (c : MCmd) (hc : Foot (fun k => a.X k ∨ F k) w (fun V => c.ok V)) (hf : c.c.Few) (hz : z ≤ 159) (hcl : c.cl = 0) (X : Res × Mac) (hX : (oneM S c.c) = X) :
    Calls Tryz.prog 27 #[.pointer (some ⟨a.p, 4, none⟩), .agg #[.int .u64 c.cl, .int .u64 c.sq, .int .i64 c.kd, .int .u64 c.tx, .int .u64 c.ts, .bool c.fl, .int .u64 c.lk.l.tx, .int .i64 c.lk.l.lv, .int .i64 c.lk.l.md, .slice c.lk.la c.lk.ln c.lk.lc, .slice c.lk.ha c.lk.hn c.lk.hc, .slice c.lo.a c.lo.n c.lo.c, .slice c.hi.a c.hi.n c.hi.c, .slice c.txs.a c.txs.n c.txs.c, .slice c.ws.a c.ws.n c.ws.c, .slice c.ks.a c.ks.n c.ks.c, .int .i64 c.tb.id, .string (strB c.tb.nm), .slice c.tb.cs.a c.tb.cs.n c.tb.cs.c, .int .i64 c.tb.ky, .slice c.tb.ix.a c.tb.ix.n c.tb.ix.c], .func (.func 28) #[.pointer (some ⟨a.p, 0, none⟩)] #[]] w (RsPost F base w a (z + 2) X) := by
  obtain ⟨W0, hW0⟩ : ∃ W0, W0 = w.alloc (.cells #[.int .u64 c.cl, .int .u64 c.sq, .int .i64 c.kd, .int .u64 c.tx, .int .u64 c.ts, .bool c.fl, .int .u64 c.lk.l.tx, .int .i64 c.lk.l.lv, .int .i64 c.lk.l.md, .slice c.lk.la c.lk.ln c.lk.lc, .slice c.lk.ha c.lk.hn c.lk.hc, .slice c.lo.a c.lo.n c.lo.c, .slice c.hi.a c.hi.n c.hi.c, .slice c.txs.a c.txs.n c.txs.c, .slice c.ws.a c.ws.n c.ws.c, .slice c.ks.a c.ks.n c.ks.c, .int .i64 c.tb.id, .string (strB c.tb.nm), .slice c.tb.cs.a c.tb.cs.n c.tb.cs.c, .int .i64 c.tb.ky, .slice c.tb.ix.a c.tb.ix.n c.tb.ix.c] 50) := ⟨_, rfl⟩
  obtain ⟨W1, hW1⟩ : ∃ W1, W1 = W0.alloc (.cells #[.int .i64 0, .int .u64 0, .int .u64 0, .bool false, .slice none 0 0, .slice none 0 0, .slice none 0 0] 55) := ⟨_, rfl⟩
  have hb0 : Below w.heap.size w W0 := by rw [hW0]; exact new_below _ _
  have hb01 : Below W0.heap.size W0 W1 := by rw [hW1]; exact new_below _ _
  have hs0 : W0.heap.size = w.heap.size + 1 := by rw [hW0]; simp
  have hs1 : W1.heap.size = w.heap.size + 2 := by rw [hW1, World.size_alloc, hs0]
  have hX0 : ∀ V, Below W0.heap.size W0 V → Box21 V w.heap.size c := by subst hW0; exact box21_new w c _
  have HX1 := hide (hX0 W1 hb01)
  have hRg0 : W0.rangeAt w.heap.size 0 (layCm.cells c) := by rw [hW0]; exact rangeY_new w w.heap.size _ _ rfl
  have HRg := hide (rangeY_same hRg0 (hb01.block w.heap.size (by omega)))
  have HXa := hide hX0
  have hZ1 : Zero7 W1 W0.heap.size := by rw [hW1]; exact zero7_new W0 _
  rw [hs0] at hZ1
  have HZ1 := hide hZ1
  have HS1 := hide hs1
  have HS0 := hide hs0
  have HB01 := hide hb01
  have HB1 := hide (hb0.trans (hb01.mono hb0.size))
  have H0 := h.box hb0 (by omega)
  have H1 := H0.box hb01 (by omega)
  rw [hs0] at H1
  have H1h := hide H1
  have Hck : Hid (Foot (fun k => a.X k ∨ ((F k ∨ k = w.heap.size) ∨ k = w.heap.size + 1)) W1 (fun V => c.ok V)) := hc.step (Below.keeps HB1.out _) (fun k hk => by
    rcases hk with hk | (hk | hk) | hk
    · exact .inl (.inl hk)
    · exact .inl (.inr hk)
    · exact .inr (by omega)
    · exact .inr (by omega))
  have HFw := hide hf
  have hnp : ¬ a.p = w.heap.size := by have := h.lt; omega
  have H0x : Hid (∀ k, a.X k → k < w.heap.size) := fun k hk => (h.xl k hk).2
  obtain ⟨x0, x1, x2, x3, x4, x5, x6, x7, x8, x9, x10, x11, x12, x13, x14, x15, x16, x17, x18, x19, x20⟩ := HX1.out
  rw [hW0] at hW1
  have H0f : Hid (∀ k, F k → k < w.heap.size) := h.fl
  clear hb0 hb01 hs0 hs1 hX0 hZ1 H0 H1 hc hf hRg0
  rw [hcl] at x0
  have hcon := pdone_any H1h.out c Hck.out HFw.out hz
  rw [hX] at hcon
  have HCon := hide hcon
  clear h hcl hX hcon
  go_enter Tryz.func27, Tryz.ntmps27
  go_upto_region 1 with fail
  rw [← hW1]
  clear hW1 hW0
  go_wp2_with (first
    | (go_at_call 28; go_must (refine (HCon.out).mono ?_); rintro e w2 ⟨a', mr, rfl, hr, hf2, hI, hst⟩; unfold MRes.v; have hz2 := HZ1.out.same (hst.kp.block (w.heap.size + 1) (by have := HS1.out; omega) (fun hx => by have := H0x.out _ hx; omega)); have HZ2 := hide hz2; obtain ⟨z0, z1, z2, z3, z4, z5, z6, zf⟩ := hz2; have g0 := zf 0; have g1 := zf 1; have g2 := zf 2; have g3 := zf 3; have g4 := zf 4; have g5 := zf 5; have g6 := zf 6; have HR := hide hr; have HF := hide hf2; have HI := hide hI; have HSt := hide hst; clear zf hr hf2 hI hst)
    | (refine wp_loadY layCm _ _ Tryz.underlying50 rfl rfl (.tmp 4) rfl w.heap.size 0 c #[.int .u64 c.cl, .int .u64 c.sq, .int .i64 c.kd, .int .u64 c.tx, .int .u64 c.ts, .bool c.fl, .int .u64 c.lk.l.tx, .int .i64 c.lk.l.lv, .int .i64 c.lk.l.md, .slice c.lk.la c.lk.ln c.lk.lc, .slice c.lk.ha c.lk.hn c.lk.hc, .slice c.lo.a c.lo.n c.lo.c, .slice c.hi.a c.hi.n c.hi.c, .slice c.txs.a c.txs.n c.txs.c, .slice c.ws.a c.ws.n c.ws.c, .slice c.ks.a c.ks.n c.ks.c, .int .i64 c.tb.id, .string (strB c.tb.nm), .slice c.tb.cs.a c.tb.cs.n c.tb.cs.c, .int .i64 c.tb.ky, .slice c.tb.ix.a c.tb.ix.n c.tb.ix.c] rfl rfl HRg.out ?_))
  change bodyPost _ _ _ _ _ (ResAt w2 (w.heap.size + 1) mr)
  have hend := rs_pass HB1.out HS1.out HR.out HF.out (HI.out.more (Nat.le_succ _)) HSt.out
  obtain ⟨r0, r1, r2, r3, r4, r5, r6⟩ := resAt_box HZ2.out mr
  generalize ResAt w2 (w.heap.size + 1) mr = W at *
  exact bodyPost_ret (v := mr.v) (by simp [results, Tryz.results27, go_sem, MRes.v, r0, r1, r2, r3, r4, r5, r6]) rfl hend

set_option maxHeartbeats 4000000 in
theorem pag1 {w : World} (h : IsMm F base w a z S) (c : MCmd) (hc : Foot (fun k => a.X k ∨ F k) w (fun V => c.ok V)) (hf : c.c.Few) (hz : z ≤ 159) (hcl : c.cl ≠ 0) (hla : S.la c.cl = none) (X : Res × Mac) (hX : (noteM c.c (oneM S c.c)) = X) :
    Calls Tryz.prog 27 #[.pointer (some ⟨a.p, 4, none⟩), .agg #[.int .u64 c.cl, .int .u64 c.sq, .int .i64 c.kd, .int .u64 c.tx, .int .u64 c.ts, .bool c.fl, .int .u64 c.lk.l.tx, .int .i64 c.lk.l.lv, .int .i64 c.lk.l.md, .slice c.lk.la c.lk.ln c.lk.lc, .slice c.lk.ha c.lk.hn c.lk.hc, .slice c.lo.a c.lo.n c.lo.c, .slice c.hi.a c.hi.n c.hi.c, .slice c.txs.a c.txs.n c.txs.c, .slice c.ws.a c.ws.n c.ws.c, .slice c.ks.a c.ks.n c.ks.c, .int .i64 c.tb.id, .string (strB c.tb.nm), .slice c.tb.cs.a c.tb.cs.n c.tb.cs.c, .int .i64 c.tb.ky, .slice c.tb.ix.a c.tb.ix.n c.tb.ix.c], .func (.func 28) #[.pointer (some ⟨a.p, 0, none⟩)] #[]] w (RsPost F base w a (z + 2) X) := by
  obtain ⟨W0, hW0⟩ : ∃ W0, W0 = w.alloc (.cells #[.int .u64 c.cl, .int .u64 c.sq, .int .i64 c.kd, .int .u64 c.tx, .int .u64 c.ts, .bool c.fl, .int .u64 c.lk.l.tx, .int .i64 c.lk.l.lv, .int .i64 c.lk.l.md, .slice c.lk.la c.lk.ln c.lk.lc, .slice c.lk.ha c.lk.hn c.lk.hc, .slice c.lo.a c.lo.n c.lo.c, .slice c.hi.a c.hi.n c.hi.c, .slice c.txs.a c.txs.n c.txs.c, .slice c.ws.a c.ws.n c.ws.c, .slice c.ks.a c.ks.n c.ks.c, .int .i64 c.tb.id, .string (strB c.tb.nm), .slice c.tb.cs.a c.tb.cs.n c.tb.cs.c, .int .i64 c.tb.ky, .slice c.tb.ix.a c.tb.ix.n c.tb.ix.c] 50) := ⟨_, rfl⟩
  obtain ⟨W1, hW1⟩ : ∃ W1, W1 = W0.alloc (.cells #[.int .i64 0, .int .u64 0, .int .u64 0, .bool false, .slice none 0 0, .slice none 0 0, .slice none 0 0] 55) := ⟨_, rfl⟩
  have hb0 : Below w.heap.size w W0 := by rw [hW0]; exact new_below _ _
  have hb01 : Below W0.heap.size W0 W1 := by rw [hW1]; exact new_below _ _
  have hs0 : W0.heap.size = w.heap.size + 1 := by rw [hW0]; simp
  have hs1 : W1.heap.size = w.heap.size + 2 := by rw [hW1, World.size_alloc, hs0]
  have hX0 : ∀ V, Below W0.heap.size W0 V → Box21 V w.heap.size c := by subst hW0; exact box21_new w c _
  have HX1 := hide (hX0 W1 hb01)
  have hRg0 : W0.rangeAt w.heap.size 0 (layCm.cells c) := by rw [hW0]; exact rangeY_new w w.heap.size _ _ rfl
  have HRg := hide (rangeY_same hRg0 (hb01.block w.heap.size (by omega)))
  have HXa := hide hX0
  have hZ1 : Zero7 W1 W0.heap.size := by rw [hW1]; exact zero7_new W0 _
  rw [hs0] at hZ1
  have HZ1 := hide hZ1
  have HS1 := hide hs1
  have HS0 := hide hs0
  have HB01 := hide hb01
  have HB1 := hide (hb0.trans (hb01.mono hb0.size))
  have H0 := h.box hb0 (by omega)
  have H1 := H0.box hb01 (by omega)
  rw [hs0] at H1
  have H1h := hide H1
  have Hck : Hid (Foot (fun k => a.X k ∨ ((F k ∨ k = w.heap.size) ∨ k = w.heap.size + 1)) W1 (fun V => c.ok V)) := hc.step (Below.keeps HB1.out _) (fun k hk => by
    rcases hk with hk | (hk | hk) | hk
    · exact .inl (.inl hk)
    · exact .inl (.inr hk)
    · exact .inr (by omega)
    · exact .inr (by omega))
  have HFw := hide hf
  have hnp : ¬ a.p = w.heap.size := by have := h.lt; omega
  have H0x : Hid (∀ k, a.X k → k < w.heap.size) := fun k hk => (h.xl k hk).2
  obtain ⟨x0, x1, x2, x3, x4, x5, x6, x7, x8, x9, x10, x11, x12, x13, x14, x15, x16, x17, x18, x19, x20⟩ := HX1.out
  rw [hW0] at hW1
  have H0f : Hid (∀ k, F k → k < w.heap.size) := h.fl
  clear hb0 hb01 hs0 hs1 hX0 hZ1 H0 H1 hc hf hRg0
  have hcl1 : (c.cl == 0) = false := by simp [hcl]
  rcases h.la c.cl HFw.out.cl with ⟨hf0, -⟩ | ⟨sq, mr, hf0, hl0, -⟩
  rotate_left
  · rw [hla] at hl0; cases hl0
  have hcon := pdone_any H1h.out c Hck.out HFw.out hz
  have HCon := hide hcon
  obtain ⟨mv, hmv⟩ : ∃ mv, mv = (if a.nl then none else some a.mb) := ⟨_, rfl⟩
  have hlk : ∀ W : World, W.heap[a.mb]? = W1.heap[a.mb]? → (Instr.lookup 74 (.map mv) (.int .u64 c.cl) true).run Tryz.prog W = .ok (.tuple #[.agg #[.int .u64 0, .int .i64 0, .int .u64 0, .int .u64 0, .bool false, .slice none 0 0, .slice none 0 0, .slice none 0 0], .bool false]) W := by
    intro W hW
    rw [hmv]
    cases hq : a.nl
    · have hlk := (H1h.out.mp hq).lookOk keyedU Tryz.underlying74 (zv := .agg #[.int .u64 0, .int .i64 0, .int .u64 0, .int .u64 0, .bool false, .slice none 0 0, .slice none 0 0, .slice none 0 0]) (fun W => by kernel_rfl) (keyU (show U64 c.cl from HFw.out.cl)) W hW
      rw [hf0] at hlk
      exact hlk
    · exact Maps.look_nil true keyedU Tryz.underlying74 (z := .agg #[.int .u64 0, .int .i64 0, .int .u64 0, .int .u64 0, .bool false, .slice none 0 0, .slice none 0 0, .slice none 0 0]) (by kernel_rfl) (keyU (show U64 c.cl from HFw.out.cl))
  have HLk := hide hlk
  clear h hcl hcon hlk
  go_enter Tryz.func27, Tryz.ntmps27
  go_upto_region 1 with fail
  rw [← hW1]
  clear hW1 hW0
  go_upto_region 3 with fail
  have HC4 : Hid (W1.cell? ⟨a.p, 4, none⟩ = some (.map mv)) := by
    show _ = _
    rw [hmv]
    exact H1h.out.c4
  clear hmv
  have HX0 := hide HX1.out.c0
  obtain ⟨W5, hW5⟩ : ∃ W5, W5 = (W1.alloc (.cells #[.int .u64 0, .int .i64 0, .int .u64 0, .int .u64 0, .bool false, .slice none 0 0, .slice none 0 0, .slice none 0 0] 144)).drew := ⟨_, rfl⟩
  have hb5 : Below W1.heap.size W1 W5 := by rw [hW5]; exact (new_below W1 _).drew
  have hbz : ∀ o : Obj, ∀ k, k < W1.heap.size → (W1.alloc o).drew.heap[k]? = W1.heap[k]? := fun o k hk => ((new_below W1 o).drew).block k hk
  have HBz := hide hbz
  have HB5 := hide hb5
  have HW5 := hide hW5
  have hl0 : w.heap.size < W1.heap.size := by have := HS1.out; omega
  have hlp : a.p < W1.heap.size := H1h.out.lt
  have hlm : a.mb < W1.heap.size := H1h.out.ml
  clear hb5 hbz hW5
  refine startG (fun V => V.heap[w.heap.size]? = W1.heap[w.heap.size]? ∧ (V.heap[a.p]? = W1.heap[a.p]? ∧ V.heap[a.mb]? = W1.heap[a.mb]?)) (fun i => false) (by kernel_rfl) ?_
  refine' takeG (i := 0) (v := _) rfl (by kernel_rfl) (by kernel_rfl) (by kernel_rfl) (by kernel_rfl) (fun _ _ _ h => h) (by rfl) (⟨rfl, rfl, rfl⟩) ?_ ?_; rotate_left
  · (intro V hSV; have q4 := (World.cell?_of_block (a := ⟨a.p, 4, none⟩) hSV.2.1).trans HC4.out; have q0 := (World.cell?_of_block (a := ⟨w.heap.size, 0, none⟩) hSV.1).trans HX0.out; have ql := HLk.out V hSV.2.2; go_simp; all_goals (with_reducible rfl))
  (try simp only [Act.put, List.setIfInBounds_toArray, List.set_cons_zero, List.set_cons_succ])
  refine' takeG (i := 1) (v := _) rfl (by kernel_rfl) (by kernel_rfl) (by kernel_rfl) (by kernel_rfl) (fun _ _ _ h => h) (by rfl) (⟨rfl, rfl, rfl⟩) ?_ ?_; rotate_left
  · (intro V hSV; have q4 := (World.cell?_of_block (a := ⟨a.p, 4, none⟩) hSV.2.1).trans HC4.out; have q0 := (World.cell?_of_block (a := ⟨w.heap.size, 0, none⟩) hSV.1).trans HX0.out; have ql := HLk.out V hSV.2.2; go_simp; all_goals (with_reducible rfl))
  (try simp only [Act.put, List.setIfInBounds_toArray, List.set_cons_zero, List.set_cons_succ])
  refine' takeG (i := 2) (v := _) rfl (by kernel_rfl) (by kernel_rfl) (by kernel_rfl) (by kernel_rfl) (fun _ _ _ h => h) (by rfl) (⟨rfl, rfl, rfl⟩) ?_ ?_; rotate_left
  · (intro V hSV; have q4 := (World.cell?_of_block (a := ⟨a.p, 4, none⟩) hSV.2.1).trans HC4.out; have q0 := (World.cell?_of_block (a := ⟨w.heap.size, 0, none⟩) hSV.1).trans HX0.out; have ql := HLk.out V hSV.2.2; go_simp; all_goals (with_reducible rfl))
  (try simp only [Act.put, List.setIfInBounds_toArray, List.set_cons_zero, List.set_cons_succ])
  refine' takeG (i := 3) (v := _) rfl (by kernel_rfl) (by kernel_rfl) (by kernel_rfl) (by kernel_rfl) (fun _ _ _ h => h) (by rfl) (⟨rfl, rfl, rfl⟩) ?_ ?_; rotate_left
  · (intro V hSV; have q4 := (World.cell?_of_block (a := ⟨a.p, 4, none⟩) hSV.2.1).trans HC4.out; have q0 := (World.cell?_of_block (a := ⟨w.heap.size, 0, none⟩) hSV.1).trans HX0.out; have ql := HLk.out V hSV.2.2; go_simp; all_goals (with_reducible rfl))
  (try simp only [Act.put, List.setIfInBounds_toArray, List.set_cons_zero, List.set_cons_succ])
  refine' takeG (i := 4) (v := _) rfl (by kernel_rfl) (by kernel_rfl) (by kernel_rfl) (by kernel_rfl) (fun _ _ _ h => h) (by rfl) (⟨rfl, rfl, rfl⟩) ?_ ?_; rotate_left
  · (intro V hSV; have q4 := (World.cell?_of_block (a := ⟨a.p, 4, none⟩) hSV.2.1).trans HC4.out; have q0 := (World.cell?_of_block (a := ⟨w.heap.size, 0, none⟩) hSV.1).trans HX0.out; have ql := HLk.out V hSV.2.2; go_simp; all_goals (with_reducible rfl))
  (try simp only [Act.put, List.setIfInBounds_toArray, List.set_cons_zero, List.set_cons_succ])
  refine' takeG (i := 5) (v := _) rfl (by kernel_rfl) (by kernel_rfl) (by kernel_rfl) (by kernel_rfl) (fun _ _ _ h => h) (by rfl) (⟨rfl, rfl, rfl⟩) ?_ ?_; rotate_left
  · (intro V hSV; have q4 := (World.cell?_of_block (a := ⟨a.p, 4, none⟩) hSV.2.1).trans HC4.out; have q0 := (World.cell?_of_block (a := ⟨w.heap.size, 0, none⟩) hSV.1).trans HX0.out; have ql := HLk.out V hSV.2.2; go_simp; all_goals (with_reducible rfl))
  (try simp only [Act.put, List.setIfInBounds_toArray, List.set_cons_zero, List.set_cons_succ])
  refine' takeG (i := 6) (v := _) rfl (by kernel_rfl) (by kernel_rfl) (by kernel_rfl) (by kernel_rfl) (fun _ _ _ h => h) (by rfl) (⟨rfl, rfl, rfl⟩) ?_ ?_; rotate_left
  · (intro V hSV; have q4 := (World.cell?_of_block (a := ⟨a.p, 4, none⟩) hSV.2.1).trans HC4.out; have q0 := (World.cell?_of_block (a := ⟨w.heap.size, 0, none⟩) hSV.1).trans HX0.out; have ql := HLk.out V hSV.2.2; go_simp; all_goals (with_reducible rfl))
  (try simp only [Act.put, List.setIfInBounds_toArray, List.set_cons_zero, List.set_cons_succ])
  refine' takeG (i := 7) (v := _) rfl (by kernel_rfl) (by kernel_rfl) (by kernel_rfl) (by kernel_rfl) (fun _ _ _ h => h) (by rfl) (⟨rfl, rfl, rfl⟩) ?_ ?_; rotate_left
  · (intro V hSV; have q4 := (World.cell?_of_block (a := ⟨a.p, 4, none⟩) hSV.2.1).trans HC4.out; have q0 := (World.cell?_of_block (a := ⟨w.heap.size, 0, none⟩) hSV.1).trans HX0.out; have ql := HLk.out V hSV.2.2; go_simp; all_goals (with_reducible rfl))
  (try simp only [Act.put, List.setIfInBounds_toArray, List.set_cons_zero, List.set_cons_succ])
  refine' takeG (i := 8) (v := _) rfl (by kernel_rfl) (by kernel_rfl) (by kernel_rfl) (by kernel_rfl) (fun _ _ _ h => h) (by rfl) (⟨rfl, rfl, rfl⟩) ?_ ?_; rotate_left
  · (intro V hSV; have q4 := (World.cell?_of_block (a := ⟨a.p, 4, none⟩) hSV.2.1).trans HC4.out; have q0 := (World.cell?_of_block (a := ⟨w.heap.size, 0, none⟩) hSV.1).trans HX0.out; have ql := HLk.out V hSV.2.2; go_simp; all_goals (with_reducible rfl))
  (try simp only [Act.put, List.setIfInBounds_toArray, List.set_cons_zero, List.set_cons_succ])
  refine' takeG (i := 9) (v := _) rfl (by kernel_rfl) (by kernel_rfl) (by kernel_rfl) (by kernel_rfl) (fun _ _ _ h => h) (by rfl) (⟨rfl, rfl, rfl⟩) ?_ ?_; rotate_left
  · (intro V hSV; have q4 := (World.cell?_of_block (a := ⟨a.p, 4, none⟩) hSV.2.1).trans HC4.out; have q0 := (World.cell?_of_block (a := ⟨w.heap.size, 0, none⟩) hSV.1).trans HX0.out; have ql := HLk.out V hSV.2.2; go_simp; all_goals (with_reducible rfl))
  (try simp only [Act.put, List.setIfInBounds_toArray, List.set_cons_zero, List.set_cons_succ])
  refine callE (i := 10) rfl (by kernel_rfl) (fun K hK => ?_)
  go_simp
  refine hK.out _ _ (fun _ => ⟨HBz.out _ _ hl0, HBz.out _ _ hlp, HBz.out _ _ hlm⟩) ?_
  clear hK K
  (try simp only [Act.put, List.setIfInBounds_toArray, List.set_cons_zero, List.set_cons_succ])
  have HBs := hide (fun o : Obj => HBz.out o)
  refine callE (i := 11) rfl (by kernel_rfl) (fun K hK => ?_)
  go_simp
  refine hK.out _ _ (fun _ => ⟨HBz.out _ _ hl0, HBz.out _ _ hlp, HBz.out _ _ hlm⟩) ?_
  clear hK K
  (try simp only [Act.put, List.setIfInBounds_toArray, List.set_cons_zero, List.set_cons_succ])
  refine callE (i := 12) rfl (by kernel_rfl) (fun K hK => ?_)
  go_simp
  refine hK.out _ _ (fun _ => ⟨HBz.out _ _ hl0, HBz.out _ _ hlp, HBz.out _ _ hlm⟩) ?_
  clear hK K
  (try simp only [Act.put, List.setIfInBounds_toArray, List.set_cons_zero, List.set_cons_succ])
  refine doneE (by kernel_rfl) ?_ _
  rw [← HW5.out]
  have HI5 := hide (H1h.out.keep HB5.out)
  have HRg5 := hide (rangeY_same HRg.out (HB5.out.block w.heap.size hl0))
  have HX5 := hide (Box21.same HX1.out (HB5.out.block w.heap.size hl0))
  have HZ5 := hide (HZ1.out.same (HB5.out.block (w.heap.size + 1) (by have := HS1.out; omega)))
  have hx5 : W5.cell? ⟨w.heap.size, 1, none⟩ = some (.int .u64 c.sq) := HX5.out.c1
  have hl5 := HB5.out.size
  have hcon := pdone_any HI5.out c (Hck.out.keep HB5.out) HFw.out hz
  have HCon := hide hcon
  have HFew := hide (HI5.out.i.one HFw.out).2
  have HIn := hide ((HI5.out.i.one HFw.out).1)
  clear hcon
  go_upto_region 9 with (first
    | (go_at_call 28; go_must (refine HCon.out.mono ?_); rintro e w6 ⟨a', mr, rfl, hr, hf2, hI, hst⟩; unfold MRes.v; have HR := hide hr; have HF := hide hf2; have HI := hide hI; have HSt := hide hst; clear hr hf2 hI hst)
    | (refine wp_loadY layCm _ _ Tryz.underlying50 rfl rfl (.tmp 4) rfl w.heap.size 0 c #[.int .u64 c.cl, .int .u64 c.sq, .int .i64 c.kd, .int .u64 c.tx, .int .u64 c.ts, .bool c.fl, .int .u64 c.lk.l.tx, .int .i64 c.lk.l.lv, .int .i64 c.lk.l.md, .slice c.lk.la c.lk.ln c.lk.lc, .slice c.lk.ha c.lk.hn c.lk.hc, .slice c.lo.a c.lo.n c.lo.c, .slice c.hi.a c.hi.n c.hi.c, .slice c.txs.a c.txs.n c.txs.c, .slice c.ws.a c.ws.n c.ws.c, .slice c.ks.a c.ks.n c.ks.c, .int .i64 c.tb.id, .string (strB c.tb.nm), .slice c.tb.cs.a c.tb.cs.n c.tb.cs.c, .int .i64 c.tb.ky, .slice c.tb.ix.a c.tb.ix.n c.tb.ix.c] rfl rfl HRg5.out ?_))
  obtain ⟨W7, hW7⟩ : ∃ W7, W7 = w6.alloc (.cells #[.int .i64 mr.er, .int .u64 mr.tx, .int .u64 mr.ts, .bool mr.fl, .slice mr.sa mr.sn mr.sc, .slice none 0 0, .slice mr.ta mr.tn mr.tc] 55) := ⟨_, rfl⟩
  rw [← hW7]
  have hb7 : Below w6.heap.size w6 W7 := by rw [hW7]; exact new_below _ _
  have hs7 : W7.heap.size = w6.heap.size + 1 := by rw [hW7]; simp
  have HBx7 : Hid (Box7 W7 w6.heap.size mr) := by
    show Box7 _ _ _
    rw [hW7]
    exact box7_new w6 mr _
  have hl6 : W5.heap.size ≤ w6.heap.size := HSt.out.kp.size
  have hnx0 : ¬ a.X w.heap.size := fun e => by have := H0x.out _ e; omega
  have hnx1 : ¬ a.X (w.heap.size + 1) := fun e => by have := H0x.out _ e; omega
  have hX7 : W7.heap[w.heap.size]? = W5.heap[w.heap.size]? := (hb7.block _ (by omega)).trans (HSt.out.kp.block _ (by omega) hnx0)
  have HX7 := hide (Box21.same HX5.out hX7)
  have hZ7 : W7.heap[w.heap.size + 1]? = W5.heap[w.heap.size + 1]? := (hb7.block _ (by have := HS1.out; omega)).trans (HSt.out.kp.block _ (by have := HS1.out; omega) hnx1)
  have HZ7 := hide (HZ5.out.same hZ7)
  have HI7 := hide (HI.out.keep hb7)
  have HSt7 : Hid (MStep W1 W7 a a') := ((MStep.keep a HB5.out).trans HSt.out).trans (MStep.keep a' hb7)
  have HF7 := hide (HF.out.keep hb7)
  have HB7 := hide hb7
  have hsp : a.p < W7.heap.size := by omega
  have HPa := hide HSt.out.p
  have HL7 : Hid (w.heap.size + 1 < W7.heap.size ∧ w6.heap.size < W7.heap.size) := ⟨by have := HS1.out; omega, by omega⟩
  clear hW7 hb7 hX7 hZ7 hx5
  cases hnl : a'.nl
  · have hq : ∀ W (r : Option Nat), (binOp .eql 74 (.map r) (.map none)).run Tryz.prog W = .ok (.bool r.isNone) W := fun W r => run_eql_map_nil W 74 _ _ r Tryz.underlying74
    have hqs := fun W => hq W (some a'.mb)
    have hqn : (some a'.mb : Option Nat).isNone = false := rfl
    have c47 : W7.cell? ⟨a.p, 4, none⟩ = some (.map (some a'.mb)) := by
      have h4 := HI7.out.c4
      rw [hnl] at h4
      rw [← HPa.out]
      exact h4
    rw [hqn] at hqs
    clear hq hqn
    have HNl := hide hnl
    have HMr : Hid (w6.heap.size ≠ a'.mb) := by show _ ≠ _; have := HI.out.ml; omega
    clear hnl
    go_upto_region 11 with fail
    clear c47 hqs
    have HC47 : Hid (W7.cell? ⟨a.p, 4, none⟩ = some (.map (some a'.mb))) := by
      show _ = _
      have h4 := HI7.out.c4
      rw [HNl.out] at h4
      rw [← HPa.out]
      exact h4
    have HCy := hide (pcopyR_any mr W7.drew (HF7.out.now.keep (Below.refl _ W7).drew) (by rw [HR.out]; exact HFew.out))
    have HV : Hid (∀ V : World, (V.heap[w.heap.size]? = W7.heap[w.heap.size]? ∧ (V.heap[a.p]? = W7.heap[a.p]? ∧ V.heap[w6.heap.size]? = W7.heap[w6.heap.size]?)) → V.cell? ⟨a.p, 4, none⟩ = some (.map (some a'.mb)) ∧ V.cell? ⟨w.heap.size, 0, none⟩ = some (.int .u64 c.cl) ∧ V.cell? ⟨w.heap.size, 1, none⟩ = some (.int .u64 c.sq) ∧ V.cell? ⟨w6.heap.size, 0, none⟩ = some (.int .i64 mr.er) ∧ V.cell? ⟨w6.heap.size, 1, none⟩ = some (.int .u64 mr.tx) ∧ V.cell? ⟨w6.heap.size, 2, none⟩ = some (.int .u64 mr.ts) ∧ V.cell? ⟨w6.heap.size, 3, none⟩ = some (.bool mr.fl) ∧ V.cell? ⟨w6.heap.size, 4, none⟩ = some (.slice mr.sa mr.sn mr.sc) ∧ V.cell? ⟨w6.heap.size, 5, none⟩ = some (.slice none 0 0) ∧ V.cell? ⟨w6.heap.size, 6, none⟩ = some (.slice mr.ta mr.tn mr.tc)) := fun V hV => by
      have h1 := Box21.same HX7.out hV.1
      have h2 := HBx7.out.same hV.2.2
      exact ⟨(World.cell?_of_block (a := ⟨a.p, 4, none⟩) hV.2.1).trans HC47.out, h1.c0, h1.c1, h2.c0, h2.c1, h2.c2, h2.c3, h2.c4, h2.c5, h2.c6⟩
    refine startG (fun V => V.heap[w.heap.size]? = W7.heap[w.heap.size]? ∧ (V.heap[a.p]? = W7.heap[a.p]? ∧ V.heap[w6.heap.size]? = W7.heap[w6.heap.size]?)) (fun i => i == 11) (by kernel_rfl) ?_
    refine' takeG (i := 0) (v := _) rfl (by kernel_rfl) (by kernel_rfl) (by kernel_rfl) (by kernel_rfl) (fun _ _ _ h => h) (by rfl) (⟨rfl, rfl, rfl⟩) ?_ ?_; rotate_left
    · (intro V hSV; obtain ⟨q4, q0, q1, r0, r1, r2, r3, r4, r5, r6⟩ := HV.out V hSV; go_simp; all_goals (with_reducible rfl))
    (try simp only [Act.put, List.setIfInBounds_toArray, List.set_cons_zero, List.set_cons_succ])
    refine' takeG (i := 1) (v := _) rfl (by kernel_rfl) (by kernel_rfl) (by kernel_rfl) (by kernel_rfl) (fun _ _ _ h => h) (by rfl) (⟨rfl, rfl, rfl⟩) ?_ ?_; rotate_left
    · (intro V hSV; obtain ⟨q4, q0, q1, r0, r1, r2, r3, r4, r5, r6⟩ := HV.out V hSV; go_simp; all_goals (with_reducible rfl))
    (try simp only [Act.put, List.setIfInBounds_toArray, List.set_cons_zero, List.set_cons_succ])
    refine' takeG (i := 2) (v := _) rfl (by kernel_rfl) (by kernel_rfl) (by kernel_rfl) (by kernel_rfl) (fun _ _ _ h => h) (by rfl) (⟨rfl, rfl, rfl⟩) ?_ ?_; rotate_left
    · (intro V hSV; obtain ⟨q4, q0, q1, r0, r1, r2, r3, r4, r5, r6⟩ := HV.out V hSV; go_simp; all_goals (with_reducible rfl))
    (try simp only [Act.put, List.setIfInBounds_toArray, List.set_cons_zero, List.set_cons_succ])
    refine' takeG (i := 3) (v := _) rfl (by kernel_rfl) (by kernel_rfl) (by kernel_rfl) (by kernel_rfl) (fun _ _ _ h => h) (by rfl) (⟨rfl, rfl, rfl⟩) ?_ ?_; rotate_left
    · (intro V hSV; obtain ⟨q4, q0, q1, r0, r1, r2, r3, r4, r5, r6⟩ := HV.out V hSV; go_simp; all_goals (with_reducible rfl))
    (try simp only [Act.put, List.setIfInBounds_toArray, List.set_cons_zero, List.set_cons_succ])
    refine' takeG (i := 4) (v := _) rfl (by kernel_rfl) (by kernel_rfl) (by kernel_rfl) (by kernel_rfl) (fun _ _ _ h => h) (by rfl) (⟨rfl, rfl, rfl⟩) ?_ ?_; rotate_left
    · (intro V hSV; obtain ⟨q4, q0, q1, r0, r1, r2, r3, r4, r5, r6⟩ := HV.out V hSV; go_simp; all_goals (with_reducible rfl))
    (try simp only [Act.put, List.setIfInBounds_toArray, List.set_cons_zero, List.set_cons_succ])
    refine' takeG (i := 5) (v := _) rfl (by kernel_rfl) (by kernel_rfl) (by kernel_rfl) (by kernel_rfl) (fun _ _ _ h => h) (by rfl) (⟨rfl, rfl, rfl⟩) ?_ ?_; rotate_left
    · (intro V hSV; obtain ⟨q4, q0, q1, r0, r1, r2, r3, r4, r5, r6⟩ := HV.out V hSV; go_simp; all_goals (with_reducible rfl))
    (try simp only [Act.put, List.setIfInBounds_toArray, List.set_cons_zero, List.set_cons_succ])
    refine' takeG (i := 6) (v := _) rfl (by kernel_rfl) (by kernel_rfl) (by kernel_rfl) (by kernel_rfl) (fun _ _ _ h => h) (by rfl) (⟨rfl, rfl, rfl⟩) ?_ ?_; rotate_left
    · (intro V hSV; obtain ⟨q4, q0, q1, r0, r1, r2, r3, r4, r5, r6⟩ := HV.out V hSV; go_simp; all_goals (with_reducible rfl))
    (try simp only [Act.put, List.setIfInBounds_toArray, List.set_cons_zero, List.set_cons_succ])
    refine' takeG (i := 7) (v := _) rfl (by kernel_rfl) (by kernel_rfl) (by kernel_rfl) (by kernel_rfl) (fun _ _ _ h => h) (by rfl) (⟨rfl, rfl, rfl⟩) ?_ ?_; rotate_left
    · (intro V hSV; obtain ⟨q4, q0, q1, r0, r1, r2, r3, r4, r5, r6⟩ := HV.out V hSV; go_simp; all_goals (with_reducible rfl))
    (try simp only [Act.put, List.setIfInBounds_toArray, List.set_cons_zero, List.set_cons_succ])
    refine' takeG (i := 8) (v := _) rfl (by kernel_rfl) (by kernel_rfl) (by kernel_rfl) (by kernel_rfl) (fun _ _ _ h => h) (by rfl) (⟨rfl, rfl, rfl⟩) ?_ ?_; rotate_left
    · (intro V hSV; obtain ⟨q4, q0, q1, r0, r1, r2, r3, r4, r5, r6⟩ := HV.out V hSV; go_simp; all_goals (with_reducible rfl))
    (try simp only [Act.put, List.setIfInBounds_toArray, List.set_cons_zero, List.set_cons_succ])
    refine callE (i := 9) rfl (by kernel_rfl) (fun K hK => ?_)
    go_simp
    refine HCy.out.mono ?_
    rintro e w8 ⟨y, rfl, hyr, hyf, hb8⟩
    unfold MRes.v
    have hS8 : w8.heap[w.heap.size]? = W7.heap[w.heap.size]? ∧ (w8.heap[a.p]? = W7.heap[a.p]? ∧ w8.heap[w6.heap.size]? = W7.heap[w6.heap.size]?) := ⟨hb8.block _ (by have := HL7.out.1; show w.heap.size < W7.heap.size; omega), hb8.block _ hsp, hb8.block _ HL7.out.2⟩
    refine hK.out _ _ (fun _ => hS8) ?_
    have HYr := hide hyr
    have HYf := hide hyf
    have HB8 := hide (below_undrew hb8)
    clear hK K hyr hyf hb8
    (try simp only [Act.put, List.setIfInBounds_toArray, List.set_cons_zero, List.set_cons_succ])
    refine' takeG (i := 10) (v := _) rfl (by kernel_rfl) (by kernel_rfl) (by kernel_rfl) (by kernel_rfl) (fun _ _ _ h => h) (by rfl) (hS8) ?_ ?_; rotate_left
    · (intro V hSV; go_simp; all_goals (with_reducible rfl))
    (try simp only [Act.put, List.setIfInBounds_toArray, List.set_cons_zero, List.set_cons_succ])
    obtain ⟨w9, hput, hmv, hgr⟩ := (HI7.out.mp HNl.out |>.keep HB8.out).put (by omega) keyedU Tryz.underlying74 (keyU (show U64 c.cl from HFw.out.cl)) (ansV c.sq y)
    have hput' : (Instr.mapUpdate 74 (.map (some a'.mb)) (.int .u64 c.cl) (.agg #[.int .u64 c.sq, .int .i64 y.er, .int .u64 y.tx, .int .u64 y.ts, .bool y.fl, .slice y.sa y.sn y.sc, .slice none 0 0, .slice y.ta y.tn y.tc])).run Tryz.prog w8 = .ok () w9 := hput
    have HMv := hide hmv
    have HGr := hide hgr
    clear hput hmv hgr
    refine callE (i := 11) rfl (by kernel_rfl) (fun K hK => ?_)
    go_simp
    refine hK.out _ _ (fun h => by cases h) ?_
    clear hK K hput'
    (try simp only [Act.put, List.setIfInBounds_toArray, List.set_cons_zero, List.set_cons_succ])
    refine doneE (by kernel_rfl) ?_ _
    -- the machine with its note
    have hI8 := HI7.out.keep HB8.out
    have hk9 : Keeps (fun k => k = a'.mb) w8 w9 := ⟨HGr.out.os, HGr.out.tape, HGr.out.output, HGr.out.size, fun k hk hn => HGr.out.block k hk (fun e => hn (Option.some.inj e))⟩
    have hxl : ∀ k, a'.X k ∨ ((F k ∨ k = w.heap.size) ∨ k = w.heap.size + 1) → k < W7.heap.size := fun k hk => by
      rcases hk with hk | (hk | hk) | hk
      · exact (HI7.out.xl k hk).2
      · have h1 := H0f.out k hk; have h2 := HL7.out.1; omega
      · have h2 := HL7.out.1; omega
      · have h2 := HL7.out.1; omega
    have hny : Foot (fun k => a'.X k ∨ ((F k ∨ k = w.heap.size) ∨ k = w.heap.size + 1)) w9 (fun V => y.ok V) := (HYf.out.step (Keeps.wider hk9 (fun k hk => by have := HI7.out.ml; have e : k = a'.mb := hk; show k < W7.heap.size; omega)) (fun k hk => .inl hk)).more (fun k hk => .inl (hxl k hk))
    have hl9 : LaIs (fun k => a'.X k ∨ ((F k ∨ k = w.heap.size) ∨ k = w.heap.size + 1)) w9 (setF a'.f (.int .u64 c.cl) (some (ansV c.sq y))) (noteM c.c (oneM S c.c)).2.la := by
      intro k hk
      by_cases e : k = c.cl
      · subst e
        refine .inr ⟨c.sq, y, setF_same _ _ _, ?_, hny⟩
        show (if c.cl = c.c.cl then some (c.c.sq, (oneM S c.c).1) else _) = _
        rw [if_pos (show c.cl = c.c.cl from rfl), HYr.out, HR.out]
        rfl
      · have h2 : (noteM c.c (oneM S c.c)).2.la k = (oneM S c.c).2.la k := by
          show (if k = c.c.cl then _ else _) = _
          rw [if_neg (show ¬ k = c.c.cl from e)]
        rw [setF_other _ _ (fun e2 => e (by cases e2; rfl)), h2]
        rcases hI8.la k hk with h3 | ⟨sq', mr', h3, h4, h5⟩
        · exact .inl h3
        · exact .inr ⟨sq', mr', h3, h4, h5.step (Keeps.wider hk9 (fun k hk => .inl (.inl (.inr (.inr (.inr hk)))))) (fun k hk => .inl hk)⟩
    have hi9 : MacI (z + 1 + 1) { (oneM S c.c).2 with la := (noteM c.c (oneM S c.c)).2.la } := (MacI.noted (c := c.c) (x := oneM S c.c) (HIn.out.mono (Nat.le_succ _)) HFew.out HFw.out.sq).1
    obtain ⟨a9, hI9, hst9⟩ := hI8.noted HNl.out hk9 HMv.out hl9 hi9
    have hst : MStep W1 w9 a a9 := HSt7.out.trans ((MStep.keep a' HB8.out).trans hst9)
    have hf9 : Foot (fun k => a9.X k ∨ ((F k ∨ k = w.heap.size) ∨ k = w.heap.size + 1)) w9 (fun V => mr.ok V) := hst9.foot (HF7.out.keep HB8.out)
    have hr9 : mr.r = X.1 := by rw [← hX]; exact HR.out
    have hI9' : IsMm (fun k => (F k ∨ k = w.heap.size) ∨ k = w.heap.size + 1) base w9 a9 (z + 2) X.2 := by rw [← hX]; exact hI9
    have HR9 := hide hr9
    have HF9 := hide hf9
    have HI9 := hide hI9'
    have HSt9 := hide hst
    have h9b : ∀ k, k < W7.heap.size → k ≠ a'.mb → w9.heap[k]? = W7.heap[k]? := fun k hk hn => (hk9.block k (Nat.lt_of_lt_of_le hk HB8.out.size) hn).trans (HB8.out.block k hk)
    have hmx : a'.X a'.mb := .inl (.inr (.inr (.inr rfl)))
    have hm1 : w.heap.size + 1 ≠ a'.mb := fun e => HI7.out.fx _ (show a'.X a'.mb from hmx) (.inr e.symm)
    obtain ⟨r0, r1, r2, r3, r4, r5, r6⟩ := HBx7.out.same (h9b w6.heap.size HL7.out.2 HMr.out)
    have hz9 := HZ7.out.same (h9b (w.heap.size + 1) HL7.out.1 hm1)
    have HZ9 := hide hz9
    obtain ⟨z0, z1, z2, z3, z4, z5, z6, zf⟩ := hz9
    have g0 := zf 0
    have g1 := zf 1
    have g2 := zf 2
    have g3 := zf 3
    have g4 := zf 4
    have g5 := zf 5
    have g6 := zf 6
    clear zf hI8 hk9 hxl hny hl9 hi9 hI9 hst9 hst hf9 hr9 hI9' h9b hmx hm1
    go_wp2
    change bodyPost _ _ _ _ _ (ResAt w9 (w.heap.size + 1) mr)
    have hend := rs_pass HB1.out HS1.out HR9.out HF9.out HI9.out HSt9.out
    clear r0 r1 r2 r3 r4 r5 r6
    obtain ⟨r0, r1, r2, r3, r4, r5, r6⟩ := resAt_box HZ9.out mr
    generalize ResAt w9 (w.heap.size + 1) mr = W at *
    exact bodyPost_ret (v := mr.v) (by simp [results, Tryz.results27, go_sem, MRes.v, r0, r1, r2, r3, r4, r5, r6]) rfl hend
  · have hq : ∀ W (r : Option Nat), (binOp .eql 74 (.map r) (.map none)).run Tryz.prog W = .ok (.bool r.isNone) W := fun W r => run_eql_map_nil W 74 _ _ r Tryz.underlying74
    have hqs := fun W => hq W none
    have hqn : (none : Option Nat).isNone = true := rfl
    rw [hqn] at hqs
    clear hq hqn
    have hc4 : W7.cell? ⟨a.p, 4, none⟩ = some (.map none) := by
      have h4 := HI7.out.c4
      rw [hnl] at h4
      rw [← HPa.out]
      exact h4
    have f4 : W7.frozen? ⟨a.p, 4, none⟩ = false := by
      have h4 := HI7.out.fz 4
      rwa [HPa.out] at h4
    obtain ⟨M, hM⟩ : ∃ M, M = W7.alloc (.map #[] 0) := ⟨_, rfl⟩
    have hbM : Below W7.heap.size W7 M := by rw [hM]; exact new_below _ _
    have hsM : M.heap.size = W7.heap.size + 1 := by rw [hM]; simp
    have hmM : MapV M 31 (w6.heap.size + 1) 0 (fun _ => none) := by rw [hM]; exact mapV_new W7 _ _ rfl _ hs7
    have c4 := (hbM.cell (p := ⟨a.p, 4, none⟩) hsp).trans hc4
    have g4 := (hbM.frozen (p := ⟨a.p, 4, none⟩) hsp).trans f4
    have hmk := @run_makeMap Tryz.prog
    have c4o := fun o => ((new_below W7 o).cell (p := ⟨a.p, 4, none⟩) hsp).trans hc4
    have g4o := fun o => ((new_below W7 o).frozen (p := ⟨a.p, 4, none⟩) hsp).trans f4
    go_upto_region 11 with fail
    rw [← hM]
    have hpM : a.p < w6.heap.size := by have := HI.out.lt; have h2 := HPa.out; omega
    obtain ⟨V7, hV7⟩ : ∃ V7, V7 = M.setCell ⟨a.p, 4, none⟩ (.map (some (w6.heap.size + 1))) := ⟨_, rfl⟩
    rw [← hV7]
    have hkV : Keeps (fun k => k = a.p) M V7 := by rw [hV7]; exact keepsY_cell _
    have hk7 : Keeps (fun k => k = a.p) W7 V7 := kpThen (Below.keeps hbM _) (fun k hk => .inl hk) hkV
    obtain ⟨b', hb1, hb2, hb3, hb4, hb5⟩ := HI7.out.mapped (w2 := V7) (nb := w6.heap.size + 1) hnl (by rw [HPa.out]; exact hk7) (by rw [HPa.out, hV7]; exact World.cell?_setCell_same' _ _ _ (by rw [c4]; rfl)) (fun j hj => by rw [HPa.out, hV7, cell_offY (fun e => hj e.symm)]; exact hbM.cell (p := ⟨a.p, j, none⟩) hsp) (fun j => by rw [HPa.out, hV7, World.frozen?_setCell]; exact (hbM.frozen (p := ⟨a.p, j, none⟩) hsp).trans (by have h4 := HI7.out.fz j; rwa [HPa.out] at h4)) (by omega) ((hmM.same (hkV.block _ (by omega) (by show ¬ w6.heap.size + 1 = a.p; omega))).more (Nat.zero_le _)) (by have e : V7.heap.size = M.heap.size := (by rw [hV7]; simp [World.setCell]); omega)
    have hq7 := hk7.size
    have HBx8q := hide (HBx7.out.same (hk7.block _ HL7.out.2 (by show ¬ w6.heap.size = a.p; have := HI5.out.lt; omega)))
    have HX8q := hide (Box21.same HX7.out (hk7.block w.heap.size (by have := HL7.out.1; omega) (fun e => hnp e.symm)))
    have HZ8q := hide (HZ7.out.same (hk7.block (w.heap.size + 1) HL7.out.1 (by show ¬ w.heap.size + 1 = a.p; have := H1h.out.fx a.p (.inl (.inl rfl)); exact fun e => this (.inr e.symm))))
    have HSt8q : Hid (MStep W1 V7 a b') := HSt7.out.trans hb5
    have HF8q := hide (hb5.foot HF7.out)
    have HMr : Hid (w6.heap.size ≠ b'.mb) := by show _ ≠ _; rw [hb2]; have := HL7.out.2; omega
    have HL8q : Hid (w.heap.size + 1 < V7.heap.size ∧ w6.heap.size < V7.heap.size) := ⟨by have := HL7.out.1; omega, by have := HL7.out.2; omega⟩
    have HPb : Hid (b'.p = a.p) := hb5.p.trans HPa.out
    have HNl := hide hb1
    have HI8q := hide hb4
    have hsp8 : a.p < V7.heap.size := by omega
    clear HPa HI7 HBx7 HX7 HZ7 HSt7 HF7 HL7 hb1 hb2 hb3 hb4 hb5 hV7 hkV hk7 hq7 hc4 f4 c4 g4 c4o g4o hM hbM hsM hmM hnl hmk hsp hqs hpM
    have HC47 : Hid (V7.cell? ⟨a.p, 4, none⟩ = some (.map (some b'.mb))) := by
      show _ = _
      have h4 := HI8q.out.c4
      rw [HNl.out] at h4
      rw [← HPb.out]
      exact h4
    have HCy := hide (pcopyR_any mr V7.drew (HF8q.out.now.keep (Below.refl _ V7).drew) (by rw [HR.out]; exact HFew.out))
    have HV : Hid (∀ V : World, (V.heap[w.heap.size]? = V7.heap[w.heap.size]? ∧ (V.heap[a.p]? = V7.heap[a.p]? ∧ V.heap[w6.heap.size]? = V7.heap[w6.heap.size]?)) → V.cell? ⟨a.p, 4, none⟩ = some (.map (some b'.mb)) ∧ V.cell? ⟨w.heap.size, 0, none⟩ = some (.int .u64 c.cl) ∧ V.cell? ⟨w.heap.size, 1, none⟩ = some (.int .u64 c.sq) ∧ V.cell? ⟨w6.heap.size, 0, none⟩ = some (.int .i64 mr.er) ∧ V.cell? ⟨w6.heap.size, 1, none⟩ = some (.int .u64 mr.tx) ∧ V.cell? ⟨w6.heap.size, 2, none⟩ = some (.int .u64 mr.ts) ∧ V.cell? ⟨w6.heap.size, 3, none⟩ = some (.bool mr.fl) ∧ V.cell? ⟨w6.heap.size, 4, none⟩ = some (.slice mr.sa mr.sn mr.sc) ∧ V.cell? ⟨w6.heap.size, 5, none⟩ = some (.slice none 0 0) ∧ V.cell? ⟨w6.heap.size, 6, none⟩ = some (.slice mr.ta mr.tn mr.tc)) := fun V hV => by
      have h1 := Box21.same HX8q.out hV.1
      have h2 := HBx8q.out.same hV.2.2
      exact ⟨(World.cell?_of_block (a := ⟨a.p, 4, none⟩) hV.2.1).trans HC47.out, h1.c0, h1.c1, h2.c0, h2.c1, h2.c2, h2.c3, h2.c4, h2.c5, h2.c6⟩
    refine startG (fun V => V.heap[w.heap.size]? = V7.heap[w.heap.size]? ∧ (V.heap[a.p]? = V7.heap[a.p]? ∧ V.heap[w6.heap.size]? = V7.heap[w6.heap.size]?)) (fun i => i == 11) (by kernel_rfl) ?_
    refine' takeG (i := 0) (v := _) rfl (by kernel_rfl) (by kernel_rfl) (by kernel_rfl) (by kernel_rfl) (fun _ _ _ h => h) (by rfl) (⟨rfl, rfl, rfl⟩) ?_ ?_; rotate_left
    · (intro V hSV; obtain ⟨q4, q0, q1, r0, r1, r2, r3, r4, r5, r6⟩ := HV.out V hSV; go_simp; all_goals (with_reducible rfl))
    (try simp only [Act.put, List.setIfInBounds_toArray, List.set_cons_zero, List.set_cons_succ])
    refine' takeG (i := 1) (v := _) rfl (by kernel_rfl) (by kernel_rfl) (by kernel_rfl) (by kernel_rfl) (fun _ _ _ h => h) (by rfl) (⟨rfl, rfl, rfl⟩) ?_ ?_; rotate_left
    · (intro V hSV; obtain ⟨q4, q0, q1, r0, r1, r2, r3, r4, r5, r6⟩ := HV.out V hSV; go_simp; all_goals (with_reducible rfl))
    (try simp only [Act.put, List.setIfInBounds_toArray, List.set_cons_zero, List.set_cons_succ])
    refine' takeG (i := 2) (v := _) rfl (by kernel_rfl) (by kernel_rfl) (by kernel_rfl) (by kernel_rfl) (fun _ _ _ h => h) (by rfl) (⟨rfl, rfl, rfl⟩) ?_ ?_; rotate_left
    · (intro V hSV; obtain ⟨q4, q0, q1, r0, r1, r2, r3, r4, r5, r6⟩ := HV.out V hSV; go_simp; all_goals (with_reducible rfl))
    (try simp only [Act.put, List.setIfInBounds_toArray, List.set_cons_zero, List.set_cons_succ])
    refine' takeG (i := 3) (v := _) rfl (by kernel_rfl) (by kernel_rfl) (by kernel_rfl) (by kernel_rfl) (fun _ _ _ h => h) (by rfl) (⟨rfl, rfl, rfl⟩) ?_ ?_; rotate_left
    · (intro V hSV; obtain ⟨q4, q0, q1, r0, r1, r2, r3, r4, r5, r6⟩ := HV.out V hSV; go_simp; all_goals (with_reducible rfl))
    (try simp only [Act.put, List.setIfInBounds_toArray, List.set_cons_zero, List.set_cons_succ])
    refine' takeG (i := 4) (v := _) rfl (by kernel_rfl) (by kernel_rfl) (by kernel_rfl) (by kernel_rfl) (fun _ _ _ h => h) (by rfl) (⟨rfl, rfl, rfl⟩) ?_ ?_; rotate_left
    · (intro V hSV; obtain ⟨q4, q0, q1, r0, r1, r2, r3, r4, r5, r6⟩ := HV.out V hSV; go_simp; all_goals (with_reducible rfl))
    (try simp only [Act.put, List.setIfInBounds_toArray, List.set_cons_zero, List.set_cons_succ])
    refine' takeG (i := 5) (v := _) rfl (by kernel_rfl) (by kernel_rfl) (by kernel_rfl) (by kernel_rfl) (fun _ _ _ h => h) (by rfl) (⟨rfl, rfl, rfl⟩) ?_ ?_; rotate_left
    · (intro V hSV; obtain ⟨q4, q0, q1, r0, r1, r2, r3, r4, r5, r6⟩ := HV.out V hSV; go_simp; all_goals (with_reducible rfl))
    (try simp only [Act.put, List.setIfInBounds_toArray, List.set_cons_zero, List.set_cons_succ])
    refine' takeG (i := 6) (v := _) rfl (by kernel_rfl) (by kernel_rfl) (by kernel_rfl) (by kernel_rfl) (fun _ _ _ h => h) (by rfl) (⟨rfl, rfl, rfl⟩) ?_ ?_; rotate_left
    · (intro V hSV; obtain ⟨q4, q0, q1, r0, r1, r2, r3, r4, r5, r6⟩ := HV.out V hSV; go_simp; all_goals (with_reducible rfl))
    (try simp only [Act.put, List.setIfInBounds_toArray, List.set_cons_zero, List.set_cons_succ])
    refine' takeG (i := 7) (v := _) rfl (by kernel_rfl) (by kernel_rfl) (by kernel_rfl) (by kernel_rfl) (fun _ _ _ h => h) (by rfl) (⟨rfl, rfl, rfl⟩) ?_ ?_; rotate_left
    · (intro V hSV; obtain ⟨q4, q0, q1, r0, r1, r2, r3, r4, r5, r6⟩ := HV.out V hSV; go_simp; all_goals (with_reducible rfl))
    (try simp only [Act.put, List.setIfInBounds_toArray, List.set_cons_zero, List.set_cons_succ])
    refine' takeG (i := 8) (v := _) rfl (by kernel_rfl) (by kernel_rfl) (by kernel_rfl) (by kernel_rfl) (fun _ _ _ h => h) (by rfl) (⟨rfl, rfl, rfl⟩) ?_ ?_; rotate_left
    · (intro V hSV; obtain ⟨q4, q0, q1, r0, r1, r2, r3, r4, r5, r6⟩ := HV.out V hSV; go_simp; all_goals (with_reducible rfl))
    (try simp only [Act.put, List.setIfInBounds_toArray, List.set_cons_zero, List.set_cons_succ])
    refine callE (i := 9) rfl (by kernel_rfl) (fun K hK => ?_)
    go_simp
    refine HCy.out.mono ?_
    rintro e w8 ⟨y, rfl, hyr, hyf, hb8⟩
    unfold MRes.v
    have hS8 : w8.heap[w.heap.size]? = V7.heap[w.heap.size]? ∧ (w8.heap[a.p]? = V7.heap[a.p]? ∧ w8.heap[w6.heap.size]? = V7.heap[w6.heap.size]?) := ⟨hb8.block _ (by have := HL8q.out.1; show w.heap.size < V7.heap.size; omega), hb8.block _ hsp8, hb8.block _ HL8q.out.2⟩
    refine hK.out _ _ (fun _ => hS8) ?_
    have HYr := hide hyr
    have HYf := hide hyf
    have HB8 := hide (below_undrew hb8)
    clear hK K hyr hyf hb8
    (try simp only [Act.put, List.setIfInBounds_toArray, List.set_cons_zero, List.set_cons_succ])
    refine' takeG (i := 10) (v := _) rfl (by kernel_rfl) (by kernel_rfl) (by kernel_rfl) (by kernel_rfl) (fun _ _ _ h => h) (by rfl) (hS8) ?_ ?_; rotate_left
    · (intro V hSV; go_simp; all_goals (with_reducible rfl))
    (try simp only [Act.put, List.setIfInBounds_toArray, List.set_cons_zero, List.set_cons_succ])
    obtain ⟨w9, hput, hmv, hgr⟩ := (HI8q.out.mp HNl.out |>.keep HB8.out).put (by omega) keyedU Tryz.underlying74 (keyU (show U64 c.cl from HFw.out.cl)) (ansV c.sq y)
    have hput' : (Instr.mapUpdate 74 (.map (some b'.mb)) (.int .u64 c.cl) (.agg #[.int .u64 c.sq, .int .i64 y.er, .int .u64 y.tx, .int .u64 y.ts, .bool y.fl, .slice y.sa y.sn y.sc, .slice none 0 0, .slice y.ta y.tn y.tc])).run Tryz.prog w8 = .ok () w9 := hput
    have HMv := hide hmv
    have HGr := hide hgr
    clear hput hmv hgr
    refine callE (i := 11) rfl (by kernel_rfl) (fun K hK => ?_)
    go_simp
    refine hK.out _ _ (fun h => by cases h) ?_
    clear hK K hput'
    (try simp only [Act.put, List.setIfInBounds_toArray, List.set_cons_zero, List.set_cons_succ])
    refine doneE (by kernel_rfl) ?_ _
    -- the machine with its note
    have hI8 := HI8q.out.keep HB8.out
    have hk9 : Keeps (fun k => k = b'.mb) w8 w9 := ⟨HGr.out.os, HGr.out.tape, HGr.out.output, HGr.out.size, fun k hk hn => HGr.out.block k hk (fun e => hn (Option.some.inj e))⟩
    have hxl : ∀ k, b'.X k ∨ ((F k ∨ k = w.heap.size) ∨ k = w.heap.size + 1) → k < V7.heap.size := fun k hk => by
      rcases hk with hk | (hk | hk) | hk
      · exact (HI8q.out.xl k hk).2
      · have h1 := H0f.out k hk; have h2 := HL8q.out.1; omega
      · have h2 := HL8q.out.1; omega
      · have h2 := HL8q.out.1; omega
    have hny : Foot (fun k => b'.X k ∨ ((F k ∨ k = w.heap.size) ∨ k = w.heap.size + 1)) w9 (fun V => y.ok V) := (HYf.out.step (Keeps.wider hk9 (fun k hk => by have := HI8q.out.ml; have e : k = b'.mb := hk; show k < V7.heap.size; omega)) (fun k hk => .inl hk)).more (fun k hk => .inl (hxl k hk))
    have hl9 : LaIs (fun k => b'.X k ∨ ((F k ∨ k = w.heap.size) ∨ k = w.heap.size + 1)) w9 (setF b'.f (.int .u64 c.cl) (some (ansV c.sq y))) (noteM c.c (oneM S c.c)).2.la := by
      intro k hk
      by_cases e : k = c.cl
      · subst e
        refine .inr ⟨c.sq, y, setF_same _ _ _, ?_, hny⟩
        show (if c.cl = c.c.cl then some (c.c.sq, (oneM S c.c).1) else _) = _
        rw [if_pos (show c.cl = c.c.cl from rfl), HYr.out, HR.out]
        rfl
      · have h2 : (noteM c.c (oneM S c.c)).2.la k = (oneM S c.c).2.la k := by
          show (if k = c.c.cl then _ else _) = _
          rw [if_neg (show ¬ k = c.c.cl from e)]
        rw [setF_other _ _ (fun e2 => e (by cases e2; rfl)), h2]
        rcases hI8.la k hk with h3 | ⟨sq', mr', h3, h4, h5⟩
        · exact .inl h3
        · exact .inr ⟨sq', mr', h3, h4, h5.step (Keeps.wider hk9 (fun k hk => .inl (.inl (.inr (.inr (.inr hk)))))) (fun k hk => .inl hk)⟩
    have hi9 : MacI (z + 1 + 1) { (oneM S c.c).2 with la := (noteM c.c (oneM S c.c)).2.la } := (MacI.noted (c := c.c) (x := oneM S c.c) (HIn.out.mono (Nat.le_succ _)) HFew.out HFw.out.sq).1
    obtain ⟨a9, hI9, hst9⟩ := hI8.noted HNl.out hk9 HMv.out hl9 hi9
    have hst : MStep W1 w9 a a9 := HSt8q.out.trans ((MStep.keep b' HB8.out).trans hst9)
    have hf9 : Foot (fun k => a9.X k ∨ ((F k ∨ k = w.heap.size) ∨ k = w.heap.size + 1)) w9 (fun V => mr.ok V) := hst9.foot (HF8q.out.keep HB8.out)
    have hr9 : mr.r = X.1 := by rw [← hX]; exact HR.out
    have hI9' : IsMm (fun k => (F k ∨ k = w.heap.size) ∨ k = w.heap.size + 1) base w9 a9 (z + 2) X.2 := by rw [← hX]; exact hI9
    have HR9 := hide hr9
    have HF9 := hide hf9
    have HI9 := hide hI9'
    have HSt9 := hide hst
    have h9b : ∀ k, k < V7.heap.size → k ≠ b'.mb → w9.heap[k]? = V7.heap[k]? := fun k hk hn => (hk9.block k (Nat.lt_of_lt_of_le hk HB8.out.size) hn).trans (HB8.out.block k hk)
    have hmx : b'.X b'.mb := .inl (.inr (.inr (.inr rfl)))
    have hm1 : w.heap.size + 1 ≠ b'.mb := fun e => HI8q.out.fx _ (show b'.X b'.mb from hmx) (.inr e.symm)
    obtain ⟨r0, r1, r2, r3, r4, r5, r6⟩ := HBx8q.out.same (h9b w6.heap.size HL8q.out.2 HMr.out)
    have hz9 := HZ8q.out.same (h9b (w.heap.size + 1) HL8q.out.1 hm1)
    have HZ9 := hide hz9
    obtain ⟨z0, z1, z2, z3, z4, z5, z6, zf⟩ := hz9
    have g0 := zf 0
    have g1 := zf 1
    have g2 := zf 2
    have g3 := zf 3
    have g4 := zf 4
    have g5 := zf 5
    have g6 := zf 6
    clear zf hI8 hk9 hxl hny hl9 hi9 hI9 hst9 hst hf9 hr9 hI9' h9b hmx hm1
    go_wp2
    change bodyPost _ _ _ _ _ (ResAt w9 (w.heap.size + 1) mr)
    have hend := rs_pass HB1.out HS1.out HR9.out HF9.out HI9.out HSt9.out
    clear r0 r1 r2 r3 r4 r5 r6
    obtain ⟨r0, r1, r2, r3, r4, r5, r6⟩ := resAt_box HZ9.out mr
    generalize ResAt w9 (w.heap.size + 1) mr = W at *
    exact bodyPost_ret (v := mr.v) (by simp [results, Tryz.results27, go_sem, MRes.v, r0, r1, r2, r3, r4, r5, r6]) rfl hend

set_option maxHeartbeats 4000000 in
theorem pag2 {w : World} (h : IsMm F base w a z S) (c : MCmd) (hc : Foot (fun k => a.X k ∨ F k) w (fun V => c.ok V)) (hf : c.c.Few) (hz : z ≤ 159) (hcl : c.cl ≠ 0) (sq0 : Int) (r0 : Res) (hla : S.la c.cl = some (sq0, r0)) (hne : sq0 ≠ c.sq) (hgt : ¬ c.sq < sq0) (X : Res × Mac) (hX : (noteM c.c (oneM S c.c)) = X) :
    Calls Tryz.prog 27 #[.pointer (some ⟨a.p, 4, none⟩), .agg #[.int .u64 c.cl, .int .u64 c.sq, .int .i64 c.kd, .int .u64 c.tx, .int .u64 c.ts, .bool c.fl, .int .u64 c.lk.l.tx, .int .i64 c.lk.l.lv, .int .i64 c.lk.l.md, .slice c.lk.la c.lk.ln c.lk.lc, .slice c.lk.ha c.lk.hn c.lk.hc, .slice c.lo.a c.lo.n c.lo.c, .slice c.hi.a c.hi.n c.hi.c, .slice c.txs.a c.txs.n c.txs.c, .slice c.ws.a c.ws.n c.ws.c, .slice c.ks.a c.ks.n c.ks.c, .int .i64 c.tb.id, .string (strB c.tb.nm), .slice c.tb.cs.a c.tb.cs.n c.tb.cs.c, .int .i64 c.tb.ky, .slice c.tb.ix.a c.tb.ix.n c.tb.ix.c], .func (.func 28) #[.pointer (some ⟨a.p, 0, none⟩)] #[]] w (RsPost F base w a (z + 2) X) := by
  obtain ⟨W0, hW0⟩ : ∃ W0, W0 = w.alloc (.cells #[.int .u64 c.cl, .int .u64 c.sq, .int .i64 c.kd, .int .u64 c.tx, .int .u64 c.ts, .bool c.fl, .int .u64 c.lk.l.tx, .int .i64 c.lk.l.lv, .int .i64 c.lk.l.md, .slice c.lk.la c.lk.ln c.lk.lc, .slice c.lk.ha c.lk.hn c.lk.hc, .slice c.lo.a c.lo.n c.lo.c, .slice c.hi.a c.hi.n c.hi.c, .slice c.txs.a c.txs.n c.txs.c, .slice c.ws.a c.ws.n c.ws.c, .slice c.ks.a c.ks.n c.ks.c, .int .i64 c.tb.id, .string (strB c.tb.nm), .slice c.tb.cs.a c.tb.cs.n c.tb.cs.c, .int .i64 c.tb.ky, .slice c.tb.ix.a c.tb.ix.n c.tb.ix.c] 50) := ⟨_, rfl⟩
  obtain ⟨W1, hW1⟩ : ∃ W1, W1 = W0.alloc (.cells #[.int .i64 0, .int .u64 0, .int .u64 0, .bool false, .slice none 0 0, .slice none 0 0, .slice none 0 0] 55) := ⟨_, rfl⟩
  have hb0 : Below w.heap.size w W0 := by rw [hW0]; exact new_below _ _
  have hb01 : Below W0.heap.size W0 W1 := by rw [hW1]; exact new_below _ _
  have hs0 : W0.heap.size = w.heap.size + 1 := by rw [hW0]; simp
  have hs1 : W1.heap.size = w.heap.size + 2 := by rw [hW1, World.size_alloc, hs0]
  have hX0 : ∀ V, Below W0.heap.size W0 V → Box21 V w.heap.size c := by subst hW0; exact box21_new w c _
  have HX1 := hide (hX0 W1 hb01)
  have hRg0 : W0.rangeAt w.heap.size 0 (layCm.cells c) := by rw [hW0]; exact rangeY_new w w.heap.size _ _ rfl
  have HRg := hide (rangeY_same hRg0 (hb01.block w.heap.size (by omega)))
  have HXa := hide hX0
  have hZ1 : Zero7 W1 W0.heap.size := by rw [hW1]; exact zero7_new W0 _
  rw [hs0] at hZ1
  have HZ1 := hide hZ1
  have HS1 := hide hs1
  have HS0 := hide hs0
  have HB01 := hide hb01
  have HB1 := hide (hb0.trans (hb01.mono hb0.size))
  have H0 := h.box hb0 (by omega)
  have H1 := H0.box hb01 (by omega)
  rw [hs0] at H1
  have H1h := hide H1
  have Hck : Hid (Foot (fun k => a.X k ∨ ((F k ∨ k = w.heap.size) ∨ k = w.heap.size + 1)) W1 (fun V => c.ok V)) := hc.step (Below.keeps HB1.out _) (fun k hk => by
    rcases hk with hk | (hk | hk) | hk
    · exact .inl (.inl hk)
    · exact .inl (.inr hk)
    · exact .inr (by omega)
    · exact .inr (by omega))
  have HFw := hide hf
  have hnp : ¬ a.p = w.heap.size := by have := h.lt; omega
  have H0x : Hid (∀ k, a.X k → k < w.heap.size) := fun k hk => (h.xl k hk).2
  obtain ⟨x0, x1, x2, x3, x4, x5, x6, x7, x8, x9, x10, x11, x12, x13, x14, x15, x16, x17, x18, x19, x20⟩ := HX1.out
  rw [hW0] at hW1
  have H0f : Hid (∀ k, F k → k < w.heap.size) := h.fl
  clear hb0 hb01 hs0 hs1 hX0 hZ1 H0 H1 hc hf hRg0
  have hcl1 : (c.cl == 0) = false := by simp [hcl]
  rcases h.la c.cl HFw.out.cl with ⟨-, hl0⟩ | ⟨sq, mo, hf0, hl0, hfo⟩
  · rw [hla] at hl0; cases hl0
  have hl1 : (sq0, r0) = (sq, mo.r) := Option.some.inj (hla.symm.trans hl0)
  obtain ⟨rfl, rfl⟩ : sq0 = sq ∧ r0 = mo.r := ⟨congrArg Prod.fst hl1, congrArg Prod.snd hl1⟩
  have HFr := hide (h.i.fr c.cl _ hla)
  have HFo := hide hfo
  have hnl : a.nl = false := by
    cases hq : a.nl
    · rfl
    · rw [h.mn hq] at hf0; cases hf0
  have hlk := (H1h.out.mp hnl).lookOk keyedU Tryz.underlying74 (zv := .agg #[.int .u64 0, .int .i64 0, .int .u64 0, .int .u64 0, .bool false, .slice none 0 0, .slice none 0 0, .slice none 0 0]) (fun W => by kernel_rfl) (keyU (show U64 c.cl from HFw.out.cl))
  rw [hf0] at hlk
  have hlk2 : ∀ W : World, W.heap[a.mb]? = W1.heap[a.mb]? → (Instr.lookup 74 (.map (some a.mb)) (.int .u64 c.cl) true).run Tryz.prog W = .ok (.tuple #[.agg #[.int .u64 sq0, .int .i64 mo.er, .int .u64 mo.tx, .int .u64 mo.ts, .bool mo.fl, .slice mo.sa mo.sn mo.sc, .slice none 0 0, .slice mo.ta mo.tn mo.tc], .bool true]) W := hlk
  have HLk := hide hlk2
  have HEl := hide (fun w' (hb : Below w.heap.size w w') => rs_plain (r := errR 1) (er := 1) (tx := 0) (ts := 0) (fl := false) (h.more (y := z + 2) (by omega)) hb rfl)
  have hne1 : (sq0 == c.sq) = false := by simp [hne]
  clear h hcl hlk hlk2 hl1 hl0 hf0 hfo
  go_enter Tryz.func27, Tryz.ntmps27
  go_upto_region 1 with fail
  rw [← hW1]
  clear hW1 hW0
  go_upto_region 3 with fail
  have HC4 : Hid (W1.cell? ⟨a.p, 4, none⟩ = some (.map (some a.mb))) := by
    have h4 := H1h.out.c4
    rw [hnl] at h4
    exact h4
  have HX0 := hide HX1.out.c0
  obtain ⟨W5, hW5⟩ : ∃ W5, W5 = (W1.alloc (.cells #[.int .u64 sq0, .int .i64 mo.er, .int .u64 mo.tx, .int .u64 mo.ts, .bool mo.fl, .slice mo.sa mo.sn mo.sc, .slice none 0 0, .slice mo.ta mo.tn mo.tc] 144)).drew := ⟨_, rfl⟩
  have hb5 : Below W1.heap.size W1 W5 := by rw [hW5]; exact (new_below W1 _).drew
  have hbz : ∀ o : Obj, ∀ k, k < W1.heap.size → (W1.alloc o).drew.heap[k]? = W1.heap[k]? := fun o k hk => ((new_below W1 o).drew).block k hk
  have HBz := hide hbz
  have HB5 := hide hb5
  have HW5 := hide hW5
  have hl0 : w.heap.size < W1.heap.size := by have := HS1.out; omega
  have hlp : a.p < W1.heap.size := H1h.out.lt
  have hlm : a.mb < W1.heap.size := H1h.out.ml
  clear hb5 hbz hW5
  refine startG (fun V => V.heap[w.heap.size]? = W1.heap[w.heap.size]? ∧ (V.heap[a.p]? = W1.heap[a.p]? ∧ V.heap[a.mb]? = W1.heap[a.mb]?)) (fun i => false) (by kernel_rfl) ?_
  refine' takeG (i := 0) (v := _) rfl (by kernel_rfl) (by kernel_rfl) (by kernel_rfl) (by kernel_rfl) (fun _ _ _ h => h) (by rfl) (⟨rfl, rfl, rfl⟩) ?_ ?_; rotate_left
  · (intro V hSV; have q4 := (World.cell?_of_block (a := ⟨a.p, 4, none⟩) hSV.2.1).trans HC4.out; have q0 := (World.cell?_of_block (a := ⟨w.heap.size, 0, none⟩) hSV.1).trans HX0.out; have ql := HLk.out V hSV.2.2; go_simp; all_goals (with_reducible rfl))
  (try simp only [Act.put, List.setIfInBounds_toArray, List.set_cons_zero, List.set_cons_succ])
  refine' takeG (i := 1) (v := _) rfl (by kernel_rfl) (by kernel_rfl) (by kernel_rfl) (by kernel_rfl) (fun _ _ _ h => h) (by rfl) (⟨rfl, rfl, rfl⟩) ?_ ?_; rotate_left
  · (intro V hSV; have q4 := (World.cell?_of_block (a := ⟨a.p, 4, none⟩) hSV.2.1).trans HC4.out; have q0 := (World.cell?_of_block (a := ⟨w.heap.size, 0, none⟩) hSV.1).trans HX0.out; have ql := HLk.out V hSV.2.2; go_simp; all_goals (with_reducible rfl))
  (try simp only [Act.put, List.setIfInBounds_toArray, List.set_cons_zero, List.set_cons_succ])
  refine' takeG (i := 2) (v := _) rfl (by kernel_rfl) (by kernel_rfl) (by kernel_rfl) (by kernel_rfl) (fun _ _ _ h => h) (by rfl) (⟨rfl, rfl, rfl⟩) ?_ ?_; rotate_left
  · (intro V hSV; have q4 := (World.cell?_of_block (a := ⟨a.p, 4, none⟩) hSV.2.1).trans HC4.out; have q0 := (World.cell?_of_block (a := ⟨w.heap.size, 0, none⟩) hSV.1).trans HX0.out; have ql := HLk.out V hSV.2.2; go_simp; all_goals (with_reducible rfl))
  (try simp only [Act.put, List.setIfInBounds_toArray, List.set_cons_zero, List.set_cons_succ])
  refine' takeG (i := 3) (v := _) rfl (by kernel_rfl) (by kernel_rfl) (by kernel_rfl) (by kernel_rfl) (fun _ _ _ h => h) (by rfl) (⟨rfl, rfl, rfl⟩) ?_ ?_; rotate_left
  · (intro V hSV; have q4 := (World.cell?_of_block (a := ⟨a.p, 4, none⟩) hSV.2.1).trans HC4.out; have q0 := (World.cell?_of_block (a := ⟨w.heap.size, 0, none⟩) hSV.1).trans HX0.out; have ql := HLk.out V hSV.2.2; go_simp; all_goals (with_reducible rfl))
  (try simp only [Act.put, List.setIfInBounds_toArray, List.set_cons_zero, List.set_cons_succ])
  refine' takeG (i := 4) (v := _) rfl (by kernel_rfl) (by kernel_rfl) (by kernel_rfl) (by kernel_rfl) (fun _ _ _ h => h) (by rfl) (⟨rfl, rfl, rfl⟩) ?_ ?_; rotate_left
  · (intro V hSV; have q4 := (World.cell?_of_block (a := ⟨a.p, 4, none⟩) hSV.2.1).trans HC4.out; have q0 := (World.cell?_of_block (a := ⟨w.heap.size, 0, none⟩) hSV.1).trans HX0.out; have ql := HLk.out V hSV.2.2; go_simp; all_goals (with_reducible rfl))
  (try simp only [Act.put, List.setIfInBounds_toArray, List.set_cons_zero, List.set_cons_succ])
  refine' takeG (i := 5) (v := _) rfl (by kernel_rfl) (by kernel_rfl) (by kernel_rfl) (by kernel_rfl) (fun _ _ _ h => h) (by rfl) (⟨rfl, rfl, rfl⟩) ?_ ?_; rotate_left
  · (intro V hSV; have q4 := (World.cell?_of_block (a := ⟨a.p, 4, none⟩) hSV.2.1).trans HC4.out; have q0 := (World.cell?_of_block (a := ⟨w.heap.size, 0, none⟩) hSV.1).trans HX0.out; have ql := HLk.out V hSV.2.2; go_simp; all_goals (with_reducible rfl))
  (try simp only [Act.put, List.setIfInBounds_toArray, List.set_cons_zero, List.set_cons_succ])
  refine' takeG (i := 6) (v := _) rfl (by kernel_rfl) (by kernel_rfl) (by kernel_rfl) (by kernel_rfl) (fun _ _ _ h => h) (by rfl) (⟨rfl, rfl, rfl⟩) ?_ ?_; rotate_left
  · (intro V hSV; have q4 := (World.cell?_of_block (a := ⟨a.p, 4, none⟩) hSV.2.1).trans HC4.out; have q0 := (World.cell?_of_block (a := ⟨w.heap.size, 0, none⟩) hSV.1).trans HX0.out; have ql := HLk.out V hSV.2.2; go_simp; all_goals (with_reducible rfl))
  (try simp only [Act.put, List.setIfInBounds_toArray, List.set_cons_zero, List.set_cons_succ])
  refine' takeG (i := 7) (v := _) rfl (by kernel_rfl) (by kernel_rfl) (by kernel_rfl) (by kernel_rfl) (fun _ _ _ h => h) (by rfl) (⟨rfl, rfl, rfl⟩) ?_ ?_; rotate_left
  · (intro V hSV; have q4 := (World.cell?_of_block (a := ⟨a.p, 4, none⟩) hSV.2.1).trans HC4.out; have q0 := (World.cell?_of_block (a := ⟨w.heap.size, 0, none⟩) hSV.1).trans HX0.out; have ql := HLk.out V hSV.2.2; go_simp; all_goals (with_reducible rfl))
  (try simp only [Act.put, List.setIfInBounds_toArray, List.set_cons_zero, List.set_cons_succ])
  refine' takeG (i := 8) (v := _) rfl (by kernel_rfl) (by kernel_rfl) (by kernel_rfl) (by kernel_rfl) (fun _ _ _ h => h) (by rfl) (⟨rfl, rfl, rfl⟩) ?_ ?_; rotate_left
  · (intro V hSV; have q4 := (World.cell?_of_block (a := ⟨a.p, 4, none⟩) hSV.2.1).trans HC4.out; have q0 := (World.cell?_of_block (a := ⟨w.heap.size, 0, none⟩) hSV.1).trans HX0.out; have ql := HLk.out V hSV.2.2; go_simp; all_goals (with_reducible rfl))
  (try simp only [Act.put, List.setIfInBounds_toArray, List.set_cons_zero, List.set_cons_succ])
  refine' takeG (i := 9) (v := _) rfl (by kernel_rfl) (by kernel_rfl) (by kernel_rfl) (by kernel_rfl) (fun _ _ _ h => h) (by rfl) (⟨rfl, rfl, rfl⟩) ?_ ?_; rotate_left
  · (intro V hSV; have q4 := (World.cell?_of_block (a := ⟨a.p, 4, none⟩) hSV.2.1).trans HC4.out; have q0 := (World.cell?_of_block (a := ⟨w.heap.size, 0, none⟩) hSV.1).trans HX0.out; have ql := HLk.out V hSV.2.2; go_simp; all_goals (with_reducible rfl))
  (try simp only [Act.put, List.setIfInBounds_toArray, List.set_cons_zero, List.set_cons_succ])
  refine callE (i := 10) rfl (by kernel_rfl) (fun K hK => ?_)
  go_simp
  refine hK.out _ _ (fun _ => ⟨HBz.out _ _ hl0, HBz.out _ _ hlp, HBz.out _ _ hlm⟩) ?_
  clear hK K
  (try simp only [Act.put, List.setIfInBounds_toArray, List.set_cons_zero, List.set_cons_succ])
  have HBs := hide (fun o : Obj => HBz.out o)
  refine callE (i := 11) rfl (by kernel_rfl) (fun K hK => ?_)
  go_simp
  refine hK.out _ _ (fun _ => ⟨HBz.out _ _ hl0, HBz.out _ _ hlp, HBz.out _ _ hlm⟩) ?_
  clear hK K
  (try simp only [Act.put, List.setIfInBounds_toArray, List.set_cons_zero, List.set_cons_succ])
  refine callE (i := 12) rfl (by kernel_rfl) (fun K hK => ?_)
  go_simp
  refine hK.out _ _ (fun _ => ⟨HBz.out _ _ hl0, HBz.out _ _ hlp, HBz.out _ _ hlm⟩) ?_
  clear hK K
  (try simp only [Act.put, List.setIfInBounds_toArray, List.set_cons_zero, List.set_cons_succ])
  refine doneE (by kernel_rfl) ?_ _
  rw [← HW5.out]
  have ha5 : ∀ (j : Nat) (v : Value), #[Value.int .u64 sq0, .int .i64 mo.er, .int .u64 mo.tx, .int .u64 mo.ts, .bool mo.fl, .slice mo.sa mo.sn mo.sc, .slice none 0 0, .slice mo.ta mo.tn mo.tc].toList[j]? = some v → W5.cell? ⟨W1.heap.size, j, none⟩ = some v := fun j v hv => by
    rw [HW5.out]
    have h1 := rangeY_new W1 W1.heap.size #[.int .u64 sq0, .int .i64 mo.er, .int .u64 mo.tx, .int .u64 mo.ts, .bool mo.fl, .slice mo.sa mo.sn mo.sc, .slice none 0 0, .slice mo.ta mo.tn mo.tc] 144 rfl j v hv
    rw [Nat.zero_add] at h1
    exact h1
  have b0 := ha5 0 _ rfl
  have HI5 := hide (H1h.out.keep HB5.out)
  have HRg5 := hide (rangeY_same HRg.out (HB5.out.block w.heap.size hl0))
  have HX5 := hide (Box21.same HX1.out (HB5.out.block w.heap.size hl0))
  have HZ5 := hide (HZ1.out.same (HB5.out.block (w.heap.size + 1) (by have := HS1.out; omega)))
  have hx5 : W5.cell? ⟨w.heap.size, 1, none⟩ = some (.int .u64 c.sq) := HX5.out.c1
  have hl5 := HB5.out.size
  have hcon := pdone_any HI5.out c (Hck.out.keep HB5.out) HFw.out hz
  have HCon := hide hcon
  have HFew := hide (HI5.out.i.one HFw.out).2
  have HIn := hide ((HI5.out.i.one HFw.out).1)
  clear hcon ha5 hne
  go_upto_region 9 with (first
    | (go_at_call 28; go_must (refine HCon.out.mono ?_); rintro e w6 ⟨a', mr, rfl, hr, hf2, hI, hst⟩; unfold MRes.v; have HR := hide hr; have HF := hide hf2; have HI := hide hI; have HSt := hide hst; clear hr hf2 hI hst)
    | (refine wp_loadY layCm _ _ Tryz.underlying50 rfl rfl (.tmp 4) rfl w.heap.size 0 c #[.int .u64 c.cl, .int .u64 c.sq, .int .i64 c.kd, .int .u64 c.tx, .int .u64 c.ts, .bool c.fl, .int .u64 c.lk.l.tx, .int .i64 c.lk.l.lv, .int .i64 c.lk.l.md, .slice c.lk.la c.lk.ln c.lk.lc, .slice c.lk.ha c.lk.hn c.lk.hc, .slice c.lo.a c.lo.n c.lo.c, .slice c.hi.a c.hi.n c.hi.c, .slice c.txs.a c.txs.n c.txs.c, .slice c.ws.a c.ws.n c.ws.c, .slice c.ks.a c.ks.n c.ks.c, .int .i64 c.tb.id, .string (strB c.tb.nm), .slice c.tb.cs.a c.tb.cs.n c.tb.cs.c, .int .i64 c.tb.ky, .slice c.tb.ix.a c.tb.ix.n c.tb.ix.c] rfl rfl HRg5.out ?_))
  obtain ⟨W7, hW7⟩ : ∃ W7, W7 = w6.alloc (.cells #[.int .i64 mr.er, .int .u64 mr.tx, .int .u64 mr.ts, .bool mr.fl, .slice mr.sa mr.sn mr.sc, .slice none 0 0, .slice mr.ta mr.tn mr.tc] 55) := ⟨_, rfl⟩
  rw [← hW7]
  have hb7 : Below w6.heap.size w6 W7 := by rw [hW7]; exact new_below _ _
  have hs7 : W7.heap.size = w6.heap.size + 1 := by rw [hW7]; simp
  have HBx7 : Hid (Box7 W7 w6.heap.size mr) := by
    show Box7 _ _ _
    rw [hW7]
    exact box7_new w6 mr _
  have hl6 : W5.heap.size ≤ w6.heap.size := HSt.out.kp.size
  have hnx0 : ¬ a.X w.heap.size := fun e => by have := H0x.out _ e; omega
  have hnx1 : ¬ a.X (w.heap.size + 1) := fun e => by have := H0x.out _ e; omega
  have hX7 : W7.heap[w.heap.size]? = W5.heap[w.heap.size]? := (hb7.block _ (by omega)).trans (HSt.out.kp.block _ (by omega) hnx0)
  have HX7 := hide (Box21.same HX5.out hX7)
  have hZ7 : W7.heap[w.heap.size + 1]? = W5.heap[w.heap.size + 1]? := (hb7.block _ (by have := HS1.out; omega)).trans (HSt.out.kp.block _ (by have := HS1.out; omega) hnx1)
  have HZ7 := hide (HZ5.out.same hZ7)
  have HI7 := hide (HI.out.keep hb7)
  have HSt7 : Hid (MStep W1 W7 a a') := ((MStep.keep a HB5.out).trans HSt.out).trans (MStep.keep a' hb7)
  have HF7 := hide (HF.out.keep hb7)
  have HB7 := hide hb7
  have hsp : a.p < W7.heap.size := by omega
  have HPa := hide HSt.out.p
  have HL7 : Hid (w.heap.size + 1 < W7.heap.size ∧ w6.heap.size < W7.heap.size) := ⟨by have := HS1.out; omega, by omega⟩
  clear hW7 hb7 hX7 hZ7 hx5
  cases hnl : a'.nl
  · have hq : ∀ W (r : Option Nat), (binOp .eql 74 (.map r) (.map none)).run Tryz.prog W = .ok (.bool r.isNone) W := fun W r => run_eql_map_nil W 74 _ _ r Tryz.underlying74
    have hqs := fun W => hq W (some a'.mb)
    have hqn : (some a'.mb : Option Nat).isNone = false := rfl
    have c47 : W7.cell? ⟨a.p, 4, none⟩ = some (.map (some a'.mb)) := by
      have h4 := HI7.out.c4
      rw [hnl] at h4
      rw [← HPa.out]
      exact h4
    rw [hqn] at hqs
    clear hq hqn
    have HNl := hide hnl
    have HMr : Hid (w6.heap.size ≠ a'.mb) := by show _ ≠ _; have := HI.out.ml; omega
    clear hnl
    go_upto_region 11 with fail
    clear c47 hqs
    have HC47 : Hid (W7.cell? ⟨a.p, 4, none⟩ = some (.map (some a'.mb))) := by
      show _ = _
      have h4 := HI7.out.c4
      rw [HNl.out] at h4
      rw [← HPa.out]
      exact h4
    have HCy := hide (pcopyR_any mr W7.drew (HF7.out.now.keep (Below.refl _ W7).drew) (by rw [HR.out]; exact HFew.out))
    have HV : Hid (∀ V : World, (V.heap[w.heap.size]? = W7.heap[w.heap.size]? ∧ (V.heap[a.p]? = W7.heap[a.p]? ∧ V.heap[w6.heap.size]? = W7.heap[w6.heap.size]?)) → V.cell? ⟨a.p, 4, none⟩ = some (.map (some a'.mb)) ∧ V.cell? ⟨w.heap.size, 0, none⟩ = some (.int .u64 c.cl) ∧ V.cell? ⟨w.heap.size, 1, none⟩ = some (.int .u64 c.sq) ∧ V.cell? ⟨w6.heap.size, 0, none⟩ = some (.int .i64 mr.er) ∧ V.cell? ⟨w6.heap.size, 1, none⟩ = some (.int .u64 mr.tx) ∧ V.cell? ⟨w6.heap.size, 2, none⟩ = some (.int .u64 mr.ts) ∧ V.cell? ⟨w6.heap.size, 3, none⟩ = some (.bool mr.fl) ∧ V.cell? ⟨w6.heap.size, 4, none⟩ = some (.slice mr.sa mr.sn mr.sc) ∧ V.cell? ⟨w6.heap.size, 5, none⟩ = some (.slice none 0 0) ∧ V.cell? ⟨w6.heap.size, 6, none⟩ = some (.slice mr.ta mr.tn mr.tc)) := fun V hV => by
      have h1 := Box21.same HX7.out hV.1
      have h2 := HBx7.out.same hV.2.2
      exact ⟨(World.cell?_of_block (a := ⟨a.p, 4, none⟩) hV.2.1).trans HC47.out, h1.c0, h1.c1, h2.c0, h2.c1, h2.c2, h2.c3, h2.c4, h2.c5, h2.c6⟩
    refine startG (fun V => V.heap[w.heap.size]? = W7.heap[w.heap.size]? ∧ (V.heap[a.p]? = W7.heap[a.p]? ∧ V.heap[w6.heap.size]? = W7.heap[w6.heap.size]?)) (fun i => i == 11) (by kernel_rfl) ?_
    refine' takeG (i := 0) (v := _) rfl (by kernel_rfl) (by kernel_rfl) (by kernel_rfl) (by kernel_rfl) (fun _ _ _ h => h) (by rfl) (⟨rfl, rfl, rfl⟩) ?_ ?_; rotate_left
    · (intro V hSV; obtain ⟨q4, q0, q1, r0, r1, r2, r3, r4, r5, r6⟩ := HV.out V hSV; go_simp; all_goals (with_reducible rfl))
    (try simp only [Act.put, List.setIfInBounds_toArray, List.set_cons_zero, List.set_cons_succ])
    refine' takeG (i := 1) (v := _) rfl (by kernel_rfl) (by kernel_rfl) (by kernel_rfl) (by kernel_rfl) (fun _ _ _ h => h) (by rfl) (⟨rfl, rfl, rfl⟩) ?_ ?_; rotate_left
    · (intro V hSV; obtain ⟨q4, q0, q1, r0, r1, r2, r3, r4, r5, r6⟩ := HV.out V hSV; go_simp; all_goals (with_reducible rfl))
    (try simp only [Act.put, List.setIfInBounds_toArray, List.set_cons_zero, List.set_cons_succ])
    refine' takeG (i := 2) (v := _) rfl (by kernel_rfl) (by kernel_rfl) (by kernel_rfl) (by kernel_rfl) (fun _ _ _ h => h) (by rfl) (⟨rfl, rfl, rfl⟩) ?_ ?_; rotate_left
    · (intro V hSV; obtain ⟨q4, q0, q1, r0, r1, r2, r3, r4, r5, r6⟩ := HV.out V hSV; go_simp; all_goals (with_reducible rfl))
    (try simp only [Act.put, List.setIfInBounds_toArray, List.set_cons_zero, List.set_cons_succ])
    refine' takeG (i := 3) (v := _) rfl (by kernel_rfl) (by kernel_rfl) (by kernel_rfl) (by kernel_rfl) (fun _ _ _ h => h) (by rfl) (⟨rfl, rfl, rfl⟩) ?_ ?_; rotate_left
    · (intro V hSV; obtain ⟨q4, q0, q1, r0, r1, r2, r3, r4, r5, r6⟩ := HV.out V hSV; go_simp; all_goals (with_reducible rfl))
    (try simp only [Act.put, List.setIfInBounds_toArray, List.set_cons_zero, List.set_cons_succ])
    refine' takeG (i := 4) (v := _) rfl (by kernel_rfl) (by kernel_rfl) (by kernel_rfl) (by kernel_rfl) (fun _ _ _ h => h) (by rfl) (⟨rfl, rfl, rfl⟩) ?_ ?_; rotate_left
    · (intro V hSV; obtain ⟨q4, q0, q1, r0, r1, r2, r3, r4, r5, r6⟩ := HV.out V hSV; go_simp; all_goals (with_reducible rfl))
    (try simp only [Act.put, List.setIfInBounds_toArray, List.set_cons_zero, List.set_cons_succ])
    refine' takeG (i := 5) (v := _) rfl (by kernel_rfl) (by kernel_rfl) (by kernel_rfl) (by kernel_rfl) (fun _ _ _ h => h) (by rfl) (⟨rfl, rfl, rfl⟩) ?_ ?_; rotate_left
    · (intro V hSV; obtain ⟨q4, q0, q1, r0, r1, r2, r3, r4, r5, r6⟩ := HV.out V hSV; go_simp; all_goals (with_reducible rfl))
    (try simp only [Act.put, List.setIfInBounds_toArray, List.set_cons_zero, List.set_cons_succ])
    refine' takeG (i := 6) (v := _) rfl (by kernel_rfl) (by kernel_rfl) (by kernel_rfl) (by kernel_rfl) (fun _ _ _ h => h) (by rfl) (⟨rfl, rfl, rfl⟩) ?_ ?_; rotate_left
    · (intro V hSV; obtain ⟨q4, q0, q1, r0, r1, r2, r3, r4, r5, r6⟩ := HV.out V hSV; go_simp; all_goals (with_reducible rfl))
    (try simp only [Act.put, List.setIfInBounds_toArray, List.set_cons_zero, List.set_cons_succ])
    refine' takeG (i := 7) (v := _) rfl (by kernel_rfl) (by kernel_rfl) (by kernel_rfl) (by kernel_rfl) (fun _ _ _ h => h) (by rfl) (⟨rfl, rfl, rfl⟩) ?_ ?_; rotate_left
    · (intro V hSV; obtain ⟨q4, q0, q1, r0, r1, r2, r3, r4, r5, r6⟩ := HV.out V hSV; go_simp; all_goals (with_reducible rfl))
    (try simp only [Act.put, List.setIfInBounds_toArray, List.set_cons_zero, List.set_cons_succ])
    refine' takeG (i := 8) (v := _) rfl (by kernel_rfl) (by kernel_rfl) (by kernel_rfl) (by kernel_rfl) (fun _ _ _ h => h) (by rfl) (⟨rfl, rfl, rfl⟩) ?_ ?_; rotate_left
    · (intro V hSV; obtain ⟨q4, q0, q1, r0, r1, r2, r3, r4, r5, r6⟩ := HV.out V hSV; go_simp; all_goals (with_reducible rfl))
    (try simp only [Act.put, List.setIfInBounds_toArray, List.set_cons_zero, List.set_cons_succ])
    refine callE (i := 9) rfl (by kernel_rfl) (fun K hK => ?_)
    go_simp
    refine HCy.out.mono ?_
    rintro e w8 ⟨y, rfl, hyr, hyf, hb8⟩
    unfold MRes.v
    have hS8 : w8.heap[w.heap.size]? = W7.heap[w.heap.size]? ∧ (w8.heap[a.p]? = W7.heap[a.p]? ∧ w8.heap[w6.heap.size]? = W7.heap[w6.heap.size]?) := ⟨hb8.block _ (by have := HL7.out.1; show w.heap.size < W7.heap.size; omega), hb8.block _ hsp, hb8.block _ HL7.out.2⟩
    refine hK.out _ _ (fun _ => hS8) ?_
    have HYr := hide hyr
    have HYf := hide hyf
    have HB8 := hide (below_undrew hb8)
    clear hK K hyr hyf hb8
    (try simp only [Act.put, List.setIfInBounds_toArray, List.set_cons_zero, List.set_cons_succ])
    refine' takeG (i := 10) (v := _) rfl (by kernel_rfl) (by kernel_rfl) (by kernel_rfl) (by kernel_rfl) (fun _ _ _ h => h) (by rfl) (hS8) ?_ ?_; rotate_left
    · (intro V hSV; go_simp; all_goals (with_reducible rfl))
    (try simp only [Act.put, List.setIfInBounds_toArray, List.set_cons_zero, List.set_cons_succ])
    obtain ⟨w9, hput, hmv, hgr⟩ := (HI7.out.mp HNl.out |>.keep HB8.out).put (by omega) keyedU Tryz.underlying74 (keyU (show U64 c.cl from HFw.out.cl)) (ansV c.sq y)
    have hput' : (Instr.mapUpdate 74 (.map (some a'.mb)) (.int .u64 c.cl) (.agg #[.int .u64 c.sq, .int .i64 y.er, .int .u64 y.tx, .int .u64 y.ts, .bool y.fl, .slice y.sa y.sn y.sc, .slice none 0 0, .slice y.ta y.tn y.tc])).run Tryz.prog w8 = .ok () w9 := hput
    have HMv := hide hmv
    have HGr := hide hgr
    clear hput hmv hgr
    refine callE (i := 11) rfl (by kernel_rfl) (fun K hK => ?_)
    go_simp
    refine hK.out _ _ (fun h => by cases h) ?_
    clear hK K hput'
    (try simp only [Act.put, List.setIfInBounds_toArray, List.set_cons_zero, List.set_cons_succ])
    refine doneE (by kernel_rfl) ?_ _
    -- the machine with its note
    have hI8 := HI7.out.keep HB8.out
    have hk9 : Keeps (fun k => k = a'.mb) w8 w9 := ⟨HGr.out.os, HGr.out.tape, HGr.out.output, HGr.out.size, fun k hk hn => HGr.out.block k hk (fun e => hn (Option.some.inj e))⟩
    have hxl : ∀ k, a'.X k ∨ ((F k ∨ k = w.heap.size) ∨ k = w.heap.size + 1) → k < W7.heap.size := fun k hk => by
      rcases hk with hk | (hk | hk) | hk
      · exact (HI7.out.xl k hk).2
      · have h1 := H0f.out k hk; have h2 := HL7.out.1; omega
      · have h2 := HL7.out.1; omega
      · have h2 := HL7.out.1; omega
    have hny : Foot (fun k => a'.X k ∨ ((F k ∨ k = w.heap.size) ∨ k = w.heap.size + 1)) w9 (fun V => y.ok V) := (HYf.out.step (Keeps.wider hk9 (fun k hk => by have := HI7.out.ml; have e : k = a'.mb := hk; show k < W7.heap.size; omega)) (fun k hk => .inl hk)).more (fun k hk => .inl (hxl k hk))
    have hl9 : LaIs (fun k => a'.X k ∨ ((F k ∨ k = w.heap.size) ∨ k = w.heap.size + 1)) w9 (setF a'.f (.int .u64 c.cl) (some (ansV c.sq y))) (noteM c.c (oneM S c.c)).2.la := by
      intro k hk
      by_cases e : k = c.cl
      · subst e
        refine .inr ⟨c.sq, y, setF_same _ _ _, ?_, hny⟩
        show (if c.cl = c.c.cl then some (c.c.sq, (oneM S c.c).1) else _) = _
        rw [if_pos (show c.cl = c.c.cl from rfl), HYr.out, HR.out]
        rfl
      · have h2 : (noteM c.c (oneM S c.c)).2.la k = (oneM S c.c).2.la k := by
          show (if k = c.c.cl then _ else _) = _
          rw [if_neg (show ¬ k = c.c.cl from e)]
        rw [setF_other _ _ (fun e2 => e (by cases e2; rfl)), h2]
        rcases hI8.la k hk with h3 | ⟨sq', mr', h3, h4, h5⟩
        · exact .inl h3
        · exact .inr ⟨sq', mr', h3, h4, h5.step (Keeps.wider hk9 (fun k hk => .inl (.inl (.inr (.inr (.inr hk)))))) (fun k hk => .inl hk)⟩
    have hi9 : MacI (z + 1 + 1) { (oneM S c.c).2 with la := (noteM c.c (oneM S c.c)).2.la } := (MacI.noted (c := c.c) (x := oneM S c.c) (HIn.out.mono (Nat.le_succ _)) HFew.out HFw.out.sq).1
    obtain ⟨a9, hI9, hst9⟩ := hI8.noted HNl.out hk9 HMv.out hl9 hi9
    have hst : MStep W1 w9 a a9 := HSt7.out.trans ((MStep.keep a' HB8.out).trans hst9)
    have hf9 : Foot (fun k => a9.X k ∨ ((F k ∨ k = w.heap.size) ∨ k = w.heap.size + 1)) w9 (fun V => mr.ok V) := hst9.foot (HF7.out.keep HB8.out)
    have hr9 : mr.r = X.1 := by rw [← hX]; exact HR.out
    have hI9' : IsMm (fun k => (F k ∨ k = w.heap.size) ∨ k = w.heap.size + 1) base w9 a9 (z + 2) X.2 := by rw [← hX]; exact hI9
    have HR9 := hide hr9
    have HF9 := hide hf9
    have HI9 := hide hI9'
    have HSt9 := hide hst
    have h9b : ∀ k, k < W7.heap.size → k ≠ a'.mb → w9.heap[k]? = W7.heap[k]? := fun k hk hn => (hk9.block k (Nat.lt_of_lt_of_le hk HB8.out.size) hn).trans (HB8.out.block k hk)
    have hmx : a'.X a'.mb := .inl (.inr (.inr (.inr rfl)))
    have hm1 : w.heap.size + 1 ≠ a'.mb := fun e => HI7.out.fx _ (show a'.X a'.mb from hmx) (.inr e.symm)
    obtain ⟨r0, r1, r2, r3, r4, r5, r6⟩ := HBx7.out.same (h9b w6.heap.size HL7.out.2 HMr.out)
    have hz9 := HZ7.out.same (h9b (w.heap.size + 1) HL7.out.1 hm1)
    have HZ9 := hide hz9
    obtain ⟨z0, z1, z2, z3, z4, z5, z6, zf⟩ := hz9
    have g0 := zf 0
    have g1 := zf 1
    have g2 := zf 2
    have g3 := zf 3
    have g4 := zf 4
    have g5 := zf 5
    have g6 := zf 6
    clear zf hI8 hk9 hxl hny hl9 hi9 hI9 hst9 hst hf9 hr9 hI9' h9b hmx hm1
    go_wp2
    change bodyPost _ _ _ _ _ (ResAt w9 (w.heap.size + 1) mr)
    have hend := rs_pass HB1.out HS1.out HR9.out HF9.out HI9.out HSt9.out
    clear r0 r1 r2 r3 r4 r5 r6
    obtain ⟨r0, r1, r2, r3, r4, r5, r6⟩ := resAt_box HZ9.out mr
    generalize ResAt w9 (w.heap.size + 1) mr = W at *
    exact bodyPost_ret (v := mr.v) (by simp [results, Tryz.results27, go_sem, MRes.v, r0, r1, r2, r3, r4, r5, r6]) rfl hend
  · have hq : ∀ W (r : Option Nat), (binOp .eql 74 (.map r) (.map none)).run Tryz.prog W = .ok (.bool r.isNone) W := fun W r => run_eql_map_nil W 74 _ _ r Tryz.underlying74
    have hqs := fun W => hq W none
    have hqn : (none : Option Nat).isNone = true := rfl
    rw [hqn] at hqs
    clear hq hqn
    have hc4 : W7.cell? ⟨a.p, 4, none⟩ = some (.map none) := by
      have h4 := HI7.out.c4
      rw [hnl] at h4
      rw [← HPa.out]
      exact h4
    have f4 : W7.frozen? ⟨a.p, 4, none⟩ = false := by
      have h4 := HI7.out.fz 4
      rwa [HPa.out] at h4
    obtain ⟨M, hM⟩ : ∃ M, M = W7.alloc (.map #[] 0) := ⟨_, rfl⟩
    have hbM : Below W7.heap.size W7 M := by rw [hM]; exact new_below _ _
    have hsM : M.heap.size = W7.heap.size + 1 := by rw [hM]; simp
    have hmM : MapV M 31 (w6.heap.size + 1) 0 (fun _ => none) := by rw [hM]; exact mapV_new W7 _ _ rfl _ hs7
    have c4 := (hbM.cell (p := ⟨a.p, 4, none⟩) hsp).trans hc4
    have g4 := (hbM.frozen (p := ⟨a.p, 4, none⟩) hsp).trans f4
    have hmk := @run_makeMap Tryz.prog
    have c4o := fun o => ((new_below W7 o).cell (p := ⟨a.p, 4, none⟩) hsp).trans hc4
    have g4o := fun o => ((new_below W7 o).frozen (p := ⟨a.p, 4, none⟩) hsp).trans f4
    go_upto_region 11 with fail
    rw [← hM]
    have hpM : a.p < w6.heap.size := by have := HI.out.lt; have h2 := HPa.out; omega
    obtain ⟨V7, hV7⟩ : ∃ V7, V7 = M.setCell ⟨a.p, 4, none⟩ (.map (some (w6.heap.size + 1))) := ⟨_, rfl⟩
    rw [← hV7]
    have hkV : Keeps (fun k => k = a.p) M V7 := by rw [hV7]; exact keepsY_cell _
    have hk7 : Keeps (fun k => k = a.p) W7 V7 := kpThen (Below.keeps hbM _) (fun k hk => .inl hk) hkV
    obtain ⟨b', hb1, hb2, hb3, hb4, hb5⟩ := HI7.out.mapped (w2 := V7) (nb := w6.heap.size + 1) hnl (by rw [HPa.out]; exact hk7) (by rw [HPa.out, hV7]; exact World.cell?_setCell_same' _ _ _ (by rw [c4]; rfl)) (fun j hj => by rw [HPa.out, hV7, cell_offY (fun e => hj e.symm)]; exact hbM.cell (p := ⟨a.p, j, none⟩) hsp) (fun j => by rw [HPa.out, hV7, World.frozen?_setCell]; exact (hbM.frozen (p := ⟨a.p, j, none⟩) hsp).trans (by have h4 := HI7.out.fz j; rwa [HPa.out] at h4)) (by omega) ((hmM.same (hkV.block _ (by omega) (by show ¬ w6.heap.size + 1 = a.p; omega))).more (Nat.zero_le _)) (by have e : V7.heap.size = M.heap.size := (by rw [hV7]; simp [World.setCell]); omega)
    have hq7 := hk7.size
    have HBx8q := hide (HBx7.out.same (hk7.block _ HL7.out.2 (by show ¬ w6.heap.size = a.p; have := HI5.out.lt; omega)))
    have HX8q := hide (Box21.same HX7.out (hk7.block w.heap.size (by have := HL7.out.1; omega) (fun e => hnp e.symm)))
    have HZ8q := hide (HZ7.out.same (hk7.block (w.heap.size + 1) HL7.out.1 (by show ¬ w.heap.size + 1 = a.p; have := H1h.out.fx a.p (.inl (.inl rfl)); exact fun e => this (.inr e.symm))))
    have HSt8q : Hid (MStep W1 V7 a b') := HSt7.out.trans hb5
    have HF8q := hide (hb5.foot HF7.out)
    have HMr : Hid (w6.heap.size ≠ b'.mb) := by show _ ≠ _; rw [hb2]; have := HL7.out.2; omega
    have HL8q : Hid (w.heap.size + 1 < V7.heap.size ∧ w6.heap.size < V7.heap.size) := ⟨by have := HL7.out.1; omega, by have := HL7.out.2; omega⟩
    have HPb : Hid (b'.p = a.p) := hb5.p.trans HPa.out
    have HNl := hide hb1
    have HI8q := hide hb4
    have hsp8 : a.p < V7.heap.size := by omega
    clear HPa HI7 HBx7 HX7 HZ7 HSt7 HF7 HL7 hb1 hb2 hb3 hb4 hb5 hV7 hkV hk7 hq7 hc4 f4 c4 g4 c4o g4o hM hbM hsM hmM hnl hmk hsp hqs hpM
    have HC47 : Hid (V7.cell? ⟨a.p, 4, none⟩ = some (.map (some b'.mb))) := by
      show _ = _
      have h4 := HI8q.out.c4
      rw [HNl.out] at h4
      rw [← HPb.out]
      exact h4
    have HCy := hide (pcopyR_any mr V7.drew (HF8q.out.now.keep (Below.refl _ V7).drew) (by rw [HR.out]; exact HFew.out))
    have HV : Hid (∀ V : World, (V.heap[w.heap.size]? = V7.heap[w.heap.size]? ∧ (V.heap[a.p]? = V7.heap[a.p]? ∧ V.heap[w6.heap.size]? = V7.heap[w6.heap.size]?)) → V.cell? ⟨a.p, 4, none⟩ = some (.map (some b'.mb)) ∧ V.cell? ⟨w.heap.size, 0, none⟩ = some (.int .u64 c.cl) ∧ V.cell? ⟨w.heap.size, 1, none⟩ = some (.int .u64 c.sq) ∧ V.cell? ⟨w6.heap.size, 0, none⟩ = some (.int .i64 mr.er) ∧ V.cell? ⟨w6.heap.size, 1, none⟩ = some (.int .u64 mr.tx) ∧ V.cell? ⟨w6.heap.size, 2, none⟩ = some (.int .u64 mr.ts) ∧ V.cell? ⟨w6.heap.size, 3, none⟩ = some (.bool mr.fl) ∧ V.cell? ⟨w6.heap.size, 4, none⟩ = some (.slice mr.sa mr.sn mr.sc) ∧ V.cell? ⟨w6.heap.size, 5, none⟩ = some (.slice none 0 0) ∧ V.cell? ⟨w6.heap.size, 6, none⟩ = some (.slice mr.ta mr.tn mr.tc)) := fun V hV => by
      have h1 := Box21.same HX8q.out hV.1
      have h2 := HBx8q.out.same hV.2.2
      exact ⟨(World.cell?_of_block (a := ⟨a.p, 4, none⟩) hV.2.1).trans HC47.out, h1.c0, h1.c1, h2.c0, h2.c1, h2.c2, h2.c3, h2.c4, h2.c5, h2.c6⟩
    refine startG (fun V => V.heap[w.heap.size]? = V7.heap[w.heap.size]? ∧ (V.heap[a.p]? = V7.heap[a.p]? ∧ V.heap[w6.heap.size]? = V7.heap[w6.heap.size]?)) (fun i => i == 11) (by kernel_rfl) ?_
    refine' takeG (i := 0) (v := _) rfl (by kernel_rfl) (by kernel_rfl) (by kernel_rfl) (by kernel_rfl) (fun _ _ _ h => h) (by rfl) (⟨rfl, rfl, rfl⟩) ?_ ?_; rotate_left
    · (intro V hSV; obtain ⟨q4, q0, q1, r0, r1, r2, r3, r4, r5, r6⟩ := HV.out V hSV; go_simp; all_goals (with_reducible rfl))
    (try simp only [Act.put, List.setIfInBounds_toArray, List.set_cons_zero, List.set_cons_succ])
    refine' takeG (i := 1) (v := _) rfl (by kernel_rfl) (by kernel_rfl) (by kernel_rfl) (by kernel_rfl) (fun _ _ _ h => h) (by rfl) (⟨rfl, rfl, rfl⟩) ?_ ?_; rotate_left
    · (intro V hSV; obtain ⟨q4, q0, q1, r0, r1, r2, r3, r4, r5, r6⟩ := HV.out V hSV; go_simp; all_goals (with_reducible rfl))
    (try simp only [Act.put, List.setIfInBounds_toArray, List.set_cons_zero, List.set_cons_succ])
    refine' takeG (i := 2) (v := _) rfl (by kernel_rfl) (by kernel_rfl) (by kernel_rfl) (by kernel_rfl) (fun _ _ _ h => h) (by rfl) (⟨rfl, rfl, rfl⟩) ?_ ?_; rotate_left
    · (intro V hSV; obtain ⟨q4, q0, q1, r0, r1, r2, r3, r4, r5, r6⟩ := HV.out V hSV; go_simp; all_goals (with_reducible rfl))
    (try simp only [Act.put, List.setIfInBounds_toArray, List.set_cons_zero, List.set_cons_succ])
    refine' takeG (i := 3) (v := _) rfl (by kernel_rfl) (by kernel_rfl) (by kernel_rfl) (by kernel_rfl) (fun _ _ _ h => h) (by rfl) (⟨rfl, rfl, rfl⟩) ?_ ?_; rotate_left
    · (intro V hSV; obtain ⟨q4, q0, q1, r0, r1, r2, r3, r4, r5, r6⟩ := HV.out V hSV; go_simp; all_goals (with_reducible rfl))
    (try simp only [Act.put, List.setIfInBounds_toArray, List.set_cons_zero, List.set_cons_succ])
    refine' takeG (i := 4) (v := _) rfl (by kernel_rfl) (by kernel_rfl) (by kernel_rfl) (by kernel_rfl) (fun _ _ _ h => h) (by rfl) (⟨rfl, rfl, rfl⟩) ?_ ?_; rotate_left
    · (intro V hSV; obtain ⟨q4, q0, q1, r0, r1, r2, r3, r4, r5, r6⟩ := HV.out V hSV; go_simp; all_goals (with_reducible rfl))
    (try simp only [Act.put, List.setIfInBounds_toArray, List.set_cons_zero, List.set_cons_succ])
    refine' takeG (i := 5) (v := _) rfl (by kernel_rfl) (by kernel_rfl) (by kernel_rfl) (by kernel_rfl) (fun _ _ _ h => h) (by rfl) (⟨rfl, rfl, rfl⟩) ?_ ?_; rotate_left
    · (intro V hSV; obtain ⟨q4, q0, q1, r0, r1, r2, r3, r4, r5, r6⟩ := HV.out V hSV; go_simp; all_goals (with_reducible rfl))
    (try simp only [Act.put, List.setIfInBounds_toArray, List.set_cons_zero, List.set_cons_succ])
    refine' takeG (i := 6) (v := _) rfl (by kernel_rfl) (by kernel_rfl) (by kernel_rfl) (by kernel_rfl) (fun _ _ _ h => h) (by rfl) (⟨rfl, rfl, rfl⟩) ?_ ?_; rotate_left
    · (intro V hSV; obtain ⟨q4, q0, q1, r0, r1, r2, r3, r4, r5, r6⟩ := HV.out V hSV; go_simp; all_goals (with_reducible rfl))
    (try simp only [Act.put, List.setIfInBounds_toArray, List.set_cons_zero, List.set_cons_succ])
    refine' takeG (i := 7) (v := _) rfl (by kernel_rfl) (by kernel_rfl) (by kernel_rfl) (by kernel_rfl) (fun _ _ _ h => h) (by rfl) (⟨rfl, rfl, rfl⟩) ?_ ?_; rotate_left
    · (intro V hSV; obtain ⟨q4, q0, q1, r0, r1, r2, r3, r4, r5, r6⟩ := HV.out V hSV; go_simp; all_goals (with_reducible rfl))
    (try simp only [Act.put, List.setIfInBounds_toArray, List.set_cons_zero, List.set_cons_succ])
    refine' takeG (i := 8) (v := _) rfl (by kernel_rfl) (by kernel_rfl) (by kernel_rfl) (by kernel_rfl) (fun _ _ _ h => h) (by rfl) (⟨rfl, rfl, rfl⟩) ?_ ?_; rotate_left
    · (intro V hSV; obtain ⟨q4, q0, q1, r0, r1, r2, r3, r4, r5, r6⟩ := HV.out V hSV; go_simp; all_goals (with_reducible rfl))
    (try simp only [Act.put, List.setIfInBounds_toArray, List.set_cons_zero, List.set_cons_succ])
    refine callE (i := 9) rfl (by kernel_rfl) (fun K hK => ?_)
    go_simp
    refine HCy.out.mono ?_
    rintro e w8 ⟨y, rfl, hyr, hyf, hb8⟩
    unfold MRes.v
    have hS8 : w8.heap[w.heap.size]? = V7.heap[w.heap.size]? ∧ (w8.heap[a.p]? = V7.heap[a.p]? ∧ w8.heap[w6.heap.size]? = V7.heap[w6.heap.size]?) := ⟨hb8.block _ (by have := HL8q.out.1; show w.heap.size < V7.heap.size; omega), hb8.block _ hsp8, hb8.block _ HL8q.out.2⟩
    refine hK.out _ _ (fun _ => hS8) ?_
    have HYr := hide hyr
    have HYf := hide hyf
    have HB8 := hide (below_undrew hb8)
    clear hK K hyr hyf hb8
    (try simp only [Act.put, List.setIfInBounds_toArray, List.set_cons_zero, List.set_cons_succ])
    refine' takeG (i := 10) (v := _) rfl (by kernel_rfl) (by kernel_rfl) (by kernel_rfl) (by kernel_rfl) (fun _ _ _ h => h) (by rfl) (hS8) ?_ ?_; rotate_left
    · (intro V hSV; go_simp; all_goals (with_reducible rfl))
    (try simp only [Act.put, List.setIfInBounds_toArray, List.set_cons_zero, List.set_cons_succ])
    obtain ⟨w9, hput, hmv, hgr⟩ := (HI8q.out.mp HNl.out |>.keep HB8.out).put (by omega) keyedU Tryz.underlying74 (keyU (show U64 c.cl from HFw.out.cl)) (ansV c.sq y)
    have hput' : (Instr.mapUpdate 74 (.map (some b'.mb)) (.int .u64 c.cl) (.agg #[.int .u64 c.sq, .int .i64 y.er, .int .u64 y.tx, .int .u64 y.ts, .bool y.fl, .slice y.sa y.sn y.sc, .slice none 0 0, .slice y.ta y.tn y.tc])).run Tryz.prog w8 = .ok () w9 := hput
    have HMv := hide hmv
    have HGr := hide hgr
    clear hput hmv hgr
    refine callE (i := 11) rfl (by kernel_rfl) (fun K hK => ?_)
    go_simp
    refine hK.out _ _ (fun h => by cases h) ?_
    clear hK K hput'
    (try simp only [Act.put, List.setIfInBounds_toArray, List.set_cons_zero, List.set_cons_succ])
    refine doneE (by kernel_rfl) ?_ _
    -- the machine with its note
    have hI8 := HI8q.out.keep HB8.out
    have hk9 : Keeps (fun k => k = b'.mb) w8 w9 := ⟨HGr.out.os, HGr.out.tape, HGr.out.output, HGr.out.size, fun k hk hn => HGr.out.block k hk (fun e => hn (Option.some.inj e))⟩
    have hxl : ∀ k, b'.X k ∨ ((F k ∨ k = w.heap.size) ∨ k = w.heap.size + 1) → k < V7.heap.size := fun k hk => by
      rcases hk with hk | (hk | hk) | hk
      · exact (HI8q.out.xl k hk).2
      · have h1 := H0f.out k hk; have h2 := HL8q.out.1; omega
      · have h2 := HL8q.out.1; omega
      · have h2 := HL8q.out.1; omega
    have hny : Foot (fun k => b'.X k ∨ ((F k ∨ k = w.heap.size) ∨ k = w.heap.size + 1)) w9 (fun V => y.ok V) := (HYf.out.step (Keeps.wider hk9 (fun k hk => by have := HI8q.out.ml; have e : k = b'.mb := hk; show k < V7.heap.size; omega)) (fun k hk => .inl hk)).more (fun k hk => .inl (hxl k hk))
    have hl9 : LaIs (fun k => b'.X k ∨ ((F k ∨ k = w.heap.size) ∨ k = w.heap.size + 1)) w9 (setF b'.f (.int .u64 c.cl) (some (ansV c.sq y))) (noteM c.c (oneM S c.c)).2.la := by
      intro k hk
      by_cases e : k = c.cl
      · subst e
        refine .inr ⟨c.sq, y, setF_same _ _ _, ?_, hny⟩
        show (if c.cl = c.c.cl then some (c.c.sq, (oneM S c.c).1) else _) = _
        rw [if_pos (show c.cl = c.c.cl from rfl), HYr.out, HR.out]
        rfl
      · have h2 : (noteM c.c (oneM S c.c)).2.la k = (oneM S c.c).2.la k := by
          show (if k = c.c.cl then _ else _) = _
          rw [if_neg (show ¬ k = c.c.cl from e)]
        rw [setF_other _ _ (fun e2 => e (by cases e2; rfl)), h2]
        rcases hI8.la k hk with h3 | ⟨sq', mr', h3, h4, h5⟩
        · exact .inl h3
        · exact .inr ⟨sq', mr', h3, h4, h5.step (Keeps.wider hk9 (fun k hk => .inl (.inl (.inr (.inr (.inr hk)))))) (fun k hk => .inl hk)⟩
    have hi9 : MacI (z + 1 + 1) { (oneM S c.c).2 with la := (noteM c.c (oneM S c.c)).2.la } := (MacI.noted (c := c.c) (x := oneM S c.c) (HIn.out.mono (Nat.le_succ _)) HFew.out HFw.out.sq).1
    obtain ⟨a9, hI9, hst9⟩ := hI8.noted HNl.out hk9 HMv.out hl9 hi9
    have hst : MStep W1 w9 a a9 := HSt8q.out.trans ((MStep.keep b' HB8.out).trans hst9)
    have hf9 : Foot (fun k => a9.X k ∨ ((F k ∨ k = w.heap.size) ∨ k = w.heap.size + 1)) w9 (fun V => mr.ok V) := hst9.foot (HF8q.out.keep HB8.out)
    have hr9 : mr.r = X.1 := by rw [← hX]; exact HR.out
    have hI9' : IsMm (fun k => (F k ∨ k = w.heap.size) ∨ k = w.heap.size + 1) base w9 a9 (z + 2) X.2 := by rw [← hX]; exact hI9
    have HR9 := hide hr9
    have HF9 := hide hf9
    have HI9 := hide hI9'
    have HSt9 := hide hst
    have h9b : ∀ k, k < V7.heap.size → k ≠ b'.mb → w9.heap[k]? = V7.heap[k]? := fun k hk hn => (hk9.block k (Nat.lt_of_lt_of_le hk HB8.out.size) hn).trans (HB8.out.block k hk)
    have hmx : b'.X b'.mb := .inl (.inr (.inr (.inr rfl)))
    have hm1 : w.heap.size + 1 ≠ b'.mb := fun e => HI8q.out.fx _ (show b'.X b'.mb from hmx) (.inr e.symm)
    obtain ⟨r0, r1, r2, r3, r4, r5, r6⟩ := HBx8q.out.same (h9b w6.heap.size HL8q.out.2 HMr.out)
    have hz9 := HZ8q.out.same (h9b (w.heap.size + 1) HL8q.out.1 hm1)
    have HZ9 := hide hz9
    obtain ⟨z0, z1, z2, z3, z4, z5, z6, zf⟩ := hz9
    have g0 := zf 0
    have g1 := zf 1
    have g2 := zf 2
    have g3 := zf 3
    have g4 := zf 4
    have g5 := zf 5
    have g6 := zf 6
    clear zf hI8 hk9 hxl hny hl9 hi9 hI9 hst9 hst hf9 hr9 hI9' h9b hmx hm1
    go_wp2
    change bodyPost _ _ _ _ _ (ResAt w9 (w.heap.size + 1) mr)
    have hend := rs_pass HB1.out HS1.out HR9.out HF9.out HI9.out HSt9.out
    clear r0 r1 r2 r3 r4 r5 r6
    obtain ⟨r0, r1, r2, r3, r4, r5, r6⟩ := resAt_box HZ9.out mr
    generalize ResAt w9 (w.heap.size + 1) mr = W at *
    exact bodyPost_ret (v := mr.v) (by simp [results, Tryz.results27, go_sem, MRes.v, r0, r1, r2, r3, r4, r5, r6]) rfl hend

set_option maxHeartbeats 4000000 in
theorem pag3 {w : World} (h : IsMm F base w a z S) (c : MCmd) (hc : Foot (fun k => a.X k ∨ F k) w (fun V => c.ok V)) (hf : c.c.Few) (hz : z ≤ 159) (hcl : c.cl ≠ 0) (sq0 : Int) (r0 : Res) (hla : S.la c.cl = some (sq0, r0)) (heq : sq0 = c.sq) (X : Res × Mac) (hX : ((r0, S)) = X) :
    Calls Tryz.prog 27 #[.pointer (some ⟨a.p, 4, none⟩), .agg #[.int .u64 c.cl, .int .u64 c.sq, .int .i64 c.kd, .int .u64 c.tx, .int .u64 c.ts, .bool c.fl, .int .u64 c.lk.l.tx, .int .i64 c.lk.l.lv, .int .i64 c.lk.l.md, .slice c.lk.la c.lk.ln c.lk.lc, .slice c.lk.ha c.lk.hn c.lk.hc, .slice c.lo.a c.lo.n c.lo.c, .slice c.hi.a c.hi.n c.hi.c, .slice c.txs.a c.txs.n c.txs.c, .slice c.ws.a c.ws.n c.ws.c, .slice c.ks.a c.ks.n c.ks.c, .int .i64 c.tb.id, .string (strB c.tb.nm), .slice c.tb.cs.a c.tb.cs.n c.tb.cs.c, .int .i64 c.tb.ky, .slice c.tb.ix.a c.tb.ix.n c.tb.ix.c], .func (.func 28) #[.pointer (some ⟨a.p, 0, none⟩)] #[]] w (RsPost F base w a (z + 2) X) := by
  obtain ⟨W0, hW0⟩ : ∃ W0, W0 = w.alloc (.cells #[.int .u64 c.cl, .int .u64 c.sq, .int .i64 c.kd, .int .u64 c.tx, .int .u64 c.ts, .bool c.fl, .int .u64 c.lk.l.tx, .int .i64 c.lk.l.lv, .int .i64 c.lk.l.md, .slice c.lk.la c.lk.ln c.lk.lc, .slice c.lk.ha c.lk.hn c.lk.hc, .slice c.lo.a c.lo.n c.lo.c, .slice c.hi.a c.hi.n c.hi.c, .slice c.txs.a c.txs.n c.txs.c, .slice c.ws.a c.ws.n c.ws.c, .slice c.ks.a c.ks.n c.ks.c, .int .i64 c.tb.id, .string (strB c.tb.nm), .slice c.tb.cs.a c.tb.cs.n c.tb.cs.c, .int .i64 c.tb.ky, .slice c.tb.ix.a c.tb.ix.n c.tb.ix.c] 50) := ⟨_, rfl⟩
  obtain ⟨W1, hW1⟩ : ∃ W1, W1 = W0.alloc (.cells #[.int .i64 0, .int .u64 0, .int .u64 0, .bool false, .slice none 0 0, .slice none 0 0, .slice none 0 0] 55) := ⟨_, rfl⟩
  have hb0 : Below w.heap.size w W0 := by rw [hW0]; exact new_below _ _
  have hb01 : Below W0.heap.size W0 W1 := by rw [hW1]; exact new_below _ _
  have hs0 : W0.heap.size = w.heap.size + 1 := by rw [hW0]; simp
  have hs1 : W1.heap.size = w.heap.size + 2 := by rw [hW1, World.size_alloc, hs0]
  have hX0 : ∀ V, Below W0.heap.size W0 V → Box21 V w.heap.size c := by subst hW0; exact box21_new w c _
  have HX1 := hide (hX0 W1 hb01)
  have hRg0 : W0.rangeAt w.heap.size 0 (layCm.cells c) := by rw [hW0]; exact rangeY_new w w.heap.size _ _ rfl
  have HRg := hide (rangeY_same hRg0 (hb01.block w.heap.size (by omega)))
  have HXa := hide hX0
  have hZ1 : Zero7 W1 W0.heap.size := by rw [hW1]; exact zero7_new W0 _
  rw [hs0] at hZ1
  have HZ1 := hide hZ1
  have HS1 := hide hs1
  have HS0 := hide hs0
  have HB01 := hide hb01
  have HB1 := hide (hb0.trans (hb01.mono hb0.size))
  have H0 := h.box hb0 (by omega)
  have H1 := H0.box hb01 (by omega)
  rw [hs0] at H1
  have H1h := hide H1
  have Hck : Hid (Foot (fun k => a.X k ∨ ((F k ∨ k = w.heap.size) ∨ k = w.heap.size + 1)) W1 (fun V => c.ok V)) := hc.step (Below.keeps HB1.out _) (fun k hk => by
    rcases hk with hk | (hk | hk) | hk
    · exact .inl (.inl hk)
    · exact .inl (.inr hk)
    · exact .inr (by omega)
    · exact .inr (by omega))
  have HFw := hide hf
  have hnp : ¬ a.p = w.heap.size := by have := h.lt; omega
  have H0x : Hid (∀ k, a.X k → k < w.heap.size) := fun k hk => (h.xl k hk).2
  obtain ⟨x0, x1, x2, x3, x4, x5, x6, x7, x8, x9, x10, x11, x12, x13, x14, x15, x16, x17, x18, x19, x20⟩ := HX1.out
  rw [hW0] at hW1
  have H0f : Hid (∀ k, F k → k < w.heap.size) := h.fl
  clear hb0 hb01 hs0 hs1 hX0 hZ1 H0 H1 hc hf hRg0
  have hcl1 : (c.cl == 0) = false := by simp [hcl]
  rcases h.la c.cl HFw.out.cl with ⟨-, hl0⟩ | ⟨sq, mo, hf0, hl0, hfo⟩
  · rw [hla] at hl0; cases hl0
  have hl1 : (sq0, r0) = (sq, mo.r) := Option.some.inj (hla.symm.trans hl0)
  obtain ⟨rfl, rfl⟩ : sq0 = sq ∧ r0 = mo.r := ⟨congrArg Prod.fst hl1, congrArg Prod.snd hl1⟩
  have HFr := hide (h.i.fr c.cl _ hla)
  have HFo := hide hfo
  have hnl : a.nl = false := by
    cases hq : a.nl
    · rfl
    · rw [h.mn hq] at hf0; cases hf0
  have hlk := (H1h.out.mp hnl).lookOk keyedU Tryz.underlying74 (zv := .agg #[.int .u64 0, .int .i64 0, .int .u64 0, .int .u64 0, .bool false, .slice none 0 0, .slice none 0 0, .slice none 0 0]) (fun W => by kernel_rfl) (keyU (show U64 c.cl from HFw.out.cl))
  rw [hf0] at hlk
  have hlk2 : ∀ W : World, W.heap[a.mb]? = W1.heap[a.mb]? → (Instr.lookup 74 (.map (some a.mb)) (.int .u64 c.cl) true).run Tryz.prog W = .ok (.tuple #[.agg #[.int .u64 sq0, .int .i64 mo.er, .int .u64 mo.tx, .int .u64 mo.ts, .bool mo.fl, .slice mo.sa mo.sn mo.sc, .slice none 0 0, .slice mo.ta mo.tn mo.tc], .bool true]) W := hlk
  have HLk := hide hlk2
  have HEl := hide (fun w' (hb : Below w.heap.size w w') => rs_plain (r := errR 1) (er := 1) (tx := 0) (ts := 0) (fl := false) (h.more (y := z + 2) (by omega)) hb rfl)
  have heq1 : (sq0 == c.sq) = true := by simp [heq]
  clear heq
  clear h hcl hlk hlk2 hl1 hl0 hf0 hfo
  go_enter Tryz.func27, Tryz.ntmps27
  go_upto_region 1 with fail
  rw [← hW1]
  clear hW1 hW0
  go_upto_region 3 with fail
  have HC4 : Hid (W1.cell? ⟨a.p, 4, none⟩ = some (.map (some a.mb))) := by
    have h4 := H1h.out.c4
    rw [hnl] at h4
    exact h4
  have HX0 := hide HX1.out.c0
  obtain ⟨W5, hW5⟩ : ∃ W5, W5 = (W1.alloc (.cells #[.int .u64 sq0, .int .i64 mo.er, .int .u64 mo.tx, .int .u64 mo.ts, .bool mo.fl, .slice mo.sa mo.sn mo.sc, .slice none 0 0, .slice mo.ta mo.tn mo.tc] 144)).drew := ⟨_, rfl⟩
  have hb5 : Below W1.heap.size W1 W5 := by rw [hW5]; exact (new_below W1 _).drew
  have hbz : ∀ o : Obj, ∀ k, k < W1.heap.size → (W1.alloc o).drew.heap[k]? = W1.heap[k]? := fun o k hk => ((new_below W1 o).drew).block k hk
  have HBz := hide hbz
  have HB5 := hide hb5
  have HW5 := hide hW5
  have hl0 : w.heap.size < W1.heap.size := by have := HS1.out; omega
  have hlp : a.p < W1.heap.size := H1h.out.lt
  have hlm : a.mb < W1.heap.size := H1h.out.ml
  clear hb5 hbz hW5
  refine startG (fun V => V.heap[w.heap.size]? = W1.heap[w.heap.size]? ∧ (V.heap[a.p]? = W1.heap[a.p]? ∧ V.heap[a.mb]? = W1.heap[a.mb]?)) (fun i => false) (by kernel_rfl) ?_
  refine' takeG (i := 0) (v := _) rfl (by kernel_rfl) (by kernel_rfl) (by kernel_rfl) (by kernel_rfl) (fun _ _ _ h => h) (by rfl) (⟨rfl, rfl, rfl⟩) ?_ ?_; rotate_left
  · (intro V hSV; have q4 := (World.cell?_of_block (a := ⟨a.p, 4, none⟩) hSV.2.1).trans HC4.out; have q0 := (World.cell?_of_block (a := ⟨w.heap.size, 0, none⟩) hSV.1).trans HX0.out; have ql := HLk.out V hSV.2.2; go_simp; all_goals (with_reducible rfl))
  (try simp only [Act.put, List.setIfInBounds_toArray, List.set_cons_zero, List.set_cons_succ])
  refine' takeG (i := 1) (v := _) rfl (by kernel_rfl) (by kernel_rfl) (by kernel_rfl) (by kernel_rfl) (fun _ _ _ h => h) (by rfl) (⟨rfl, rfl, rfl⟩) ?_ ?_; rotate_left
  · (intro V hSV; have q4 := (World.cell?_of_block (a := ⟨a.p, 4, none⟩) hSV.2.1).trans HC4.out; have q0 := (World.cell?_of_block (a := ⟨w.heap.size, 0, none⟩) hSV.1).trans HX0.out; have ql := HLk.out V hSV.2.2; go_simp; all_goals (with_reducible rfl))
  (try simp only [Act.put, List.setIfInBounds_toArray, List.set_cons_zero, List.set_cons_succ])
  refine' takeG (i := 2) (v := _) rfl (by kernel_rfl) (by kernel_rfl) (by kernel_rfl) (by kernel_rfl) (fun _ _ _ h => h) (by rfl) (⟨rfl, rfl, rfl⟩) ?_ ?_; rotate_left
  · (intro V hSV; have q4 := (World.cell?_of_block (a := ⟨a.p, 4, none⟩) hSV.2.1).trans HC4.out; have q0 := (World.cell?_of_block (a := ⟨w.heap.size, 0, none⟩) hSV.1).trans HX0.out; have ql := HLk.out V hSV.2.2; go_simp; all_goals (with_reducible rfl))
  (try simp only [Act.put, List.setIfInBounds_toArray, List.set_cons_zero, List.set_cons_succ])
  refine' takeG (i := 3) (v := _) rfl (by kernel_rfl) (by kernel_rfl) (by kernel_rfl) (by kernel_rfl) (fun _ _ _ h => h) (by rfl) (⟨rfl, rfl, rfl⟩) ?_ ?_; rotate_left
  · (intro V hSV; have q4 := (World.cell?_of_block (a := ⟨a.p, 4, none⟩) hSV.2.1).trans HC4.out; have q0 := (World.cell?_of_block (a := ⟨w.heap.size, 0, none⟩) hSV.1).trans HX0.out; have ql := HLk.out V hSV.2.2; go_simp; all_goals (with_reducible rfl))
  (try simp only [Act.put, List.setIfInBounds_toArray, List.set_cons_zero, List.set_cons_succ])
  refine' takeG (i := 4) (v := _) rfl (by kernel_rfl) (by kernel_rfl) (by kernel_rfl) (by kernel_rfl) (fun _ _ _ h => h) (by rfl) (⟨rfl, rfl, rfl⟩) ?_ ?_; rotate_left
  · (intro V hSV; have q4 := (World.cell?_of_block (a := ⟨a.p, 4, none⟩) hSV.2.1).trans HC4.out; have q0 := (World.cell?_of_block (a := ⟨w.heap.size, 0, none⟩) hSV.1).trans HX0.out; have ql := HLk.out V hSV.2.2; go_simp; all_goals (with_reducible rfl))
  (try simp only [Act.put, List.setIfInBounds_toArray, List.set_cons_zero, List.set_cons_succ])
  refine' takeG (i := 5) (v := _) rfl (by kernel_rfl) (by kernel_rfl) (by kernel_rfl) (by kernel_rfl) (fun _ _ _ h => h) (by rfl) (⟨rfl, rfl, rfl⟩) ?_ ?_; rotate_left
  · (intro V hSV; have q4 := (World.cell?_of_block (a := ⟨a.p, 4, none⟩) hSV.2.1).trans HC4.out; have q0 := (World.cell?_of_block (a := ⟨w.heap.size, 0, none⟩) hSV.1).trans HX0.out; have ql := HLk.out V hSV.2.2; go_simp; all_goals (with_reducible rfl))
  (try simp only [Act.put, List.setIfInBounds_toArray, List.set_cons_zero, List.set_cons_succ])
  refine' takeG (i := 6) (v := _) rfl (by kernel_rfl) (by kernel_rfl) (by kernel_rfl) (by kernel_rfl) (fun _ _ _ h => h) (by rfl) (⟨rfl, rfl, rfl⟩) ?_ ?_; rotate_left
  · (intro V hSV; have q4 := (World.cell?_of_block (a := ⟨a.p, 4, none⟩) hSV.2.1).trans HC4.out; have q0 := (World.cell?_of_block (a := ⟨w.heap.size, 0, none⟩) hSV.1).trans HX0.out; have ql := HLk.out V hSV.2.2; go_simp; all_goals (with_reducible rfl))
  (try simp only [Act.put, List.setIfInBounds_toArray, List.set_cons_zero, List.set_cons_succ])
  refine' takeG (i := 7) (v := _) rfl (by kernel_rfl) (by kernel_rfl) (by kernel_rfl) (by kernel_rfl) (fun _ _ _ h => h) (by rfl) (⟨rfl, rfl, rfl⟩) ?_ ?_; rotate_left
  · (intro V hSV; have q4 := (World.cell?_of_block (a := ⟨a.p, 4, none⟩) hSV.2.1).trans HC4.out; have q0 := (World.cell?_of_block (a := ⟨w.heap.size, 0, none⟩) hSV.1).trans HX0.out; have ql := HLk.out V hSV.2.2; go_simp; all_goals (with_reducible rfl))
  (try simp only [Act.put, List.setIfInBounds_toArray, List.set_cons_zero, List.set_cons_succ])
  refine' takeG (i := 8) (v := _) rfl (by kernel_rfl) (by kernel_rfl) (by kernel_rfl) (by kernel_rfl) (fun _ _ _ h => h) (by rfl) (⟨rfl, rfl, rfl⟩) ?_ ?_; rotate_left
  · (intro V hSV; have q4 := (World.cell?_of_block (a := ⟨a.p, 4, none⟩) hSV.2.1).trans HC4.out; have q0 := (World.cell?_of_block (a := ⟨w.heap.size, 0, none⟩) hSV.1).trans HX0.out; have ql := HLk.out V hSV.2.2; go_simp; all_goals (with_reducible rfl))
  (try simp only [Act.put, List.setIfInBounds_toArray, List.set_cons_zero, List.set_cons_succ])
  refine' takeG (i := 9) (v := _) rfl (by kernel_rfl) (by kernel_rfl) (by kernel_rfl) (by kernel_rfl) (fun _ _ _ h => h) (by rfl) (⟨rfl, rfl, rfl⟩) ?_ ?_; rotate_left
  · (intro V hSV; have q4 := (World.cell?_of_block (a := ⟨a.p, 4, none⟩) hSV.2.1).trans HC4.out; have q0 := (World.cell?_of_block (a := ⟨w.heap.size, 0, none⟩) hSV.1).trans HX0.out; have ql := HLk.out V hSV.2.2; go_simp; all_goals (with_reducible rfl))
  (try simp only [Act.put, List.setIfInBounds_toArray, List.set_cons_zero, List.set_cons_succ])
  refine callE (i := 10) rfl (by kernel_rfl) (fun K hK => ?_)
  go_simp
  refine hK.out _ _ (fun _ => ⟨HBz.out _ _ hl0, HBz.out _ _ hlp, HBz.out _ _ hlm⟩) ?_
  clear hK K
  (try simp only [Act.put, List.setIfInBounds_toArray, List.set_cons_zero, List.set_cons_succ])
  have HBs := hide (fun o : Obj => HBz.out o)
  refine callE (i := 11) rfl (by kernel_rfl) (fun K hK => ?_)
  go_simp
  refine hK.out _ _ (fun _ => ⟨HBz.out _ _ hl0, HBz.out _ _ hlp, HBz.out _ _ hlm⟩) ?_
  clear hK K
  (try simp only [Act.put, List.setIfInBounds_toArray, List.set_cons_zero, List.set_cons_succ])
  refine callE (i := 12) rfl (by kernel_rfl) (fun K hK => ?_)
  go_simp
  refine hK.out _ _ (fun _ => ⟨HBz.out _ _ hl0, HBz.out _ _ hlp, HBz.out _ _ hlm⟩) ?_
  clear hK K
  (try simp only [Act.put, List.setIfInBounds_toArray, List.set_cons_zero, List.set_cons_succ])
  refine doneE (by kernel_rfl) ?_ _
  rw [← HW5.out]
  have ha5 : ∀ (j : Nat) (v : Value), #[Value.int .u64 sq0, .int .i64 mo.er, .int .u64 mo.tx, .int .u64 mo.ts, .bool mo.fl, .slice mo.sa mo.sn mo.sc, .slice none 0 0, .slice mo.ta mo.tn mo.tc].toList[j]? = some v → W5.cell? ⟨W1.heap.size, j, none⟩ = some v := fun j v hv => by
    rw [HW5.out]
    have h1 := rangeY_new W1 W1.heap.size #[.int .u64 sq0, .int .i64 mo.er, .int .u64 mo.tx, .int .u64 mo.ts, .bool mo.fl, .slice mo.sa mo.sn mo.sc, .slice none 0 0, .slice mo.ta mo.tn mo.tc] 144 rfl j v hv
    rw [Nat.zero_add] at h1
    exact h1
  have b0 := ha5 0 _ rfl
  have b1 := ha5 1 _ rfl
  have b2 := ha5 2 _ rfl
  have b3 := ha5 3 _ rfl
  have b4 := ha5 4 _ rfl
  have b5 := ha5 5 _ rfl
  have b6 := ha5 6 _ rfl
  have b7 := ha5 7 _ rfl
  have HI5 := hide (H1h.out.keep HB5.out)
  have hx5 : W5.cell? ⟨w.heap.size, 1, none⟩ = some (.int .u64 c.sq) := (Box21.same HX1.out (HB5.out.block w.heap.size hl0)).c1
  have HZ5 := hide (HZ1.out.same (HB5.out.block (w.heap.size + 1) (by have := HS1.out; omega)))
  have HCy := hide (pcopyR_any mo W5 ((HFo.out.now.keep HB1.out).keep HB5.out) HFr.out.1)
  have hl5 := HB5.out.size
  clear ha5
  go_wp2_with (first
    | (go_at_call 74; go_must (refine HCy.out.mono ?_); rintro e w6 ⟨y, rfl, hyr, hyf, hb6⟩; unfold MRes.v; have hz2 := HZ5.out.same (hb6.block (w.heap.size + 1) (by have := HS1.out; omega)); have HZ2 := hide hz2; obtain ⟨z0, z1, z2, z3, z4, z5, z6, zf⟩ := hz2; have g0 := zf 0; have g1 := zf 1; have g2 := zf 2; have g3 := zf 3; have g4 := zf 4; have g5 := zf 5; have g6 := zf 6; have HYr := hide hyr; have HYf := hide hyf; have HB6 := hide hb6; clear zf hyr hyf hb6))
  have HR : Hid (y.r = X.1) := by show _ = _; rw [← hX]; exact HYr.out
  have HF : Hid (Foot (fun k => a.X k ∨ ((F k ∨ k = w.heap.size) ∨ k = w.heap.size + 1)) w6 (fun V => y.ok V)) := HYf.out.more (fun k hk => .inl (by
    rcases hk with hk | (hk | hk) | hk
    · exact (HI5.out.xl k hk).2
    · have := H0f.out k hk; omega
    · omega
    · have := HS1.out; omega))
  have HI : Hid (IsMm (fun k => (F k ∨ k = w.heap.size) ∨ k = w.heap.size + 1) base w6 a (z + 2) X.2) := by
    show IsMm _ _ _ _ _ _
    rw [← hX]
    exact (HI5.out.keep HB6.out).more (by omega)
  have HSt := hide ((MStep.keep a HB5.out).trans (MStep.keep a HB6.out))
  change bodyPost _ _ _ _ _ (ResAt w6 (w.heap.size + 1) y)
  have hend := rs_pass HB1.out HS1.out HR.out HF.out HI.out HSt.out
  obtain ⟨r0, r1, r2, r3, r4, r5, r6⟩ := resAt_box HZ2.out y
  generalize ResAt w6 (w.heap.size + 1) y = W at *
  exact bodyPost_ret (v := y.v) (by simp [results, Tryz.results27, go_sem, MRes.v, r0, r1, r2, r3, r4, r5, r6]) rfl hend

set_option maxHeartbeats 4000000 in
theorem pag4 {w : World} (h : IsMm F base w a z S) (c : MCmd) (hc : Foot (fun k => a.X k ∨ F k) w (fun V => c.ok V)) (hf : c.c.Few) (hz : z ≤ 159) (hcl : c.cl ≠ 0) (sq0 : Int) (r0 : Res) (hla : S.la c.cl = some (sq0, r0)) (hne : sq0 ≠ c.sq) (hgt : c.sq < sq0) (X : Res × Mac) (hX : ((errR 1, S)) = X) :
    Calls Tryz.prog 27 #[.pointer (some ⟨a.p, 4, none⟩), .agg #[.int .u64 c.cl, .int .u64 c.sq, .int .i64 c.kd, .int .u64 c.tx, .int .u64 c.ts, .bool c.fl, .int .u64 c.lk.l.tx, .int .i64 c.lk.l.lv, .int .i64 c.lk.l.md, .slice c.lk.la c.lk.ln c.lk.lc, .slice c.lk.ha c.lk.hn c.lk.hc, .slice c.lo.a c.lo.n c.lo.c, .slice c.hi.a c.hi.n c.hi.c, .slice c.txs.a c.txs.n c.txs.c, .slice c.ws.a c.ws.n c.ws.c, .slice c.ks.a c.ks.n c.ks.c, .int .i64 c.tb.id, .string (strB c.tb.nm), .slice c.tb.cs.a c.tb.cs.n c.tb.cs.c, .int .i64 c.tb.ky, .slice c.tb.ix.a c.tb.ix.n c.tb.ix.c], .func (.func 28) #[.pointer (some ⟨a.p, 0, none⟩)] #[]] w (RsPost F base w a (z + 2) X) := by
  obtain ⟨W0, hW0⟩ : ∃ W0, W0 = w.alloc (.cells #[.int .u64 c.cl, .int .u64 c.sq, .int .i64 c.kd, .int .u64 c.tx, .int .u64 c.ts, .bool c.fl, .int .u64 c.lk.l.tx, .int .i64 c.lk.l.lv, .int .i64 c.lk.l.md, .slice c.lk.la c.lk.ln c.lk.lc, .slice c.lk.ha c.lk.hn c.lk.hc, .slice c.lo.a c.lo.n c.lo.c, .slice c.hi.a c.hi.n c.hi.c, .slice c.txs.a c.txs.n c.txs.c, .slice c.ws.a c.ws.n c.ws.c, .slice c.ks.a c.ks.n c.ks.c, .int .i64 c.tb.id, .string (strB c.tb.nm), .slice c.tb.cs.a c.tb.cs.n c.tb.cs.c, .int .i64 c.tb.ky, .slice c.tb.ix.a c.tb.ix.n c.tb.ix.c] 50) := ⟨_, rfl⟩
  obtain ⟨W1, hW1⟩ : ∃ W1, W1 = W0.alloc (.cells #[.int .i64 0, .int .u64 0, .int .u64 0, .bool false, .slice none 0 0, .slice none 0 0, .slice none 0 0] 55) := ⟨_, rfl⟩
  have hb0 : Below w.heap.size w W0 := by rw [hW0]; exact new_below _ _
  have hb01 : Below W0.heap.size W0 W1 := by rw [hW1]; exact new_below _ _
  have hs0 : W0.heap.size = w.heap.size + 1 := by rw [hW0]; simp
  have hs1 : W1.heap.size = w.heap.size + 2 := by rw [hW1, World.size_alloc, hs0]
  have hX0 : ∀ V, Below W0.heap.size W0 V → Box21 V w.heap.size c := by subst hW0; exact box21_new w c _
  have HX1 := hide (hX0 W1 hb01)
  have hRg0 : W0.rangeAt w.heap.size 0 (layCm.cells c) := by rw [hW0]; exact rangeY_new w w.heap.size _ _ rfl
  have HRg := hide (rangeY_same hRg0 (hb01.block w.heap.size (by omega)))
  have HXa := hide hX0
  have hZ1 : Zero7 W1 W0.heap.size := by rw [hW1]; exact zero7_new W0 _
  rw [hs0] at hZ1
  have HZ1 := hide hZ1
  have HS1 := hide hs1
  have HS0 := hide hs0
  have HB01 := hide hb01
  have HB1 := hide (hb0.trans (hb01.mono hb0.size))
  have H0 := h.box hb0 (by omega)
  have H1 := H0.box hb01 (by omega)
  rw [hs0] at H1
  have H1h := hide H1
  have Hck : Hid (Foot (fun k => a.X k ∨ ((F k ∨ k = w.heap.size) ∨ k = w.heap.size + 1)) W1 (fun V => c.ok V)) := hc.step (Below.keeps HB1.out _) (fun k hk => by
    rcases hk with hk | (hk | hk) | hk
    · exact .inl (.inl hk)
    · exact .inl (.inr hk)
    · exact .inr (by omega)
    · exact .inr (by omega))
  have HFw := hide hf
  have hnp : ¬ a.p = w.heap.size := by have := h.lt; omega
  have H0x : Hid (∀ k, a.X k → k < w.heap.size) := fun k hk => (h.xl k hk).2
  obtain ⟨x0, x1, x2, x3, x4, x5, x6, x7, x8, x9, x10, x11, x12, x13, x14, x15, x16, x17, x18, x19, x20⟩ := HX1.out
  rw [hW0] at hW1
  have H0f : Hid (∀ k, F k → k < w.heap.size) := h.fl
  clear hb0 hb01 hs0 hs1 hX0 hZ1 H0 H1 hc hf hRg0
  have hcl1 : (c.cl == 0) = false := by simp [hcl]
  rcases h.la c.cl HFw.out.cl with ⟨-, hl0⟩ | ⟨sq, mo, hf0, hl0, hfo⟩
  · rw [hla] at hl0; cases hl0
  have hl1 : (sq0, r0) = (sq, mo.r) := Option.some.inj (hla.symm.trans hl0)
  obtain ⟨rfl, rfl⟩ : sq0 = sq ∧ r0 = mo.r := ⟨congrArg Prod.fst hl1, congrArg Prod.snd hl1⟩
  have HFr := hide (h.i.fr c.cl _ hla)
  have HFo := hide hfo
  have hnl : a.nl = false := by
    cases hq : a.nl
    · rfl
    · rw [h.mn hq] at hf0; cases hf0
  have hlk := (H1h.out.mp hnl).lookOk keyedU Tryz.underlying74 (zv := .agg #[.int .u64 0, .int .i64 0, .int .u64 0, .int .u64 0, .bool false, .slice none 0 0, .slice none 0 0, .slice none 0 0]) (fun W => by kernel_rfl) (keyU (show U64 c.cl from HFw.out.cl))
  rw [hf0] at hlk
  have hlk2 : ∀ W : World, W.heap[a.mb]? = W1.heap[a.mb]? → (Instr.lookup 74 (.map (some a.mb)) (.int .u64 c.cl) true).run Tryz.prog W = .ok (.tuple #[.agg #[.int .u64 sq0, .int .i64 mo.er, .int .u64 mo.tx, .int .u64 mo.ts, .bool mo.fl, .slice mo.sa mo.sn mo.sc, .slice none 0 0, .slice mo.ta mo.tn mo.tc], .bool true]) W := hlk
  have HLk := hide hlk2
  have HEl := hide (fun w' (hb : Below w.heap.size w w') => rs_plain (r := errR 1) (er := 1) (tx := 0) (ts := 0) (fl := false) (h.more (y := z + 2) (by omega)) hb rfl)
  have hne1 : (sq0 == c.sq) = false := by simp [hne]
  clear h hcl hlk hlk2 hl1 hl0 hf0 hfo
  go_enter Tryz.func27, Tryz.ntmps27
  go_upto_region 1 with fail
  rw [← hW1]
  clear hW1 hW0
  go_upto_region 3 with fail
  have HC4 : Hid (W1.cell? ⟨a.p, 4, none⟩ = some (.map (some a.mb))) := by
    have h4 := H1h.out.c4
    rw [hnl] at h4
    exact h4
  have HX0 := hide HX1.out.c0
  obtain ⟨W5, hW5⟩ : ∃ W5, W5 = (W1.alloc (.cells #[.int .u64 sq0, .int .i64 mo.er, .int .u64 mo.tx, .int .u64 mo.ts, .bool mo.fl, .slice mo.sa mo.sn mo.sc, .slice none 0 0, .slice mo.ta mo.tn mo.tc] 144)).drew := ⟨_, rfl⟩
  have hb5 : Below W1.heap.size W1 W5 := by rw [hW5]; exact (new_below W1 _).drew
  have hbz : ∀ o : Obj, ∀ k, k < W1.heap.size → (W1.alloc o).drew.heap[k]? = W1.heap[k]? := fun o k hk => ((new_below W1 o).drew).block k hk
  have HBz := hide hbz
  have HB5 := hide hb5
  have HW5 := hide hW5
  have hl0 : w.heap.size < W1.heap.size := by have := HS1.out; omega
  have hlp : a.p < W1.heap.size := H1h.out.lt
  have hlm : a.mb < W1.heap.size := H1h.out.ml
  clear hb5 hbz hW5
  refine startG (fun V => V.heap[w.heap.size]? = W1.heap[w.heap.size]? ∧ (V.heap[a.p]? = W1.heap[a.p]? ∧ V.heap[a.mb]? = W1.heap[a.mb]?)) (fun i => false) (by kernel_rfl) ?_
  refine' takeG (i := 0) (v := _) rfl (by kernel_rfl) (by kernel_rfl) (by kernel_rfl) (by kernel_rfl) (fun _ _ _ h => h) (by rfl) (⟨rfl, rfl, rfl⟩) ?_ ?_; rotate_left
  · (intro V hSV; have q4 := (World.cell?_of_block (a := ⟨a.p, 4, none⟩) hSV.2.1).trans HC4.out; have q0 := (World.cell?_of_block (a := ⟨w.heap.size, 0, none⟩) hSV.1).trans HX0.out; have ql := HLk.out V hSV.2.2; go_simp; all_goals (with_reducible rfl))
  (try simp only [Act.put, List.setIfInBounds_toArray, List.set_cons_zero, List.set_cons_succ])
  refine' takeG (i := 1) (v := _) rfl (by kernel_rfl) (by kernel_rfl) (by kernel_rfl) (by kernel_rfl) (fun _ _ _ h => h) (by rfl) (⟨rfl, rfl, rfl⟩) ?_ ?_; rotate_left
  · (intro V hSV; have q4 := (World.cell?_of_block (a := ⟨a.p, 4, none⟩) hSV.2.1).trans HC4.out; have q0 := (World.cell?_of_block (a := ⟨w.heap.size, 0, none⟩) hSV.1).trans HX0.out; have ql := HLk.out V hSV.2.2; go_simp; all_goals (with_reducible rfl))
  (try simp only [Act.put, List.setIfInBounds_toArray, List.set_cons_zero, List.set_cons_succ])
  refine' takeG (i := 2) (v := _) rfl (by kernel_rfl) (by kernel_rfl) (by kernel_rfl) (by kernel_rfl) (fun _ _ _ h => h) (by rfl) (⟨rfl, rfl, rfl⟩) ?_ ?_; rotate_left
  · (intro V hSV; have q4 := (World.cell?_of_block (a := ⟨a.p, 4, none⟩) hSV.2.1).trans HC4.out; have q0 := (World.cell?_of_block (a := ⟨w.heap.size, 0, none⟩) hSV.1).trans HX0.out; have ql := HLk.out V hSV.2.2; go_simp; all_goals (with_reducible rfl))
  (try simp only [Act.put, List.setIfInBounds_toArray, List.set_cons_zero, List.set_cons_succ])
  refine' takeG (i := 3) (v := _) rfl (by kernel_rfl) (by kernel_rfl) (by kernel_rfl) (by kernel_rfl) (fun _ _ _ h => h) (by rfl) (⟨rfl, rfl, rfl⟩) ?_ ?_; rotate_left
  · (intro V hSV; have q4 := (World.cell?_of_block (a := ⟨a.p, 4, none⟩) hSV.2.1).trans HC4.out; have q0 := (World.cell?_of_block (a := ⟨w.heap.size, 0, none⟩) hSV.1).trans HX0.out; have ql := HLk.out V hSV.2.2; go_simp; all_goals (with_reducible rfl))
  (try simp only [Act.put, List.setIfInBounds_toArray, List.set_cons_zero, List.set_cons_succ])
  refine' takeG (i := 4) (v := _) rfl (by kernel_rfl) (by kernel_rfl) (by kernel_rfl) (by kernel_rfl) (fun _ _ _ h => h) (by rfl) (⟨rfl, rfl, rfl⟩) ?_ ?_; rotate_left
  · (intro V hSV; have q4 := (World.cell?_of_block (a := ⟨a.p, 4, none⟩) hSV.2.1).trans HC4.out; have q0 := (World.cell?_of_block (a := ⟨w.heap.size, 0, none⟩) hSV.1).trans HX0.out; have ql := HLk.out V hSV.2.2; go_simp; all_goals (with_reducible rfl))
  (try simp only [Act.put, List.setIfInBounds_toArray, List.set_cons_zero, List.set_cons_succ])
  refine' takeG (i := 5) (v := _) rfl (by kernel_rfl) (by kernel_rfl) (by kernel_rfl) (by kernel_rfl) (fun _ _ _ h => h) (by rfl) (⟨rfl, rfl, rfl⟩) ?_ ?_; rotate_left
  · (intro V hSV; have q4 := (World.cell?_of_block (a := ⟨a.p, 4, none⟩) hSV.2.1).trans HC4.out; have q0 := (World.cell?_of_block (a := ⟨w.heap.size, 0, none⟩) hSV.1).trans HX0.out; have ql := HLk.out V hSV.2.2; go_simp; all_goals (with_reducible rfl))
  (try simp only [Act.put, List.setIfInBounds_toArray, List.set_cons_zero, List.set_cons_succ])
  refine' takeG (i := 6) (v := _) rfl (by kernel_rfl) (by kernel_rfl) (by kernel_rfl) (by kernel_rfl) (fun _ _ _ h => h) (by rfl) (⟨rfl, rfl, rfl⟩) ?_ ?_; rotate_left
  · (intro V hSV; have q4 := (World.cell?_of_block (a := ⟨a.p, 4, none⟩) hSV.2.1).trans HC4.out; have q0 := (World.cell?_of_block (a := ⟨w.heap.size, 0, none⟩) hSV.1).trans HX0.out; have ql := HLk.out V hSV.2.2; go_simp; all_goals (with_reducible rfl))
  (try simp only [Act.put, List.setIfInBounds_toArray, List.set_cons_zero, List.set_cons_succ])
  refine' takeG (i := 7) (v := _) rfl (by kernel_rfl) (by kernel_rfl) (by kernel_rfl) (by kernel_rfl) (fun _ _ _ h => h) (by rfl) (⟨rfl, rfl, rfl⟩) ?_ ?_; rotate_left
  · (intro V hSV; have q4 := (World.cell?_of_block (a := ⟨a.p, 4, none⟩) hSV.2.1).trans HC4.out; have q0 := (World.cell?_of_block (a := ⟨w.heap.size, 0, none⟩) hSV.1).trans HX0.out; have ql := HLk.out V hSV.2.2; go_simp; all_goals (with_reducible rfl))
  (try simp only [Act.put, List.setIfInBounds_toArray, List.set_cons_zero, List.set_cons_succ])
  refine' takeG (i := 8) (v := _) rfl (by kernel_rfl) (by kernel_rfl) (by kernel_rfl) (by kernel_rfl) (fun _ _ _ h => h) (by rfl) (⟨rfl, rfl, rfl⟩) ?_ ?_; rotate_left
  · (intro V hSV; have q4 := (World.cell?_of_block (a := ⟨a.p, 4, none⟩) hSV.2.1).trans HC4.out; have q0 := (World.cell?_of_block (a := ⟨w.heap.size, 0, none⟩) hSV.1).trans HX0.out; have ql := HLk.out V hSV.2.2; go_simp; all_goals (with_reducible rfl))
  (try simp only [Act.put, List.setIfInBounds_toArray, List.set_cons_zero, List.set_cons_succ])
  refine' takeG (i := 9) (v := _) rfl (by kernel_rfl) (by kernel_rfl) (by kernel_rfl) (by kernel_rfl) (fun _ _ _ h => h) (by rfl) (⟨rfl, rfl, rfl⟩) ?_ ?_; rotate_left
  · (intro V hSV; have q4 := (World.cell?_of_block (a := ⟨a.p, 4, none⟩) hSV.2.1).trans HC4.out; have q0 := (World.cell?_of_block (a := ⟨w.heap.size, 0, none⟩) hSV.1).trans HX0.out; have ql := HLk.out V hSV.2.2; go_simp; all_goals (with_reducible rfl))
  (try simp only [Act.put, List.setIfInBounds_toArray, List.set_cons_zero, List.set_cons_succ])
  refine callE (i := 10) rfl (by kernel_rfl) (fun K hK => ?_)
  go_simp
  refine hK.out _ _ (fun _ => ⟨HBz.out _ _ hl0, HBz.out _ _ hlp, HBz.out _ _ hlm⟩) ?_
  clear hK K
  (try simp only [Act.put, List.setIfInBounds_toArray, List.set_cons_zero, List.set_cons_succ])
  have HBs := hide (fun o : Obj => HBz.out o)
  refine callE (i := 11) rfl (by kernel_rfl) (fun K hK => ?_)
  go_simp
  refine hK.out _ _ (fun _ => ⟨HBz.out _ _ hl0, HBz.out _ _ hlp, HBz.out _ _ hlm⟩) ?_
  clear hK K
  (try simp only [Act.put, List.setIfInBounds_toArray, List.set_cons_zero, List.set_cons_succ])
  refine callE (i := 12) rfl (by kernel_rfl) (fun K hK => ?_)
  go_simp
  refine hK.out _ _ (fun _ => ⟨HBz.out _ _ hl0, HBz.out _ _ hlp, HBz.out _ _ hlm⟩) ?_
  clear hK K
  (try simp only [Act.put, List.setIfInBounds_toArray, List.set_cons_zero, List.set_cons_succ])
  refine doneE (by kernel_rfl) ?_ _
  rw [← HW5.out]
  have ha5 : ∀ (j : Nat) (v : Value), #[Value.int .u64 sq0, .int .i64 mo.er, .int .u64 mo.tx, .int .u64 mo.ts, .bool mo.fl, .slice mo.sa mo.sn mo.sc, .slice none 0 0, .slice mo.ta mo.tn mo.tc].toList[j]? = some v → W5.cell? ⟨W1.heap.size, j, none⟩ = some v := fun j v hv => by
    rw [HW5.out]
    have h1 := rangeY_new W1 W1.heap.size #[.int .u64 sq0, .int .i64 mo.er, .int .u64 mo.tx, .int .u64 mo.ts, .bool mo.fl, .slice mo.sa mo.sn mo.sc, .slice none 0 0, .slice mo.ta mo.tn mo.tc] 144 rfl j v hv
    rw [Nat.zero_add] at h1
    exact h1
  have b0 := ha5 0 _ rfl
  have hx5 : W5.cell? ⟨w.heap.size, 1, none⟩ = some (.int .u64 c.sq) := (Box21.same HX1.out (HB5.out.block w.heap.size hl0)).c1
  have HZ5 := hide (HZ1.out.same (HB5.out.block (w.heap.size + 1) (by have := HS1.out; omega)))
  have hl5 := HB5.out.size
  obtain ⟨z0, z1, z2, z3, z4, z5, z6, zf⟩ := HZ5.out
  have g0 := zf 0
  have g1 := zf 1
  have g2 := zf 2
  have g3 := zf 3
  have g4 := zf 4
  have g5 := zf 5
  have g6 := zf 6
  clear ha5 hne zf
  go_wp2
  change bodyPost _ _ _ _ _ (ResAt W5 (w.heap.size + 1) (mresN 1 0 0 false))
  have hk : Keeps (fun k => k = w.heap.size + 1) W5 (ResAt W5 (w.heap.size + 1) (mresN 1 0 0 false)) := keepsYs _ _ _ _
  have hend := HEl.out (ResAt W5 (w.heap.size + 1) (mresN 1 0 0 false)) (kp_below (kpThen (Below.keeps (HB1.out.trans (HB5.out.mono HB1.out.size)) _) (fun k (e : k = w.heap.size + 1) => .inl (by omega)) hk))
  rw [hX] at hend
  obtain ⟨r0, r1, r2, r3, r4, r5, r6⟩ := resAt_box HZ5.out (mresN 1 0 0 false)
  generalize ResAt W5 (w.heap.size + 1) (mresN 1 0 0 false) = W at *
  exact bodyPost_ret (v := (mresN 1 0 0 false).v) (by simp [results, Tryz.results27, go_sem, MRes.v, r0, r1, r2, r3, r4, r5, r6]) rfl hend

end Go.Proofs.YtcgiicmmfleinaaGreatDoor
