/- A mesh: Next, Waiting. -/
import Derived.Test.YtodmieehdleohaaMs8
namespace Go.Proofs.Ytodmieehdleohaa
open Go.RowKit NumMath Go.ChangeShapes Go.WideShapes Go.Deep
set_option linter.unusedVariables false
set_option maxRecDepth 100000

/-- a message laid over the first one -/
theorem Seg.stored {w w' : World} {g off n c : Nat} {xs : List Value} {m : MMsg} (h : Seg w 14 (.slice (some ⟨g, off, none⟩) (n + 1) c) (n + 1) xs) (hs : StoredG w g off m w') : Seg w' 14 (.slice (some ⟨g, off, none⟩) (n + 1) c) (n + 1) (m.vals ++ xs.drop 14) := by
  have hn := h.1
  rcases h.2 with ⟨_, h0⟩ | ⟨g', off', cap, e', hg, hnc, hcm, hc, hr⟩
  · omega
  · cases e'
    refine ⟨by rw [List.length_append, List.length_drop, vals_len, hn]; omega, .inr ⟨g, off, c, rfl, by rw [hs.sz]; exact hg, hnc, hcm, fun j u hj => ?_, fun j hj => ⟨hs.is _ (hr j hj).1, (hs.fz _).trans (hr j hj).2⟩⟩⟩
    by_cases h14 : j < 14
    · rw [List.getElem?_append_left (by rw [vals_len]; exact h14)] at hj
      exact hs.c j u hj
    · rw [List.getElem?_append_right (by rw [vals_len]; omega), vals_len, List.getElem?_drop] at hj
      have e : 14 + (j - 14) = j := by omega
      rw [e] at hj
      rw [hs.out (off + j) (.inr (by omega))]
      exact hc j u hj

theorem cellsG_first (m : MMsg) (r : List MMsg) : (cellsG (m :: r)).drop 14 = cellsG r := by
  show (m.vals ++ cellsG r).drop 14 = _
  rw [← vals_len m, List.drop_left]

theorem seg_first {w : World} {g off n c : Nat} {m : MMsg} {r : List MMsg} (h : ∀ j u, (cellsG (m :: r))[j]? = some u → w.cell? ⟨g, off + j, none⟩ = some u) : CellG w g off m := by
  intro j u hj
  refine h j u ?_
  show (m.vals ++ cellsG r)[j]? = _
  rw [List.getElem?_append_left (List.getElem?_eq_some_iff.1 hj).1]
  exact hj

/-- what Next answers, and leaves -/
def NextPost (w : World) (base p z : Nat) (cs : Nat → Value) (F : List (Int × Int)) (C : Int → Int → Bool) (Q : Nat → List MMsg) (e : Ending) (w' : World) : Prop :=
  (Q 2 = [] ∧ e = .returned (.tuple #[.agg #[.int .i64 msg0.k, .int .u64 msg0.fr, .int .u64 msg0.tt, .int .u64 msg0.tm, .int .u64 msg0.ix, .int .u64 msg0.lt, .int .u64 msg0.cm, .int .u64 msg0.hn, .bool msg0.rj, .slice msg0.ea msg0.en msg0.ec, .int .u64 msg0.si, .int .u64 msg0.st, .slice msg0.ma msg0.mn msg0.mc, .slice msg0.sa msg0.sn msg0.sc], .bool false]) ∧ MPost w base p z cs F C Q w') ∨ ∃ m r, Q 2 = m :: r ∧ e = .returned (.tuple #[.agg #[.int .i64 m.k, .int .u64 m.fr, .int .u64 m.tt, .int .u64 m.tm, .int .u64 m.ix, .int .u64 m.lt, .int .u64 m.cm, .int .u64 m.hn, .bool m.rj, .slice m.ea m.en m.ec, .int .u64 m.si, .int .u64 m.st, .slice m.ma m.mn m.mc, .slice m.sa m.sn m.sc], .bool true]) ∧ m.okX (fun _ => False) w' ∧ MPost w base p z cs F C (upd Q 2 r) w'

set_option maxHeartbeats 4000000 in
theorem nextM_none (base p z : Nat) (cs : Nat → Value) (F : List (Int × Int)) (C : Int → Int → Bool) (Q : Nat → List MMsg) (w : World) (h : IsMesh w base p z cs F C Q) (hq : Q 2 = []) :
    Calls Try.prog 11 #[.pointer (some ⟨p, 0, none⟩)] w fun e w' => e = .returned (.tuple #[.agg #[.int .i64 msg0.k, .int .u64 msg0.fr, .int .u64 msg0.tt, .int .u64 msg0.tm, .int .u64 msg0.ix, .int .u64 msg0.lt, .int .u64 msg0.cm, .int .u64 msg0.hn, .bool msg0.rj, .slice msg0.ea msg0.en msg0.ec, .int .u64 msg0.si, .int .u64 msg0.st, .slice msg0.ma msg0.mn msg0.mc, .slice msg0.sa msg0.sn msg0.sc], .bool false]) ∧ MPost w base p z cs F C Q w' := by
  have H := hide h
  have c2 := h.cell 2 (by decide)
  have hS := h.seg 2 (by decide) (by decide)
  have hpl := h.pb.2
  have hne : ¬ w.heap.size = p := by omega
  have hne2 : ¬ p = w.heap.size := by omega
  obtain ⟨a2, d2, e2, -, -⟩ := hS.form
  rw [e2, hq] at c2
  simp only [List.length_nil] at c2
  have HMade := hide (fun W (hW : Below w.heap.size w W) => madeM_any W base p z cs F C Q (h.keep hW))
  clear h hS e2
  go_enter Try.func11, Try.ntmps11
  go_wp2_with (first
    | (go_at_call 21; go_must (refine (HMade.out _ (by repeat (first | exact Below.refl _ _ | refine belA ?_ _ | refine Below.drew ?_))).mono ?_); rintro e w' ⟨rfl, hw⟩; have hw := hw.symm; subst hw))
  refine bodyPost_ret (v := .tuple #[.agg #[.int .i64 msg0.k, .int .u64 msg0.fr, .int .u64 msg0.tt, .int .u64 msg0.tm, .int .u64 msg0.ix, .int .u64 msg0.lt, .int .u64 msg0.cm, .int .u64 msg0.hn, .bool msg0.rj, .slice msg0.ea msg0.en msg0.ec, .int .u64 msg0.si, .int .u64 msg0.st, .slice msg0.ma msg0.mn msg0.mc, .slice msg0.sa msg0.sn msg0.sc], .bool false]) (by simp [results, Try.results11, go_sem, msg0, msgK]) rfl ?_
  exact ⟨rfl, cs, H.out.keep (by repeat (first | exact Below.refl _ _ | refine belA ?_ _ | refine Below.drew ?_)), Below.keeps (by repeat (first | exact Below.refl _ _ | refine belA ?_ _ | refine Below.drew ?_)) _, fun k hk => .inl hk⟩

set_option maxHeartbeats 4000000 in
theorem nextM_some (base p z : Nat) (cs : Nat → Value) (F : List (Int × Int)) (C : Int → Int → Bool) (Q : Nat → List MMsg) (m : MMsg) (r : List MMsg) (w : World) (h : IsMesh w base p z cs F C Q) (hbase : base ≤ w.heap.size) (hq : Q 2 = m :: r) :
    Calls Try.prog 11 #[.pointer (some ⟨p, 0, none⟩)] w fun e w' => e = .returned (.tuple #[.agg #[.int .i64 m.k, .int .u64 m.fr, .int .u64 m.tt, .int .u64 m.tm, .int .u64 m.ix, .int .u64 m.lt, .int .u64 m.cm, .int .u64 m.hn, .bool m.rj, .slice m.ea m.en m.ec, .int .u64 m.si, .int .u64 m.st, .slice m.ma m.mn m.mc, .slice m.sa m.sn m.sc], .bool true]) ∧ m.okX (fun _ => False) w' ∧ MPost w base p z cs F C (upd Q 2 r) w' := by
  have H := hide h
  have c2 := h.cell 2 (by decide)
  have f2 := h.fz 2
  have hS := h.seg 2 (by decide) (by decide)
  have hpl := h.pb.2
  have hne : ¬ w.heap.size = p := by omega
  have hne2 : ¬ p = w.heap.size := by omega
  have hne3 : ¬ w.heap.size + 1 = p := by omega
  have hne4 : ¬ p = w.heap.size + 1 := by omega
  obtain ⟨a2, d2, e2, -, hd2⟩ := hS.form
  rw [e2, hq] at c2 hS
  simp only [List.length_cons] at c2 hS
  obtain ⟨g, off, rfl, hg, hx, hr⟩ := hS.at (by omega)
  have hgp : ¬ g = p := fun e => H.out.op 2 (by decide) (by rw [e2, e]; rfl)
  have hgp2 : ¬ p = g := fun e => hgp e.symm
  have hg1 : ¬ g = w.heap.size := by omega
  have hg2 : ¬ w.heap.size = g := by omega
  have hmx : (r.length : Int) + 1 ≤ 9223372036854775807 := by rw [hq] at e2; have := (h.seg 2 (by decide) (by decide)).form; obtain ⟨_, c', e', h1, h2⟩ := this; rw [hq] at h1; simp at h1; unfold maxLen at h2; omega
  have hrl : ((r.length : Int) + 1 == 0) = false := by simp; omega
  have hrl2 : ((r.length : Int) + 1 = 0) = False := by simp; omega
  have hrp : (0 : Int) < (r.length : Int) + 1 := by omega
  have HS := hide hS
  have HCe := hide (seg_first (n := 0) (c := 0) hx)
  have HTh : Hid (∀ W, Below w.heap.size w W → W.there g off 14) := fun W hW j hj => by
    have hj2 : j < d2 * 14 := by
      rcases hS.2 with ⟨_, h0⟩ | ⟨g', off', cap, e', _, hnc, _⟩
      · omega
      · cases e'; omega
    have := hr j hj2
    exact ⟨by rw [hW.cell (p := ⟨g, off + j, none⟩) hg]; exact this.1, (hW.frozen (p := ⟨g, off + j, none⟩) hg).trans this.2⟩
  have HE2 := hide e2
  have HQ := hide hq
  have HMade := hide (fun W (hW : Below w.heap.size w W) => madeM_any W base p z cs F C Q (h.keep hW))
  obtain ⟨b, c', hcut, hob, -⟩ := hS.tail 46 Try.underlying46 size_msg
  have HCut := hide hcut
  have HOb := hide hob
  have HR0 := hide (boxG_new w msg0 w.heap.size 39 rfl)
  have HX1 := hide (fun (o : Obj) => boxG_new (w.alloc o) m (w.heap.size + 1) 39 (by simp))
  clear h hS hx hr e2 hq hob hd2 hcut
  have hcut := HCut.out
  go_enter Try.func11, Try.ntmps11
  go_wp2_with (first
    | (go_at_call 21; go_must (refine (HMade.out _ (by repeat (first | exact Below.refl _ _ | refine belA ?_ _ | refine Below.drew ?_))).mono ?_); rintro e w' ⟨rfl, hw⟩; have hw := hw.symm; subst hw)
    | (refine wp_loadG _ rfl (.tmp 21) rfl g off m rfl (HCe.out.same (Below.block (B := w.heap.size) (by repeat (first | exact Below.refl _ _ | refine belA ?_ _ | refine Below.drew ?_)) g hg)) ?_)
    | (refine wp_loadG _ rfl (.tmp 4) rfl (w.heap.size + 1) 0 m rfl HX6.out.c ?_)
    | (refine wp_storeG _ rfl (.tmp 2) (.tmp 37) rfl w.heap.size 0 m rfl rfl HR6.out.there ?_; intro w7 hS7; have HS7 := hide hS7; have HR7 := hide (HR6.out.stored hS7); clear hS7)
    | (refine wp_storeG _ rfl (.tmp 28) (.tmp 27) rfl g off msg0 rfl rfl (HTh.out _ (by repeat (first | exact Below.refl _ _ | refine belA ?_ _ | refine Below.drew ?_))) ?_; intro w4 hS4; have HS4 := hide hS4; have HX4 := hide ((HX1.out _).lies hS4.kp (by show ¬ w.heap.size + 1 = g; omega)); have HR4 := hide ((HR0.out.keep (w' := _) (new_below _ _)).lies hS4.kp (by show ¬ w.heap.size = g; omega)); have c24 := (hS4.kp.cell (g := p) (i := 2) (by simp; omega) hgp2).trans (show _ = some (Value.slice (some ⟨g, off, none⟩) (r.length + 1) d2) from (Below.cell (B := w.heap.size) (w := w) (by repeat (first | exact Below.refl _ _ | refine belA ?_ _ | refine Below.drew ?_)) (p := ⟨p, 2, none⟩) hpl).trans c2); have f24 := (hS4.fz ⟨p, 2, none⟩).trans (show _ = false from (Below.frozen (B := w.heap.size) (w := w) (by repeat (first | exact Below.refl _ _ | refine belA ?_ _ | refine Below.drew ?_)) (p := ⟨p, 2, none⟩) hpl).trans f2); have HX6 := hide (HX4.out.lies (keeps_cell (g := p) (i := 2) (.slice b r.length c')) (by show ¬ w.heap.size + 1 = p; omega)); have HR6 := hide (HR4.out.lies (keeps_cell (g := p) (i := 2) (.slice b r.length c')) (by show ¬ w.heap.size = p; omega)); clear hS4)
    | (refine wp_storeN (w.alloc (.cells #[.int .i64 0, .int .u64 0, .int .u64 0, .int .u64 0, .int .u64 0, .int .u64 0, .int .u64 0, .int .u64 0, .bool false, .slice none 0 0, .int .u64 0, .int .u64 0, .slice none 0 0, .slice none 0 0] 39)) rfl (.tmp 4) (.tmp 22) rfl (w.heap.size + 1) (by simp) m rfl rfl ?_))
  obtain ⟨r0, r1, r2, r3, r4, r5, r6, r7, r8, r9, r10, r11, r12, r13⟩ := HR7.out.x
  refine bodyPost_ret (v := .tuple #[.agg #[.int .i64 m.k, .int .u64 m.fr, .int .u64 m.tt, .int .u64 m.tm, .int .u64 m.ix, .int .u64 m.lt, .int .u64 m.cm, .int .u64 m.hn, .bool m.rj, .slice m.ea m.en m.ec, .int .u64 m.si, .int .u64 m.st, .slice m.ma m.mn m.mc, .slice m.sa m.sn m.sc], .bool true]) (by simp [results, Try.results11, go_sem, r0, r1, r2, r3, r4, r5, r6, r7, r8, r9, r10, r11, r12, r13]) rfl ?_
  have hS4 := HS4.out
  have hS7 := HS7.out
  have hb : Below w.heap.size w ((w.alloc (.cells #[.int .i64 0, .int .u64 0, .int .u64 0, .int .u64 0, .int .u64 0, .int .u64 0, .int .u64 0, .int .u64 0, .bool false, .slice none 0 0, .int .u64 0, .int .u64 0, .slice none 0 0, .slice none 0 0] 39)).alloc (.cells #[.int .i64 m.k, .int .u64 m.fr, .int .u64 m.tt, .int .u64 m.tm, .int .u64 m.ix, .int .u64 m.lt, .int .u64 m.cm, .int .u64 m.hn, .bool m.rj, .slice m.ea m.en m.ec, .int .u64 m.si, .int .u64 m.st, .slice m.ma m.mn m.mc, .slice m.sa m.sn m.sc] 39)) := (by repeat (first | exact Below.refl _ _ | refine belA ?_ _ | refine Below.drew ?_))
  clear HS4 HS7 HX4 HX6 HR4 HR6 HR7 HX1 HR0 c24 f24 r0 r1 r2 r3 r4 r5 r6 r7 r8 r9 r10 r11 r12 r13
  generalize ((w.alloc (.cells #[.int .i64 0, .int .u64 0, .int .u64 0, .int .u64 0, .int .u64 0, .int .u64 0, .int .u64 0, .int .u64 0, .bool false, .slice none 0 0, .int .u64 0, .int .u64 0, .slice none 0 0, .slice none 0 0] 39)).alloc (.cells #[.int .i64 m.k, .int .u64 m.fr, .int .u64 m.tt, .int .u64 m.tm, .int .u64 m.ix, .int .u64 m.lt, .int .u64 m.cm, .int .u64 m.hn, .bool m.rj, .slice m.ea m.en m.ec, .int .u64 m.si, .int .u64 m.st, .slice m.ma m.mn m.mc, .slice m.sa m.sn m.sc] 39)) = W1 at *
  obtain ⟨b2, c2', hcut2, hob2, hseg2⟩ := ((HS.out.keep hb).stored hS4).tail 46 Try.underlying46 size_msg
  have e := (HCut.out w).symm.trans (hcut2 w)
  simp at e
  obtain ⟨rfl, rfl⟩ := e
  have hdr : (msg0.vals ++ (cellsG (m :: r)).drop 14).drop 14 = cellsG r := by rw [cellsG_first, ← vals_len msg0, List.drop_left]
  rw [hdr] at hseg2
  have hown : ∀ k, (cs 2).ownBlock = some k ↔ k = g := by
    intro k
    rw [HE2.out]
    exact ⟨fun h => by cases h; rfl, fun h => by rw [h]; rfl⟩
  have hgS : Spine p cs g := .inr ⟨2, by decide, by rw [HE2.out]; rfl⟩
  have hk1 : Keeps (fun k => (cs 2).ownBlock = some k) W1 w4 := ⟨hS4.kp.os, hS4.kp.tape, hS4.kp.output, hS4.kp.size, fun k hk hn => hS4.kp.block k hk (fun e => hn ((hown k).2 e))⟩
  have hvo : (Value.slice b r.length c').ownBlock = (cs 2).ownBlock := by rw [HE2.out]; exact HOb.out
  have hP := (H.out.keep hb).put (Nat.le_trans hbase hb.size) 2 (by decide) (by decide) hk1 (.slice b r.length c') r hseg2 (.inl hvo) (fun x hx => ((((H.out.keep hb).dat 2 x (by decide) (by decide) (by rw [HQ.out]; exact List.mem_cons_of_mem _ hx)).lies hS4.kp (fun k e => by rw [e]; exact hgS)).more (fun k hk => .inl (hk.elim id (fun h1 => by rw [hvo] at h1; rw [(hown k).1 h1]; exact hgS)))))
  have hsp : ∀ k, Spine p (upd cs 2 (.slice b r.length c')) k → Spine p cs k ∨ w.heap.size ≤ k := fun k hk => (hP.2.2 k hk).imp id (fun h1 => Nat.le_trans hb.size h1)
  have hk6 : Keeps (fun k => Spine p cs k ∨ w.heap.size ≤ k) w (w4.setCell ⟨p, 2, none⟩ (.slice b r.length c')) := kpThen (Below.keeps hb _) (fun k hk => .inl (.inl hk)) hP.2.1
  have hk7 : Keeps (fun k => Spine p cs k ∨ w.heap.size ≤ k) w w7 := kpThen hk6 (fun k e => .inl (.inr (by rw [e]; exact Nat.le_refl _))) hS7.kp
  have hdat : ∀ i x, 2 ≤ i → i < 103 → x ∈ Q i → x.okX (fun k => Spine p cs k ∨ w.heap.size ≤ k) w7 := fun i x h2 hi hx => ((H.out.dat i x h2 hi hx).more (fun k hk => hk.imp id id)).lies hk7 (fun k hk => hk)
  refine ⟨rfl, (hdat 2 m (by decide) (by decide) (by rw [HQ.out]; exact List.mem_cons_self)).more (fun k hk => hk.elim), upd cs 2 (.slice b r.length c'), hP.1.lies hS7.kp (fun k e hs => ?_) (fun i x h2 hi hx => ?_), ?_, hsp⟩
  · rw [e] at hs
    rcases hs with h1 | ⟨i, hi, h1⟩
    · omega
    · by_cases e2 : i = 2
      · rw [e2, upd_at] at h1
        have h3 : (Value.slice b r.length c').ownBlock = some w.heap.size := by cases b <;> exact h1
        rw [hvo] at h3
        have := (hown _).1 h3
        omega
      · rw [upd_ne _ _ _ e2] at h1
        have := (H.out.rng i _ hi h1).2
        omega
  · refine (hdat i x h2 hi ?_).more (fun k hk => .inl (hsp k hk))
    by_cases e2 : i = 2
    · subst e2
      rw [upd_at] at hx
      rw [HQ.out]
      exact List.mem_cons_of_mem _ hx
    · rw [upd_ne _ _ _ e2] at hx
      exact hx
  · exact ⟨hk7.os, hk7.tape, hk7.output, hk7.size, fun k hk hn => hk7.block k hk (fun h => h.elim hn (fun h1 => by omega))⟩

theorem nextM_any (base p z : Nat) (cs : Nat → Value) (F : List (Int × Int)) (C : Int → Int → Bool) (Q : Nat → List MMsg) (w : World) (h : IsMesh w base p z cs F C Q) (hbase : base ≤ w.heap.size) :
    Calls Try.prog 11 #[.pointer (some ⟨p, 0, none⟩)] w fun e w' => NextPost w base p z cs F C Q e w' := by
  cases hq : Q 2 with
  | nil => exact (nextM_none base p z cs F C Q w h hq).mono (fun e w' hh => .inl ⟨hq, hh.1, hh.2⟩)
  | cons m r => exact (nextM_some base p z cs F C Q m r w h hbase hq).mono (fun e w' hh => .inr ⟨m, r, hq, hh.1, hh.2.1, hh.2.2⟩)

theorem nextM_nil (w : World) :
    Calls Try.prog 11 #[.pointer none] w fun e w' => e = .returned (.tuple #[.agg #[.int .i64 msg0.k, .int .u64 msg0.fr, .int .u64 msg0.tt, .int .u64 msg0.tm, .int .u64 msg0.ix, .int .u64 msg0.lt, .int .u64 msg0.cm, .int .u64 msg0.hn, .bool msg0.rj, .slice msg0.ea msg0.en msg0.ec, .int .u64 msg0.si, .int .u64 msg0.st, .slice msg0.ma msg0.mn msg0.mc, .slice msg0.sa msg0.sn msg0.sc], .bool false]) ∧ Below w.heap.size w w' := by
  go_enter Try.func11, Try.ntmps11
  go_wp2_with (first
    | (go_at_call 21; go_must (refine (madeM_nil _).mono ?_); rintro e w' ⟨rfl, hw⟩; have hw := hw.symm; subst hw))
  refine bodyPost_ret (v := .tuple #[.agg #[.int .i64 msg0.k, .int .u64 msg0.fr, .int .u64 msg0.tt, .int .u64 msg0.tm, .int .u64 msg0.ix, .int .u64 msg0.lt, .int .u64 msg0.cm, .int .u64 msg0.hn, .bool msg0.rj, .slice msg0.ea msg0.en msg0.ec, .int .u64 msg0.si, .int .u64 msg0.st, .slice msg0.ma msg0.mn msg0.mc, .slice msg0.sa msg0.sn msg0.sc], .bool false]) (by simp [results, Try.results11, go_sem, msg0, msgK]) rfl ?_
  exact ⟨rfl, (by repeat (first | exact Below.refl _ _ | refine belA ?_ _ | refine Below.drew ?_))⟩

end Go.Proofs.Ytodmieehdleohaa
