/- The reference's Meta.Do. Printed by part/gen_mxj.py. The law MetaDoes. Printed by part/gen_mxk.py. The reference's Meta.one of CmdTable, given what its Meta.table does. Printed by part/gen_mxl.py. MetaDoes whole: what the reference's CmdTable does is filled in. Printed by part/gen_mxl.py. -/
import Derived.Test.YtcgiicmmfleinaaGreatDoorMxR
import Derived.Test.YtcgiicmmfleinaaGreatDoorLkB
import Derived.Test.YtcgiicmmfleinaaGreatDoorDrA
import Derived.Test.YtcgiicmmfleinaaGreatDoorMxI
namespace Go.Proofs.YtcgiicmmfleinaaGreatDoor
open Go.RowKit NumMath Go.ChangeShapes Go.WideShapes Go.Deep
set_option linter.unusedVariables false
set_option linter.unusedSimpArgs false
set_option maxRecDepth 100000

/-- what is asked of CmdTable -/
def Table6 : Prop := ∀ (F : Nat → Prop) (w0 w : World) (a : Xm) (z : Nat) (S : Mac), IsXm F w0 w a z S → ∀ c : MCmd, c.ok w0 → c.c.Few → z ≤ 159 → c.kd = 6 → Calls Tryz.prog 30 #[.pointer (some ⟨a.p, 0, none⟩), .agg #[.int .u64 c.cl, .int .u64 c.sq, .int .i64 c.kd, .int .u64 c.tx, .int .u64 c.ts, .bool c.fl, .int .u64 c.lk.l.tx, .int .i64 c.lk.l.lv, .int .i64 c.lk.l.md, .slice c.lk.la c.lk.ln c.lk.lc, .slice c.lk.ha c.lk.hn c.lk.hc, .slice c.lo.a c.lo.n c.lo.c, .slice c.hi.a c.hi.n c.hi.c, .slice c.txs.a c.txs.n c.txs.c, .slice c.ws.a c.ws.n c.ws.c, .slice c.ks.a c.ks.n c.ks.c, .int .i64 c.tb.id, .string (strB c.tb.nm), .slice c.tb.cs.a c.tb.cs.n c.tb.cs.c, .int .i64 c.tb.ky, .slice c.tb.ix.a c.tb.ix.n c.tb.ix.c]] w (XsPost F w0 w a (z + 1) (oneM S c.c))

theorem xone_any (H6 : Table6) {F : Nat → Prop} {w0 w : World} {a : Xm} {z : Nat} {S : Mac} (h : IsXm F w0 w a z S) (c : MCmd) (hc : c.ok w0) (hf : c.c.Few) (hz : z ≤ 159) : Calls Tryz.prog 30 #[.pointer (some ⟨a.p, 0, none⟩), .agg #[.int .u64 c.cl, .int .u64 c.sq, .int .i64 c.kd, .int .u64 c.tx, .int .u64 c.ts, .bool c.fl, .int .u64 c.lk.l.tx, .int .i64 c.lk.l.lv, .int .i64 c.lk.l.md, .slice c.lk.la c.lk.ln c.lk.lc, .slice c.lk.ha c.lk.hn c.lk.hc, .slice c.lo.a c.lo.n c.lo.c, .slice c.hi.a c.hi.n c.hi.c, .slice c.txs.a c.txs.n c.txs.c, .slice c.ws.a c.ws.n c.ws.c, .slice c.ks.a c.ks.n c.ks.c, .int .i64 c.tb.id, .string (strB c.tb.nm), .slice c.tb.cs.a c.tb.cs.n c.tb.cs.c, .int .i64 c.tb.ky, .slice c.tb.ix.a c.tb.ix.n c.tb.ix.c]] w (XsPost F w0 w a (z + 1) (oneM S c.c)) := by
  by_cases h1 : c.kd = 1
  · exact xone1_any h c hc hf hz h1
  by_cases h2 : c.kd = 2
  · exact xone2_any h c hc hf hz h2
  by_cases h3 : c.kd = 3
  · exact xone3_any h c hc hf hz h3
  by_cases h4 : c.kd = 4
  · exact xone4_any h c hc hf hz h4
  by_cases h5 : c.kd = 5
  · exact xone5_any h c hc hf hz h5
  by_cases h6 : c.kd = 6
  · exact H6 F w0 w a z S h c hc hf hz h6
  by_cases h7 : c.kd = 7
  · exact xone7_any h c hc hf hz h7
  exact xone0_any h c hc hf hz h1 h2 h3 h4 h5 h6 h7

/-- either of two may come up -/
theorem bothE {P : Program} {l : List Oper} {md : Region.Mode} {Q : Exit → Act → World → Prop} {S : World → Prop} {w : World} {E : Nat → Bool} {i j : Nat} {o o' : Oper} {fuel : Nat} {listed : Array Bool} {a : Act} (hi : l[i]? = some o) (hj : l[j]? = some o') (hr : Region.ready md l.toArray listed = [i, j])
    (h : ∀ K : Act → World → Prop, Shut (∀ a w', (E i = false → S w') → wpAnyE P md l.toArray Q S E fuel (listed.setIfInBounds i true) a w' → K a w') → if Region.wanted o (yielded l.toArray a.tmps) = true then Oper.wp P o a w K Q else K (a.put o.dst undef) w)
    (h' : ∀ K : Act → World → Prop, Shut (∀ a w', (E j = false → S w') → wpAnyE P md l.toArray Q S E fuel (listed.setIfInBounds j true) a w' → K a w') → if Region.wanted o' (yielded l.toArray a.tmps) = true then Oper.wp P o' a w K Q else K (a.put o'.dst undef) w) :
    wpAnyE P md l.toArray Q S E (fuel + 1) listed a w := by
  refine ⟨fun h0 => (by rw [hr] at h0; cases h0), fun n hn => ?_⟩
  rw [hr] at hn
  rcases List.mem_cons.1 hn with rfl | hn
  · have h1 := h (fun a' w' => (E n = false → S w') ∧ wpAnyE P md l.toArray Q S E fuel (listed.setIfInBounds n true) a' w') (fun a w' h1 h2 => ⟨h1, h2⟩)
    have h2 : l.toArray[n]? = some o := by simpa using hi
    unfold wpOp
    rw [h2]
    dsimp only
    by_cases hwt : Region.wanted o (yielded l.toArray a.tmps) = true
    · rw [if_pos hwt] at h1 ⊢
      exact .inl h1
    · rw [if_neg hwt] at h1 ⊢
      exact h1
  · rw [List.mem_singleton] at hn
    subst hn
    have h1 := h' (fun a' w' => (E n = false → S w') ∧ wpAnyE P md l.toArray Q S E fuel (listed.setIfInBounds n true) a' w') (fun a w' h1 h2 => ⟨h1, h2⟩)
    have h2 : l.toArray[n]? = some o' := by simpa using hj
    unfold wpOp
    rw [h2]
    dsimp only
    by_cases hwt : Region.wanted o' (yielded l.toArray a.tmps) = true
    · rw [if_pos hwt] at h1 ⊢
      exact .inl h1
    · rw [if_neg hwt] at h1 ⊢
      exact h1

theorem was_true {tl : List MTo} {S : Mac} {c : Cmd} {r1 : MRr} (h : LaX tl S.la) (hw : wasT tl c.cl c.sq = (r1, true)) : ∃ R, doM S c = (R, S) ∧ r1.p = R.p ∧ (r1 = resR 1 ∨ ∃ t ∈ tl, r1 = t.r) := by
  by_cases h0 : c.cl = 0
  · rw [h0, was_zero] at hw
    exact absurd (congrArg Prod.snd hw) (by simp)
  · unfold doM
    rw [if_neg h0]
    cases hl : S.la c.cl with
    | none =>
      rw [was_none c.sq h h0 hl] at hw
      exact absurd (congrArg Prod.snd hw) (by simp)
    | some x =>
      obtain ⟨sq0, r0⟩ := x
      obtain ⟨g1, g2, g3⟩ := was_some c.sq h h0 hl
      dsimp only
      by_cases h1 : sq0 = c.sq
      · obtain ⟨t, ht, e, ep⟩ := g1 h1
        rw [hw] at e
        have e1 : r1 = t.r := congrArg Prod.fst e
        rw [if_pos h1]
        exact ⟨r0, rfl, by rw [e1]; exact ep, .inr ⟨t, ht, e1⟩⟩
      · rw [if_neg h1]
        by_cases h2 : c.sq < sq0
        · have e := g2 h1 h2
          rw [hw] at e
          have e1 : r1 = resR 1 := congrArg Prod.fst e
          rw [if_pos h2]
          exact ⟨errR 1, rfl, by rw [e1]; rfl, .inl e1⟩
        · have e := g3 h1 h2
          rw [hw] at e
          exact absurd (congrArg Prod.snd e) (by simp)

theorem was_false {tl : List MTo} {S : Mac} {c : Cmd} {r1 : MRr} (h : LaX tl S.la) (hw : wasT tl c.cl c.sq = (r1, false)) : doM S c = if c.cl = 0 then oneM S c else noteM c (oneM S c) := by
  by_cases h0 : c.cl = 0
  · unfold doM
    rw [if_pos h0, if_pos h0]
  · rw [if_neg h0]
    unfold doM
    rw [if_neg h0]
    cases hl : S.la c.cl with
    | none => rfl
    | some x =>
      obtain ⟨sq0, r0⟩ := x
      obtain ⟨g1, g2, g3⟩ := was_some c.sq h h0 hl
      dsimp only
      by_cases h1 : sq0 = c.sq
      · obtain ⟨t, ht, e, ep⟩ := g1 h1
        rw [hw] at e
        exact absurd (congrArg Prod.snd e) (by simp)
      · rw [if_neg h1]
        by_cases h2 : c.sq < sq0
        · have e := g2 h1 h2
          rw [hw] at e
          exact absurd (congrArg Prod.snd e) (by simp)
        · rw [if_neg h2]

/-- what a note makes of the machine behind a command done -/
theorem noted_do {tl : List MTo} {z : Nat} {c : Cmd} {r : MRr} {x : Res × Mac} (h : LaX tl x.2.la) (hr : r.p = x.1.p) (hi : MacI z x.2) (hf : x.1.Few) (hu : U64 c.sq) :
    ∃ la', LaX (noteT tl c.cl c.sq r) la' ∧ MacI z { x.2 with la := la' } ∧ (if c.cl = 0 then x else noteM c x) = (x.1, { x.2 with la := la' }) := by
  by_cases h0 : c.cl = 0
  · refine ⟨x.2.la, ?_, hi, by rw [if_pos h0]⟩
    rw [h0]
    exact laX_note0 h
  · exact ⟨fun k => if k = c.cl then some (c.sq, x.1) else x.2.la k, laX_note h h0 hr, (hi.noted (c := c) (x := x) hf hu).1, by rw [if_neg h0]; rfl⟩

/-- what clients were told as a note leaves it -/
theorem IsXm.noted {F : Nat → Prop} {w0 w w' : World} {a : Xm} {z y : Nat} {S : Mac} (h : IsXm F w0 w a z S) {l : List MTo} {v : Value} (hq : TxQ layTo w a.p 0 l w' v) (hl : Foot (fun k => a.X k ∨ F k) w (fun V => ∀ t ∈ l, t.r.ok V)) {la' : Int → Option (Int × Res)} (hx : LaX l la') (hn : l.length ≤ y) (hi : MacI y { S with la := la' }) :
    ∃ a' : Xm, a'.p = a.p ∧ (∀ k, a'.X k ↔ a.X k) ∧ IsXm F w0 w' a' y { S with la := la' } := by
  obtain ⟨va, vn, vc, rfl⟩ := hq.o.any3
  have hk2 : Keeps (fun k => a.X k ∨ F k) w w' := Keeps.wider hq.kp (fun k hk => .inl (.inl hk))
  have hlt : ∀ k, (a.X k ∨ F k) → k < w.heap.size := fun k hk => by
    rcases hk with hk | hk
    · exact (h.xl k hk).2
    · exact (h.fx k hk).2
  have hb : ∀ {x : Option Addr}, (∀ b, x = some b → a.sv.ownBlock ≠ some b.block ∧ ¬ F b.block ∧ b.block < w.heap.size) → ∀ b, x = some b → a.sv.ownBlock ≠ some b.block ∧ ¬ F b.block ∧ b.block < w'.heap.size := fun hx b hb => ⟨(hx b hb).1, (hx b hb).2.1, Nat.lt_of_lt_of_le (hx b hb).2.2 hq.kp.size⟩
  refine ⟨{ a with la := va, ln := vn, lc := vc, tl := l }, rfl, fun k => Iff.rfl, ⟨hq.c, (hq.oc 1 (by omega)).trans h.c1, (hq.oc 2 (by omega)).trans h.c2, (hq.oc 5 (by omega)).trans h.c5, h.so.lies (fun g hg => hq.kp.block g (h.so.lt g hg).2 (fun e => h.sp (by rw [hg, e]))), h.sp, ?_, h.eh, h.ew, hb h.hx, hb h.wx, h.tb.step hk2 (fun k hk => .inl hk), h.tm, h.ft, ?_, hx, hn, fun k hk => ⟨(h.fx k hk).1, Nat.lt_of_lt_of_le (h.fx k hk).2 hq.kp.size⟩, h.fd, hi⟩⟩
  · exact ⟨(hq.oc 3 (by omega)).trans h.lk.c0, (hq.oc 4 (by omega)).trans h.lk.c1, Nat.lt_of_lt_of_le h.lt hq.kp.size, fun j => (hq.fz j).trans (h.lk.fz j), h.lk.h.lies hq.kp h.lk.oh, h.lk.wt.lies hq.kp h.lk.ow, h.lk.b0.trans (hq.kp.below h.lk.b0.size (fun k (e : k = a.p) => by have := h.lk.q0; omega)), h.lk.q0, h.lk.ho, h.lk.wo, h.lk.oh, h.lk.ow, h.lk.fh, h.lk.fw, fun _ _ _ => rfl⟩
  · exact (foot_ownY hq.o hlt).and (hl.step hk2 (fun k hk => .inl hk))

set_option maxHeartbeats 4000000 in
theorem xdo_any (H6 : Table6) {F : Nat → Prop} {w0 w : World} {a : Xm} {z : Nat} {S : Mac} (h : IsXm F w0 w a z S) (c : MCmd) (hc : c.ok w0) (hf : c.c.Few) (hz : z ≤ 159) : Calls Tryz.prog 11 #[.pointer (some ⟨a.p, 0, none⟩), .agg #[.int .u64 c.cl, .int .u64 c.sq, .int .i64 c.kd, .int .u64 c.tx, .int .u64 c.ts, .bool c.fl, .int .u64 c.lk.l.tx, .int .i64 c.lk.l.lv, .int .i64 c.lk.l.md, .slice c.lk.la c.lk.ln c.lk.lc, .slice c.lk.ha c.lk.hn c.lk.hc, .slice c.lo.a c.lo.n c.lo.c, .slice c.hi.a c.hi.n c.hi.c, .slice c.txs.a c.txs.n c.txs.c, .slice c.ws.a c.ws.n c.ws.c, .slice c.ks.a c.ks.n c.ks.c, .int .i64 c.tb.id, .string (strB c.tb.nm), .slice c.tb.cs.a c.tb.cs.n c.tb.cs.c, .int .i64 c.tb.ky, .slice c.tb.ix.a c.tb.ix.n c.tb.ix.c]] w (XsPost F w0 w a (z + 2) (doM S c.c)) := by
  obtain ⟨W1, hW1⟩ : ∃ W1, W1 = ((w.alloc (.cells #[.int .u64 c.cl, .int .u64 c.sq, .int .i64 c.kd, .int .u64 c.tx, .int .u64 c.ts, .bool c.fl, .int .u64 c.lk.l.tx, .int .i64 c.lk.l.lv, .int .i64 c.lk.l.md, .slice c.lk.la c.lk.ln c.lk.lc, .slice c.lk.ha c.lk.hn c.lk.hc, .slice c.lo.a c.lo.n c.lo.c, .slice c.hi.a c.hi.n c.hi.c, .slice c.txs.a c.txs.n c.txs.c, .slice c.ws.a c.ws.n c.ws.c, .slice c.ks.a c.ks.n c.ks.c, .int .i64 c.tb.id, .string (strB c.tb.nm), .slice c.tb.cs.a c.tb.cs.n c.tb.cs.c, .int .i64 c.tb.ky, .slice c.tb.ix.a c.tb.ix.n c.tb.ix.c] 50)).alloc (.cells #[.int .i64 0, .int .u64 0, .int .u64 0, .bool false, .slice none 0 0, .slice none 0 0, .slice none 0 0] 55)) := ⟨_, rfl⟩
  have hb1 : Below w.heap.size w W1 := by
    rw [hW1]
    exact (new_below w _).trans ((new_below _ _).mono (new_below w _).size)
  have hl1 : W1.heap.size = w.heap.size + 2 := by rw [hW1]; simp
  have HX : Hid (∀ V, Below W1.heap.size W1 V → V.rangeAt w.heap.size 0 (layCm.cells c) ∧ V.rangeAt (w.heap.size + 1) 0 [.int .i64 0, .int .u64 0, .int .u64 0, .bool false, .slice none 0 0, .slice none 0 0, .slice none 0 0] ∧ ∀ j, V.frozen? ⟨w.heap.size + 1, j, none⟩ = false) := by
    intro V hb
    refine ⟨?_, ?_, fun j => ?_⟩
    · subst hW1
      exact (two_boxes w #[.int .u64 c.cl, .int .u64 c.sq, .int .i64 c.kd, .int .u64 c.tx, .int .u64 c.ts, .bool c.fl, .int .u64 c.lk.l.tx, .int .i64 c.lk.l.lv, .int .i64 c.lk.l.md, .slice c.lk.la c.lk.ln c.lk.lc, .slice c.lk.ha c.lk.hn c.lk.hc, .slice c.lo.a c.lo.n c.lo.c, .slice c.hi.a c.hi.n c.hi.c, .slice c.txs.a c.txs.n c.txs.c, .slice c.ws.a c.ws.n c.ws.c, .slice c.ks.a c.ks.n c.ks.c, .int .i64 c.tb.id, .string (strB c.tb.nm), .slice c.tb.cs.a c.tb.cs.n c.tb.cs.c, .int .i64 c.tb.ky, .slice c.tb.ix.a c.tb.ix.n c.tb.ix.c] #[.int .i64 0, .int .u64 0, .int .u64 0, .bool false, .slice none 0 0, .slice none 0 0, .slice none 0 0] 50 55 V hb).1
    · subst hW1
      exact (two_boxes w #[.int .u64 c.cl, .int .u64 c.sq, .int .i64 c.kd, .int .u64 c.tx, .int .u64 c.ts, .bool c.fl, .int .u64 c.lk.l.tx, .int .i64 c.lk.l.lv, .int .i64 c.lk.l.md, .slice c.lk.la c.lk.ln c.lk.lc, .slice c.lk.ha c.lk.hn c.lk.hc, .slice c.lo.a c.lo.n c.lo.c, .slice c.hi.a c.hi.n c.hi.c, .slice c.txs.a c.txs.n c.txs.c, .slice c.ws.a c.ws.n c.ws.c, .slice c.ks.a c.ks.n c.ks.c, .int .i64 c.tb.id, .string (strB c.tb.nm), .slice c.tb.cs.a c.tb.cs.n c.tb.cs.c, .int .i64 c.tb.ky, .slice c.tb.ix.a c.tb.ix.n c.tb.ix.c] #[.int .i64 0, .int .u64 0, .int .u64 0, .bool false, .slice none 0 0, .slice none 0 0, .slice none 0 0] 50 55 V hb).2
    · rw [hb.frozen (p := ⟨w.heap.size + 1, j, none⟩) (by show w.heap.size + 1 < W1.heap.size; omega), hW1]
      have h := fzY_new (w.alloc (.cells #[.int .u64 c.cl, .int .u64 c.sq, .int .i64 c.kd, .int .u64 c.tx, .int .u64 c.ts, .bool c.fl, .int .u64 c.lk.l.tx, .int .i64 c.lk.l.lv, .int .i64 c.lk.l.md, .slice c.lk.la c.lk.ln c.lk.lc, .slice c.lk.ha c.lk.hn c.lk.hc, .slice c.lo.a c.lo.n c.lo.c, .slice c.hi.a c.hi.n c.hi.c, .slice c.txs.a c.txs.n c.txs.c, .slice c.ws.a c.ws.n c.ws.c, .slice c.ks.a c.ks.n c.ks.c, .int .i64 c.tb.id, .string (strB c.tb.nm), .slice c.tb.cs.a c.tb.cs.n c.tb.cs.c, .int .i64 c.tb.ky, .slice c.tb.ix.a c.tb.ix.n c.tb.ix.c] 50)) #[.int .i64 0, .int .u64 0, .int .u64 0, .bool false, .slice none 0 0, .slice none 0 0, .slice none 0 0] 55 j
      rwa [World.size_alloc] at h
  obtain ⟨rt, hrt⟩ : ∃ rt, (wasT a.tl c.cl c.sq).1 = rt := ⟨_, rfl⟩
  obtain ⟨b1, hb1e⟩ : ∃ b1, (wasT a.tl c.cl c.sq).2 = b1 := ⟨_, rfl⟩
  have HWa := hide (fun V (hV : Below w.heap.size w V) => (hrt ▸ hb1e ▸ xwas_any a.p a.la a.ln a.lc a.tl c V (Nat.lt_of_lt_of_le h.lt hV.size) ((hV.cell (p := ⟨a.p, 0, none⟩) h.lt).trans h.c0) (h.lo.keep hV).now.1 : Calls Tryz.prog 29 #[.pointer (some ⟨a.p, 0, none⟩), .agg #[.int .u64 c.cl, .int .u64 c.sq, .int .i64 c.kd, .int .u64 c.tx, .int .u64 c.ts, .bool c.fl, .int .u64 c.lk.l.tx, .int .i64 c.lk.l.lv, .int .i64 c.lk.l.md, .slice c.lk.la c.lk.ln c.lk.lc, .slice c.lk.ha c.lk.hn c.lk.hc, .slice c.lo.a c.lo.n c.lo.c, .slice c.hi.a c.hi.n c.hi.c, .slice c.txs.a c.txs.n c.txs.c, .slice c.ws.a c.ws.n c.ws.c, .slice c.ks.a c.ks.n c.ks.c, .int .i64 c.tb.id, .string (strB c.tb.nm), .slice c.tb.cs.a c.tb.cs.n c.tb.cs.c, .int .i64 c.tb.ky, .slice c.tb.ix.a c.tb.ix.n c.tb.ix.c]] V fun e w' => e = .returned (.tuple #[.agg #[.int .i64 rt.er, .int .u64 rt.tx, .int .u64 rt.ts, .bool rt.fl, .slice rt.ss.a rt.ss.n rt.ss.c, .slice rt.ce.a rt.ce.n rt.ce.c, .slice rt.tb.a rt.tb.n rt.tb.c], .bool b1]) ∧ Below V.heap.size V w'))
  have HI := hide h
  have HCo := hide hc
  have HFw := hide hf
  have HB1 := hide hb1
  have HL1 := hide hl1
  have HW := hide hrt
  have HWb := hide hb1e
  have hpl := h.lt
  clear h hc hf hb1 hl1 hrt hb1e
  go_enter Tryz.func11, Tryz.ntmps11
  go_upto_region 1 with fail
  rw [← hW1]
  clear hW1
  go_cut [5, 6] (fun s5 s6 wx => ∃ q, s5 = .pointer (some ⟨q, 0, none⟩) ∧ s6 = .bool b1 ∧ W1.heap.size ≤ q ∧ q < wx.heap.size ∧ wx.rangeAt q 0 [.int .i64 rt.er, .int .u64 rt.tx, .int .u64 rt.ts, .bool rt.fl, .slice rt.ss.a rt.ss.n rt.ss.c, .slice rt.ce.a rt.ce.n rt.ce.c, .slice rt.tb.a rt.tb.n rt.tb.c] ∧ Below W1.heap.size W1 wx)
  case first =>
    refine startE (fun _ => false) (by kernel_rfl) ?_
    refine' takeE (i := 0) (v := _) rfl (by kernel_rfl) (by kernel_rfl) (by kernel_rfl) (by kernel_rfl) (fun _ _ _ h => h) (by rfl) (Below.refl _ _) ?_ ?_; rotate_left
    · (intro V hSV; go_simp; all_goals (with_reducible rfl))
    (try simp only [Act.put, List.setIfInBounds_toArray, List.set_cons_zero, List.set_cons_succ])
    refine' takeE (i := 1) (v := _) rfl (by kernel_rfl) (by kernel_rfl) (by kernel_rfl) (by kernel_rfl) (fun _ _ _ h => h) (by rfl) (Below.refl _ _) ?_ ?_; rotate_left
    · (intro V hSV; go_simp; all_goals (with_reducible rfl))
    (try simp only [Act.put, List.setIfInBounds_toArray, List.set_cons_zero, List.set_cons_succ])
    refine' takeE (i := 2) (v := _) rfl (by kernel_rfl) (by kernel_rfl) (by kernel_rfl) (by kernel_rfl) (fun _ _ _ h => h) (by rfl) (Below.refl _ _) ?_ ?_; rotate_left
    · (intro V hSV; go_simp; all_goals (with_reducible rfl))
    (try simp only [Act.put, List.setIfInBounds_toArray, List.set_cons_zero, List.set_cons_succ])
    refine' takeE (i := 3) (v := _) rfl (by kernel_rfl) (by kernel_rfl) (by kernel_rfl) (by kernel_rfl) (fun _ _ _ h => h) (by rfl) (Below.refl _ _) ?_ ?_; rotate_left
    · (intro V hSV; refine run_loadT layCm V _ Tryz.underlying50 rfl _ _ (.tmp 3) ?_ w.heap.size 0 c #[.int .u64 c.cl, .int .u64 c.sq, .int .i64 c.kd, .int .u64 c.tx, .int .u64 c.ts, .bool c.fl, .int .u64 c.lk.l.tx, .int .i64 c.lk.l.lv, .int .i64 c.lk.l.md, .slice c.lk.la c.lk.ln c.lk.lc, .slice c.lk.ha c.lk.hn c.lk.hc, .slice c.lo.a c.lo.n c.lo.c, .slice c.hi.a c.hi.n c.hi.c, .slice c.txs.a c.txs.n c.txs.c, .slice c.ws.a c.ws.n c.ws.c, .slice c.ks.a c.ks.n c.ks.c, .int .i64 c.tb.id, .string (strB c.tb.nm), .slice c.tb.cs.a c.tb.cs.n c.tb.cs.c, .int .i64 c.tb.ky, .slice c.tb.ix.a c.tb.ix.n c.tb.ix.c] rfl ?_ (HX.out V (bel_undQ hSV)).1 <;> rfl)
    (try simp only [Act.put, List.setIfInBounds_toArray, List.set_cons_zero, List.set_cons_succ])
    refine bothE (i := 4) (j := 8) rfl rfl (by kernel_rfl) (fun K hK => ?_) (fun K hK => ?_)
    · go_simp
      refine (HWa.out _ (HB1.out.trans ((Below.refl _ W1).drew.mono HB1.out.size))).mono ?_
      rintro e w5 ⟨rfl, hb5⟩
      have HB5 := hide hb5
      refine hK.out _ _ (fun _ => HB5.out) ?_
      clear hK K hb5
      (try simp only [Act.put, List.setIfInBounds_toArray, List.set_cons_zero, List.set_cons_succ])
      refine' takeE (i := 5) (v := _) rfl (by kernel_rfl) (by kernel_rfl) (by kernel_rfl) (by kernel_rfl) (fun _ _ _ h => h) (by rfl) (HB5.out) ?_ ?_; rotate_left
      · (intro V hSV; go_simp; all_goals (with_reducible rfl))
      (try simp only [Act.put, List.setIfInBounds_toArray, List.set_cons_zero, List.set_cons_succ])
      refine' takeE (i := 6) (v := _) rfl (by kernel_rfl) (by kernel_rfl) (by kernel_rfl) (by kernel_rfl) (fun _ _ _ h => h) (by rfl) (HB5.out) ?_ ?_; rotate_left
      · (intro V hSV; go_simp; all_goals (with_reducible rfl))
      (try simp only [Act.put, List.setIfInBounds_toArray, List.set_cons_zero, List.set_cons_succ])
      refine' takeE (i := 7) (v := _) rfl (by kernel_rfl) (by kernel_rfl) (by kernel_rfl) (by kernel_rfl) (fun _ _ _ h => h) (by rfl) (HB5.out) ?_ ?_; rotate_left
      · (intro V hSV; go_simp; all_goals (with_reducible rfl))
      (try simp only [Act.put, List.setIfInBounds_toArray, List.set_cons_zero, List.set_cons_succ])
      refine callE (i := 8) rfl (by kernel_rfl) (fun K hK => ?_)
      go_simp
      refine hK.out _ _ (fun _ => HB5.out.trans ((new_below w5 _).mono HB5.out.size)) ?_
      clear hK K
      (try simp only [Act.put, List.setIfInBounds_toArray, List.set_cons_zero, List.set_cons_succ])
      refine callE (i := 9) rfl (by kernel_rfl) (fun K hK => ?_)
      go_simp
      refine hK.out _ _ (fun _ => HB5.out.trans ((new_below w5 _).mono HB5.out.size)) ?_
      clear hK K
      (try simp only [Act.put, List.setIfInBounds_toArray, List.set_cons_zero, List.set_cons_succ])
      refine' takeE (i := 10) (v := _) rfl (by kernel_rfl) (by kernel_rfl) (by kernel_rfl) (by kernel_rfl) (fun _ _ _ h => h) (by rfl) (HB5.out.trans ((new_below w5 _).mono HB5.out.size)) ?_ ?_; rotate_left
      · (intro V hSV; go_simp; all_goals (with_reducible rfl))
      (try simp only [Act.put, List.setIfInBounds_toArray, List.set_cons_zero, List.set_cons_succ])
      refine doneE (by kernel_rfl) ?_ _
      go_wp2_with fail
      go_meet
      exact ⟨w5.heap.size, rfl, rfl, HB5.out.size, (Array.getElem?_eq_some_iff.1 (heap_alloc_new _ _)).1, rangeY_new w5 w5.heap.size _ _ rfl, bel_undQ (HB5.out.trans ((new_below w5 _).mono HB5.out.size))⟩
    · go_simp
      refine hK.out _ _ (fun _ => (new_below W1.drew _)) ?_
      clear hK K
      (try simp only [Act.put, List.setIfInBounds_toArray, List.set_cons_zero, List.set_cons_succ])
      refine callE (i := 4) rfl (by kernel_rfl) (fun K hK => ?_)
      go_simp
      have HBz : Hid (Below W1.heap.size W1 (W1.alloc (.cells #[.int .i64 0, .int .u64 0, .int .u64 0, .bool false, .slice none 0 0, .slice none 0 0, .slice none 0 0] 55)).drew) := (new_below W1 _).drew
      have HBz2 : Hid (Below W1.drew.heap.size W1.drew (W1.alloc (.cells #[.int .i64 0, .int .u64 0, .int .u64 0, .bool false, .slice none 0 0, .slice none 0 0, .slice none 0 0] 55)).drew) := new_below W1.drew _
      refine (HWa.out _ (HB1.out.trans (HBz.out.mono HB1.out.size))).mono ?_
      rintro e w6 ⟨rfl, hb6⟩
      have HB6 := hide (HBz.out.trans (hb6.mono HBz.out.size))
      have HB6d := hide (HBz2.out.trans (hb6.mono HBz2.out.size))
      have HQ6 : Hid (w6.rangeAt W1.heap.size 0 [.int .i64 0, .int .u64 0, .int .u64 0, .bool false, .slice none 0 0, .slice none 0 0, .slice none 0 0] ∧ (∀ j, w6.frozen? ⟨W1.heap.size, j, none⟩ = false) ∧ W1.heap.size < w6.heap.size) := by
        have hl : W1.heap.size < (W1.alloc (.cells #[.int .i64 0, .int .u64 0, .int .u64 0, .bool false, .slice none 0 0, .slice none 0 0, .slice none 0 0] 55)).drew.heap.size := (Array.getElem?_eq_some_iff.1 (heap_alloc_new W1 (.cells #[.int .i64 0, .int .u64 0, .int .u64 0, .bool false, .slice none 0 0, .slice none 0 0, .slice none 0 0] 55))).1
        have he := hb6.block _ hl
        exact ⟨rangeY_same (rangeY_new W1 W1.heap.size _ _ rfl) he, fun j => (World.frozen?_of_block (a := ⟨W1.heap.size, j, none⟩) he).trans (fzY_new W1 _ _ j), Nat.lt_of_lt_of_le hl hb6.size⟩
      refine hK.out _ _ (fun _ => HB6d.out) ?_
      clear hK K hb6
      (try simp only [Act.put, List.setIfInBounds_toArray, List.set_cons_zero, List.set_cons_succ])
      refine' takeE (i := 5) (v := _) rfl (by kernel_rfl) (by kernel_rfl) (by kernel_rfl) (by kernel_rfl) (fun _ _ _ h => h) (by rfl) (HB6d.out) ?_ ?_; rotate_left
      · (intro V hSV; go_simp; all_goals (with_reducible rfl))
      (try simp only [Act.put, List.setIfInBounds_toArray, List.set_cons_zero, List.set_cons_succ])
      refine' takeE (i := 6) (v := _) rfl (by kernel_rfl) (by kernel_rfl) (by kernel_rfl) (by kernel_rfl) (fun _ _ _ h => h) (by rfl) (HB6d.out) ?_ ?_; rotate_left
      · (intro V hSV; go_simp; all_goals (with_reducible rfl))
      (try simp only [Act.put, List.setIfInBounds_toArray, List.set_cons_zero, List.set_cons_succ])
      refine' takeE (i := 7) (v := _) rfl (by kernel_rfl) (by kernel_rfl) (by kernel_rfl) (by kernel_rfl) (fun _ _ _ h => h) (by rfl) (HB6d.out) ?_ ?_; rotate_left
      · (intro V hSV; go_simp; all_goals (with_reducible rfl))
      (try simp only [Act.put, List.setIfInBounds_toArray, List.set_cons_zero, List.set_cons_succ])
      have z0 : w6.cell? ⟨W1.heap.size, 0, none⟩ = some (.int .i64 0) := HQ6.out.1 0 _ rfl
      have z1 : w6.cell? ⟨W1.heap.size, 1, none⟩ = some (.int .u64 0) := HQ6.out.1 1 _ rfl
      have z2 : w6.cell? ⟨W1.heap.size, 2, none⟩ = some (.int .u64 0) := HQ6.out.1 2 _ rfl
      have z3 : w6.cell? ⟨W1.heap.size, 3, none⟩ = some (.bool false) := HQ6.out.1 3 _ rfl
      have z4 : w6.cell? ⟨W1.heap.size, 4, none⟩ = some (.slice none 0 0) := HQ6.out.1 4 _ rfl
      have z5 : w6.cell? ⟨W1.heap.size, 5, none⟩ = some (.slice none 0 0) := HQ6.out.1 5 _ rfl
      have z6 : w6.cell? ⟨W1.heap.size, 6, none⟩ = some (.slice none 0 0) := HQ6.out.1 6 _ rfl
      have g0 := HQ6.out.2.1 0
      have g1 := HQ6.out.2.1 1
      have g2 := HQ6.out.2.1 2
      have g3 := HQ6.out.2.1 3
      have g4 := HQ6.out.2.1 4
      have g5 := HQ6.out.2.1 5
      have g6 := HQ6.out.2.1 6
      refine callE (i := 9) rfl (by kernel_rfl) (fun K hK => ?_)
      go_simp
      have HK7 : Hid (Keeps (fun k => k = W1.heap.size) w6 (w6.setCells W1.heap.size 0 [.int .i64 rt.er, .int .u64 rt.tx, .int .u64 rt.ts, .bool rt.fl, .slice rt.ss.a rt.ss.n rt.ss.c, .slice rt.ce.a rt.ce.n rt.ce.c, .slice rt.tb.a rt.tb.n rt.tb.c])) := keepsYs _ _ _ _
      have HS7 : Hid (Below W1.drew.heap.size W1.drew (w6.setCells W1.heap.size 0 [.int .i64 rt.er, .int .u64 rt.tx, .int .u64 rt.ts, .bool rt.fl, .slice rt.ss.a rt.ss.n rt.ss.c, .slice rt.ce.a rt.ce.n rt.ce.c, .slice rt.tb.a rt.tb.n rt.tb.c])) := HB6d.out.trans (HK7.out.below HB6d.out.size (fun k (e : k = W1.heap.size) => by rw [e]; exact Nat.le_refl _))
      have HR7 := hide (box_set (V := w6) (b := W1.heap.size) (new := [.int .i64 rt.er, .int .u64 rt.tx, .int .u64 rt.ts, .bool rt.fl, .slice rt.ss.a rt.ss.n rt.ss.c, .slice rt.ce.a rt.ce.n rt.ce.c, .slice rt.tb.a rt.tb.n rt.tb.c]) HQ6.out.1 (Nat.le_refl _) HQ6.out.2.1)
      refine hK.out _ (w6.setCells W1.heap.size 0 [.int .i64 rt.er, .int .u64 rt.tx, .int .u64 rt.ts, .bool rt.fl, .slice rt.ss.a rt.ss.n rt.ss.c, .slice rt.ce.a rt.ce.n rt.ce.c, .slice rt.tb.a rt.tb.n rt.tb.c]) (fun _ => HS7.out) ?_
      clear hK K
      have HL7 : Hid (W1.heap.size < (w6.setCells W1.heap.size 0 [.int .i64 rt.er, .int .u64 rt.tx, .int .u64 rt.ts, .bool rt.fl, .slice rt.ss.a rt.ss.n rt.ss.c, .slice rt.ce.a rt.ce.n rt.ce.c, .slice rt.tb.a rt.tb.n rt.tb.c]).heap.size) := Nat.lt_of_lt_of_le HQ6.out.2.2 HK7.out.size
      generalize w6.setCells W1.heap.size 0 [.int .i64 rt.er, .int .u64 rt.tx, .int .u64 rt.ts, .bool rt.fl, .slice rt.ss.a rt.ss.n rt.ss.c, .slice rt.ce.a rt.ce.n rt.ce.c, .slice rt.tb.a rt.tb.n rt.tb.c] = w7 at *
      (try simp only [Act.put, List.setIfInBounds_toArray, List.set_cons_zero, List.set_cons_succ])
      refine' takeE (i := 10) (v := _) rfl (by kernel_rfl) (by kernel_rfl) (by kernel_rfl) (by kernel_rfl) (fun _ _ _ h => h) (by rfl) (HS7.out) ?_ ?_; rotate_left
      · (intro V hSV; go_simp; all_goals (with_reducible rfl))
      (try simp only [Act.put, List.setIfInBounds_toArray, List.set_cons_zero, List.set_cons_succ])
      refine doneE (by kernel_rfl) ?_ _
      go_wp2_with fail
      go_meet
      exact ⟨W1.heap.size, rfl, rfl, Nat.le_refl _, HL7.out, HR7.out, bel_undQ HS7.out⟩
  case rest =>
    obtain ⟨q, rfl, rfl, hq1, hq2, hqr, hBc⟩ := hcut
    have HQr := hide hqr
    have HBc := hide hBc
    have HBw := hide (HB1.out.trans (hBc.mono HB1.out.size))
    have HQ1 := hide hq1
    have HQ2 := hide hq2
    have HWs : Hid (w.heap.size + 1 < wc.heap.size) := by show _ < _; have := hBc.size; have := HL1.out; omega
    clear hq1 hq2 hqr hBc
    cases b1
    · have HDo : Hid (doM S c.c = if c.cl = 0 then oneM S c.c else noteM c.c (oneM S c.c)) := was_false (c := c.c) HI.out.lx (show wasT a.tl c.cl c.sq = (rt, false) from Prod.ext HW.out HWb.out)
      have HIc := hide (HI.out.box HBw.out (b := w.heap.size + 1) (by omega) HWs.out)
      have HOn := hide (xone_any H6 HIc.out c HCo.out HFw.out hz)
      have HMi := hide (HI.out.i.one HFw.out)
      obtain ⟨X1, hX1⟩ : ∃ X1, oneM S c.c = X1 := ⟨_, rfl⟩
      rw [hX1] at HDo HOn HMi
      clear hX1
      go_upto_region 5 with (first
        | (refine wp_loadY layCm _ _ Tryz.underlying50 rfl rfl (.tmp 3) rfl w.heap.size 0 c #[.int .u64 c.cl, .int .u64 c.sq, .int .i64 c.kd, .int .u64 c.tx, .int .u64 c.ts, .bool c.fl, .int .u64 c.lk.l.tx, .int .i64 c.lk.l.lv, .int .i64 c.lk.l.md, .slice c.lk.la c.lk.ln c.lk.lc, .slice c.lk.ha c.lk.hn c.lk.hc, .slice c.lo.a c.lo.n c.lo.c, .slice c.hi.a c.hi.n c.hi.c, .slice c.txs.a c.txs.n c.txs.c, .slice c.ws.a c.ws.n c.ws.c, .slice c.ks.a c.ks.n c.ks.c, .int .i64 c.tb.id, .string (strB c.tb.nm), .slice c.tb.cs.a c.tb.cs.n c.tb.cs.c, .int .i64 c.tb.ky, .slice c.tb.ix.a c.tb.ix.n c.tb.ix.c] rfl rfl (HX.out _ HBc.out).1 ?_)
        | (go_at_call 30; go_must (refine HOn.out.mono ?_); rintro e w5 ⟨a1, r, rfl, hp5, hf5, hI5, hpe5, hk5, hx5⟩; have HP5 := hide hp5; have HF5x := hide hf5; have HI5 := hide hI5; have HPe := hide hpe5; have HK5 := hide hk5; have HX5 := hide hx5; clear hp5 hf5 hI5 hpe5 hk5 hx5))
      obtain ⟨W6, hW6⟩ : ∃ W6, W6 = w5.alloc (.cells #[.int .i64 r.er, .int .u64 r.tx, .int .u64 r.ts, .bool r.fl, .slice r.ss.a r.ss.n r.ss.c, .slice r.ce.a r.ce.n r.ce.c, .slice r.tb.a r.tb.n r.tb.c] 55) := ⟨_, rfl⟩
      rw [← hW6]
      have HN6 : Hid (Below w5.heap.size w5 W6) := by rw [hW6]; exact new_below _ _
      have HX6 : Hid (∀ V : World, V.heap[w5.heap.size]? = W6.heap[w5.heap.size]? → V.rangeAt w5.heap.size 0 #[.int .i64 r.er, .int .u64 r.tx, .int .u64 r.ts, .bool r.fl, .slice r.ss.a r.ss.n r.ss.c, .slice r.ce.a r.ce.n r.ce.c, .slice r.tb.a r.tb.n r.tb.c].toList) := by
        intro V hV
        rw [hW6] at hV
        exact rangeY_same (rangeY_new w5 w5.heap.size _ _ rfl) hV
      have HL6 : Hid (w5.heap.size < W6.heap.size) := by
        rw [hW6]
        exact (Array.getElem?_eq_some_iff.1 (heap_alloc_new _ _)).1
      have HS5 : Hid (wc.heap.size ≤ w5.heap.size) := HK5.out.size
      have hne : ∀ j, j < w.heap.size + 2 → w.heap.size ≤ j → ¬ a.X j := fun j h1 h2 hx => by have := (HI.out.xl j hx).2; omega
      have HBc5 : Hid (∀ j, j < w.heap.size + 2 → w.heap.size ≤ j → w5.heap[j]? = wc.heap[j]?) := fun j h1 h2 => HK5.out.block j (by have := HWs.out; omega) (hne j h1 h2)
      have HRg : Hid (∀ V : World, V.heap[w.heap.size]? = W6.heap[w.heap.size]? → V.rangeAt w.heap.size 0 (layCm.cells c)) := fun V hV => rangeY_same (HX.out wc HBc.out).1 (hV.trans ((HN6.out.block _ (by have := HWs.out; have := HS5.out; omega)).trans (HBc5.out _ (by omega) (Nat.le_refl _))))
      have HI6 := hide ((HI5.out.keep HN6.out).keep (Below.refl _ W6).drew)
      have HNo := hide (xnote_any a1.p a1.la a1.ln a1.lc a1.tl c r W6.drew HI6.out.lt HI6.out.c0 (HI6.out.lk.fz 0) HI6.out.lo.now.1 (by have h1 := HI6.out.ll; have h2 := HI6.out.lo.now.1.1; omega))
      have HPa : Hid (a.p = a1.p) := HPe.out.symm
      rw [HPa.out]
      clear hW6 hne
      refine startG (fun V : World => V.heap[w.heap.size]? = W6.heap[w.heap.size]? ∧ V.heap[w5.heap.size]? = W6.heap[w5.heap.size]?) (fun i => false) (by kernel_rfl) ?_
      refine' takeG (i := 0) (v := _) rfl (by kernel_rfl) (by kernel_rfl) (by kernel_rfl) (by kernel_rfl) (fun _ _ _ h => h) (by rfl) (⟨rfl, rfl⟩) ?_ ?_; rotate_left
      · (intro V hSV; go_simp; all_goals (with_reducible rfl))
      (try simp only [Act.put, List.setIfInBounds_toArray, List.set_cons_zero, List.set_cons_succ])
      refine' takeG (i := 1) (v := _) rfl (by kernel_rfl) (by kernel_rfl) (by kernel_rfl) (by kernel_rfl) (fun _ _ _ h => h) (by rfl) (⟨rfl, rfl⟩) ?_ ?_; rotate_left
      · (intro V hSV; go_simp; all_goals (with_reducible rfl))
      (try simp only [Act.put, List.setIfInBounds_toArray, List.set_cons_zero, List.set_cons_succ])
      refine' takeG (i := 2) (v := _) rfl (by kernel_rfl) (by kernel_rfl) (by kernel_rfl) (by kernel_rfl) (fun _ _ _ h => h) (by rfl) (⟨rfl, rfl⟩) ?_ ?_; rotate_left
      · (intro V hSV; go_simp; all_goals (with_reducible rfl))
      (try simp only [Act.put, List.setIfInBounds_toArray, List.set_cons_zero, List.set_cons_succ])
      refine' takeG (i := 3) (v := _) rfl (by kernel_rfl) (by kernel_rfl) (by kernel_rfl) (by kernel_rfl) (fun _ _ _ h => h) (by rfl) (⟨rfl, rfl⟩) ?_ ?_; rotate_left
      · (intro V hSV; refine run_loadT layCm V _ Tryz.underlying50 rfl _ _ (.tmp 3) ?_ w.heap.size 0 c #[.int .u64 c.cl, .int .u64 c.sq, .int .i64 c.kd, .int .u64 c.tx, .int .u64 c.ts, .bool c.fl, .int .u64 c.lk.l.tx, .int .i64 c.lk.l.lv, .int .i64 c.lk.l.md, .slice c.lk.la c.lk.ln c.lk.lc, .slice c.lk.ha c.lk.hn c.lk.hc, .slice c.lo.a c.lo.n c.lo.c, .slice c.hi.a c.hi.n c.hi.c, .slice c.txs.a c.txs.n c.txs.c, .slice c.ws.a c.ws.n c.ws.c, .slice c.ks.a c.ks.n c.ks.c, .int .i64 c.tb.id, .string (strB c.tb.nm), .slice c.tb.cs.a c.tb.cs.n c.tb.cs.c, .int .i64 c.tb.ky, .slice c.tb.ix.a c.tb.ix.n c.tb.ix.c] rfl ?_ (HRg.out V hSV.1) <;> rfl)
      (try simp only [Act.put, List.setIfInBounds_toArray, List.set_cons_zero, List.set_cons_succ])
      refine' takeG (i := 4) (v := _) rfl (by kernel_rfl) (by kernel_rfl) (by kernel_rfl) (by kernel_rfl) (fun _ _ _ h => h) (by rfl) (⟨rfl, rfl⟩) ?_ ?_; rotate_left
      · (intro V hSV; have q := HX6.out V hSV.2; have q0 : V.cell? ⟨w5.heap.size, 0, none⟩ = some (.int .i64 r.er) := q 0 _ rfl; have q1 : V.cell? ⟨w5.heap.size, 1, none⟩ = some (.int .u64 r.tx) := q 1 _ rfl; have q2 : V.cell? ⟨w5.heap.size, 2, none⟩ = some (.int .u64 r.ts) := q 2 _ rfl; have q3 : V.cell? ⟨w5.heap.size, 3, none⟩ = some (.bool r.fl) := q 3 _ rfl; have q4 : V.cell? ⟨w5.heap.size, 4, none⟩ = some (.slice r.ss.a r.ss.n r.ss.c) := q 4 _ rfl; have q5 : V.cell? ⟨w5.heap.size, 5, none⟩ = some (.slice r.ce.a r.ce.n r.ce.c) := q 5 _ rfl; have q6 : V.cell? ⟨w5.heap.size, 6, none⟩ = some (.slice r.tb.a r.tb.n r.tb.c) := q 6 _ rfl; clear q; go_simp; all_goals (with_reducible rfl))
      (try simp only [Act.put, List.setIfInBounds_toArray, List.set_cons_zero, List.set_cons_succ])
      refine callE (i := 5) rfl (by kernel_rfl) (fun K hK => ?_)
      go_simp
      refine HNo.out.mono ?_
      rintro e w8 ⟨v8, rfl, hq8⟩
      have HQ8 := hide hq8
      have hpl1 : a1.p < w.heap.size := by rw [← HPa.out]; exact hpl
      have hs8 : w8.heap[w.heap.size]? = W6.heap[w.heap.size]? ∧ w8.heap[w5.heap.size]? = W6.heap[w5.heap.size]? := ⟨hq8.kp.block _ (show w.heap.size < W6.heap.size by have := HWs.out; have := HS5.out; have := HL6.out; omega) (by show ¬ w.heap.size = a1.p; omega), hq8.kp.block _ HL6.out (by show ¬ w5.heap.size = a1.p; have := HWs.out; have := HS5.out; omega)⟩
      have HS8 := hide hs8
      refine hK.out _ _ (fun _ => HS8.out) ?_
      clear hK K hq8 hs8
      (try simp only [Act.put, List.setIfInBounds_toArray, List.set_cons_zero, List.set_cons_succ])
      refine doneE (by kernel_rfl) ?_ _
      have hb8 : w8.heap[w.heap.size + 1]? = wc.heap[w.heap.size + 1]? := (HQ8.out.kp.block _ (show w.heap.size + 1 < W6.heap.size by have := HWs.out; have := HS5.out; have := HL6.out; omega) (by show ¬ w.heap.size + 1 = a1.p; omega)).trans ((HN6.out.block _ (by have := HWs.out; have := HS5.out; omega)).trans (HBc5.out _ (by omega) (by omega)))
      have HZ5 : Hid (w8.rangeAt (w.heap.size + 1) 0 [.int .i64 0, .int .u64 0, .int .u64 0, .bool false, .slice none 0 0, .slice none 0 0, .slice none 0 0]) := rangeY_same (HX.out wc HBc.out).2.1 hb8
      have HF8 : Hid (∀ j, w8.frozen? ⟨w.heap.size + 1, j, none⟩ = false) := fun j => (World.frozen?_of_block (a := ⟨w.heap.size + 1, j, none⟩) hb8).trans ((HX.out wc HBc.out).2.2 j)
      clear hb8
      have hr7 := HX6.out w8 HS8.out.2
      have y0 : w8.cell? ⟨w5.heap.size, 0, none⟩ = some (.int .i64 r.er) := hr7 0 _ rfl
      have y1 : w8.cell? ⟨w5.heap.size, 1, none⟩ = some (.int .u64 r.tx) := hr7 1 _ rfl
      have y2 : w8.cell? ⟨w5.heap.size, 2, none⟩ = some (.int .u64 r.ts) := hr7 2 _ rfl
      have y3 : w8.cell? ⟨w5.heap.size, 3, none⟩ = some (.bool r.fl) := hr7 3 _ rfl
      have y4 : w8.cell? ⟨w5.heap.size, 4, none⟩ = some (.slice r.ss.a r.ss.n r.ss.c) := hr7 4 _ rfl
      have y5 : w8.cell? ⟨w5.heap.size, 5, none⟩ = some (.slice r.ce.a r.ce.n r.ce.c) := hr7 5 _ rfl
      have y6 : w8.cell? ⟨w5.heap.size, 6, none⟩ = some (.slice r.tb.a r.tb.n r.tb.c) := hr7 6 _ rfl
      clear hr7
      have z0 : w8.cell? ⟨w.heap.size + 1, 0, none⟩ = some (.int .i64 0) := HZ5.out 0 _ rfl
      have z1 : w8.cell? ⟨w.heap.size + 1, 1, none⟩ = some (.int .u64 0) := HZ5.out 1 _ rfl
      have z2 : w8.cell? ⟨w.heap.size + 1, 2, none⟩ = some (.int .u64 0) := HZ5.out 2 _ rfl
      have z3 : w8.cell? ⟨w.heap.size + 1, 3, none⟩ = some (.bool false) := HZ5.out 3 _ rfl
      have z4 : w8.cell? ⟨w.heap.size + 1, 4, none⟩ = some (.slice none 0 0) := HZ5.out 4 _ rfl
      have z5 : w8.cell? ⟨w.heap.size + 1, 5, none⟩ = some (.slice none 0 0) := HZ5.out 5 _ rfl
      have z6 : w8.cell? ⟨w.heap.size + 1, 6, none⟩ = some (.slice none 0 0) := HZ5.out 6 _ rfl
      have g0 := HF8.out 0
      have g1 := HF8.out 1
      have g2 := HF8.out 2
      have g3 := HF8.out 3
      have g4 := HF8.out 4
      have g5 := HF8.out 5
      have g6 := HF8.out 6
      go_wp2
      change bodyPost _ _ _ _ _ (w8.setCells (w.heap.size + 1) 0 [.int .i64 r.er, .int .u64 r.tx, .int .u64 r.ts, .bool r.fl, .slice r.ss.a r.ss.n r.ss.c, .slice r.ce.a r.ce.n r.ce.c, .slice r.tb.a r.tb.n r.tb.c])
      have hr := box_set (V := w8) (b := w.heap.size + 1) (new := [.int .i64 r.er, .int .u64 r.tx, .int .u64 r.ts, .bool r.fl, .slice r.ss.a r.ss.n r.ss.c, .slice r.ce.a r.ce.n r.ce.c, .slice r.tb.a r.tb.n r.tb.c]) HZ5.out (Nat.le_refl _) HF8.out
      have r0 := hr 0 _ rfl
      have r1 := hr 1 _ rfl
      have r2 := hr 2 _ rfl
      have r3 := hr 3 _ rfl
      have r4 := hr 4 _ rfl
      have r5 := hr 5 _ rfl
      have r6 := hr 6 _ rfl
      have hkk : Keeps (fun k => k = w.heap.size + 1) w8 (w8.setCells (w.heap.size + 1) 0 [.int .i64 r.er, .int .u64 r.tx, .int .u64 r.ts, .bool r.fl, .slice r.ss.a r.ss.n r.ss.c, .slice r.ce.a r.ce.n r.ce.c, .slice r.tb.a r.tb.n r.tb.c]) := keepsYs _ _ _ _
      clear hr
      generalize w8.setCells (w.heap.size + 1) 0 [.int .i64 r.er, .int .u64 r.tx, .int .u64 r.ts, .bool r.fl, .slice r.ss.a r.ss.n r.ss.c, .slice r.ce.a r.ce.n r.ce.c, .slice r.tb.a r.tb.n r.tb.c] = W at *
      refine bodyPost_ret (v := .agg #[.int .i64 r.er, .int .u64 r.tx, .int .u64 r.ts, .bool r.fl, .slice r.ss.a r.ss.n r.ss.c, .slice r.ce.a r.ce.n r.ce.c, .slice r.tb.a r.tb.n r.tb.c]) (by simp [results, Tryz.results11, go_sem, r0, r1, r2, r3, r4, r5, r6]) rfl ?_
      obtain ⟨la2, hla, hmi, hdo⟩ := noted_do (c := c.c) HI6.out.lx HP5.out (HMi.out.1.mono (Nat.le_succ _) : MacI (z + 2) X1.2) HMi.out.2 HFw.out.sq
      have hDo2 : doM S c.c = (X1.1, { X1.2 with la := la2 }) := HDo.out.trans hdo
      rw [hDo2]
      have hlo := (HI6.out.lo.and ((HF5x.out.keep HN6.out).keep (Below.refl _ W6).drew)).imp (fun V (hV : (IsY layTo V a1.la a1.ln a1.lc a1.tl ∧ ∀ t ∈ a1.tl, t.r.ok V) ∧ r.ok V) => (fun t ht => by
      rcases note_mem ht with h1 | h1
      · exact hV.1.2 t h1
      · rw [h1]; exact hV.2 : ∀ t ∈ noteT a1.tl c.cl c.sq r, t.r.ok V))
      obtain ⟨a2, hpa, hxa, hI8⟩ := HI6.out.noted HQ8.out hlo hla (by have h1 := note_len a1.tl c.cl c.sq r; have h2 := HI6.out.ll; omega) hmi
      have hK8 : Keeps a.X wc w8 := kpThen (kpThen HK5.out (fun k hk => .inl hk) (Below.keeps (HN6.out.trans ((Below.refl W6.heap.size W6).drew.mono HN6.out.size)) a.X)) (fun k (hk : k = a1.p) => .inl (.inl (by rw [HPa.out]; exact hk))) HQ8.out.kp
      exact xs_done (a' := a2) (b := w.heap.size + 1) HI.out HBw.out hK8 hI8 (fun k hk => by
      rcases HX5.out k ((hxa k).1 hk) with h1 | h1
      · exact .inl h1
      · exact .inr (Nat.le_trans HBw.out.size h1)) (hpa.trans HPe.out) (by omega) hkk r HP5.out (((HF5x.out.keep HN6.out).keep (Below.refl _ W6).drew).step (Keeps.wider HQ8.out.kp (fun k hk => .inl (.inl hk))) (fun k hk => by
      rcases hk with hk | hk
      · exact .inl (.inl ((hxa k).1 hk))
      · exact .inl (.inr hk)))
    · have y0 : wc.cell? ⟨q, 0, none⟩ = some (.int .i64 rt.er) := HQr.out 0 _ rfl
      have y1 : wc.cell? ⟨q, 1, none⟩ = some (.int .u64 rt.tx) := HQr.out 1 _ rfl
      have y2 : wc.cell? ⟨q, 2, none⟩ = some (.int .u64 rt.ts) := HQr.out 2 _ rfl
      have y3 : wc.cell? ⟨q, 3, none⟩ = some (.bool rt.fl) := HQr.out 3 _ rfl
      have y4 : wc.cell? ⟨q, 4, none⟩ = some (.slice rt.ss.a rt.ss.n rt.ss.c) := HQr.out 4 _ rfl
      have y5 : wc.cell? ⟨q, 5, none⟩ = some (.slice rt.ce.a rt.ce.n rt.ce.c) := HQr.out 5 _ rfl
      have y6 : wc.cell? ⟨q, 6, none⟩ = some (.slice rt.tb.a rt.tb.n rt.tb.c) := HQr.out 6 _ rfl
      obtain ⟨-, z, zf⟩ := HX.out wc HBc.out
      have z0 : wc.cell? ⟨w.heap.size + 1, 0, none⟩ = some (.int .i64 0) := z 0 _ rfl
      have z1 : wc.cell? ⟨w.heap.size + 1, 1, none⟩ = some (.int .u64 0) := z 1 _ rfl
      have z2 : wc.cell? ⟨w.heap.size + 1, 2, none⟩ = some (.int .u64 0) := z 2 _ rfl
      have z3 : wc.cell? ⟨w.heap.size + 1, 3, none⟩ = some (.bool false) := z 3 _ rfl
      have z4 : wc.cell? ⟨w.heap.size + 1, 4, none⟩ = some (.slice none 0 0) := z 4 _ rfl
      have z5 : wc.cell? ⟨w.heap.size + 1, 5, none⟩ = some (.slice none 0 0) := z 5 _ rfl
      have z6 : wc.cell? ⟨w.heap.size + 1, 6, none⟩ = some (.slice none 0 0) := z 6 _ rfl
      have g0 := zf 0
      have g1 := zf 1
      have g2 := zf 2
      have g3 := zf 3
      have g4 := zf 4
      have g5 := zf 5
      have g6 := zf 6
      clear z zf
      go_wp2
      change bodyPost _ _ _ _ _ (wc.setCells (w.heap.size + 1) 0 [.int .i64 rt.er, .int .u64 rt.tx, .int .u64 rt.ts, .bool rt.fl, .slice rt.ss.a rt.ss.n rt.ss.c, .slice rt.ce.a rt.ce.n rt.ce.c, .slice rt.tb.a rt.tb.n rt.tb.c])
      have hr := box_set (V := wc) (b := w.heap.size + 1) (new := [.int .i64 rt.er, .int .u64 rt.tx, .int .u64 rt.ts, .bool rt.fl, .slice rt.ss.a rt.ss.n rt.ss.c, .slice rt.ce.a rt.ce.n rt.ce.c, .slice rt.tb.a rt.tb.n rt.tb.c]) (HX.out wc HBc.out).2.1 (Nat.le_refl _) (HX.out wc HBc.out).2.2
      have r0 := hr 0 _ rfl
      have r1 := hr 1 _ rfl
      have r2 := hr 2 _ rfl
      have r3 := hr 3 _ rfl
      have r4 := hr 4 _ rfl
      have r5 := hr 5 _ rfl
      have r6 := hr 6 _ rfl
      have hbe := box_below (l := [.int .i64 rt.er, .int .u64 rt.tx, .int .u64 rt.ts, .bool rt.fl, .slice rt.ss.a rt.ss.n rt.ss.c, .slice rt.ce.a rt.ce.n rt.ce.c, .slice rt.tb.a rt.tb.n rt.tb.c]) HBw.out (show w.heap.size ≤ w.heap.size + 1 by omega)
      clear hr
      have hke : Keeps (fun k => k = w.heap.size + 1) wc (wc.setCells (w.heap.size + 1) 0 [.int .i64 rt.er, .int .u64 rt.tx, .int .u64 rt.ts, .bool rt.fl, .slice rt.ss.a rt.ss.n rt.ss.c, .slice rt.ce.a rt.ce.n rt.ce.c, .slice rt.tb.a rt.tb.n rt.tb.c]) := keepsYs _ _ _ _
      generalize wc.setCells (w.heap.size + 1) 0 [.int .i64 rt.er, .int .u64 rt.tx, .int .u64 rt.ts, .bool rt.fl, .slice rt.ss.a rt.ss.n rt.ss.c, .slice rt.ce.a rt.ce.n rt.ce.c, .slice rt.tb.a rt.tb.n rt.tb.c] = W at *
      refine bodyPost_ret (v := .agg #[.int .i64 rt.er, .int .u64 rt.tx, .int .u64 rt.ts, .bool rt.fl, .slice rt.ss.a rt.ss.n rt.ss.c, .slice rt.ce.a rt.ce.n rt.ce.c, .slice rt.tb.a rt.tb.n rt.tb.c]) (by simp [results, Tryz.results11, go_sem, r0, r1, r2, r3, r4, r5, r6]) rfl ?_
      obtain ⟨R, hD, hp, hr2⟩ := was_true (c := c.c) HI.out.lx (show wasT a.tl c.cl c.sq = (rt, true) from Prod.ext HW.out HWb.out)
      rw [hD]
      refine xs_same2 HI.out HBw.out hke hbe rt hp ?_ (by omega) (by omega)
      refine (Foot.more (Y := fun k => (a.X k ∨ F k) ∨ k = w.heap.size + 1) (?_ : Foot (fun k => a.X k ∨ F k) w (fun V => rt.ok V)) (fun k hk => by
      rcases hk with hk | hk
      · exact .inl hk
      · exact .inr (by omega))).keep HBw.out
      rcases hr2 with rfl | ⟨t, ht, rfl⟩
      · exact foot_pure (fun V => resR_ok 1 V)
      · exact HI.out.lo.imp (fun V hV => hV.2 t ht)

end Go.Proofs.YtcgiicmmfleinaaGreatDoor

namespace Go.Proofs.YtcgiicmmfleinaaGreatDoor
open Go.RowKit NumMath Go.ChangeShapes Go.WideShapes Go.Deep
set_option linter.unusedVariables false
set_option linter.unusedSimpArgs false
set_option maxRecDepth 100000

/-- the reference's machine that a law begins with -/
def xm0 (p : Nat) : Xm := ⟨p, none, 0, 0, [], .slice none 0 0, none, 0, 0, none, 0, 0, [], [], none, 0, 0, []⟩

theorem isXm_new {F : Nat → Prop} {w0 w : World} (hb : Below w0.heap.size w0 w) (hF : ∀ k, F k → w0.heap.size ≤ k ∧ k < w.heap.size) : IsXm F w0 (w.alloc (.cells #[.slice none 0 0, .int .u64 0, .slice none 0 0, .slice none 0 0, .slice none 0 0, .slice none 0 0] 38)) (xm0 w.heap.size) 0 mac0 := by
  have hr := rangeY_new w w.heap.size #[.slice none 0 0, .int .u64 0, .slice none 0 0, .slice none 0 0, .slice none 0 0, .slice none 0 0] 38 rfl
  have q : ∀ (j : Nat) (v : Value), #[Value.slice none 0 0, .int .u64 0, .slice none 0 0, .slice none 0 0, .slice none 0 0, .slice none 0 0].toList[j]? = some v → (w.alloc (.cells #[.slice none 0 0, .int .u64 0, .slice none 0 0, .slice none 0 0, .slice none 0 0, .slice none 0 0] 38)).cell? ⟨w.heap.size, j, none⟩ = some v := fun j v hv => by
    have := hr j v hv
    rwa [Nat.zero_add] at this
  have hl : w.heap.size < (w.alloc (.cells #[.slice none 0 0, .int .u64 0, .slice none 0 0, .slice none 0 0, .slice none 0 0, .slice none 0 0] 38)).heap.size := (Array.getElem?_eq_some_iff.1 (heap_alloc_new _ _)).1
  have hn := new_below w (.cells #[.slice none 0 0, .int .u64 0, .slice none 0 0, .slice none 0 0, .slice none 0 0, .slice none 0 0] 38)
  refine ⟨q 0 _ rfl, q 1 _ rfl, q 2 _ rfl, q 5 _ rfl, ownY_nil _ _, (by intro e; cases e), ?_, rfl, rfl, (by intro y hy; cases hy), (by intro y hy; cases hy), foot_pure (fun V => ⟨isY_nil V, by simp [xm0]⟩), rfl, .inl rfl, foot_pure (fun V => ⟨isY_nil V, by simp [xm0]⟩), laX_new, Nat.le_refl _, fun k hk => ⟨(hF k hk).1, Nat.lt_trans (hF k hk).2 hl⟩, fun k hk hx => ?_, macI_new⟩
  · exact ⟨q 3 _ rfl, q 4 _ rfl, hl, fun j => fzY_new _ _ _ _, isY_nil _, isY_nil _, hb.trans (hn.mono hb.size), hb.size, by simp [xm0], by simp [xm0], .inl rfl, .inl rfl, .inl rfl, .inl rfl, fun _ _ _ => rfl⟩
  · rcases hx with e | e
    · have := (hF k hk).2; rw [e] at this; exact absurd this (by show ¬ w.heap.size < w.heap.size; omega)
    · cases e

theorem xdoP_any (H6 : Table6) {F : Nat → Prop} {w0 w : World} {a : Xm} {z : Nat} {S : Mac} (h : IsXm F w0 w a z S) (c : MCmd) (p : Nat) (hp : a.p = p) (hc : c.ok w0) (hf : c.c.Few) (hz : z ≤ 159) :
    Calls Tryz.prog 11 #[.pointer (some ⟨p, 0, none⟩), .agg #[.int .u64 c.cl, .int .u64 c.sq, .int .i64 c.kd, .int .u64 c.tx, .int .u64 c.ts, .bool c.fl, .int .u64 c.lk.l.tx, .int .i64 c.lk.l.lv, .int .i64 c.lk.l.md, .slice c.lk.la c.lk.ln c.lk.lc, .slice c.lk.ha c.lk.hn c.lk.hc, .slice c.lo.a c.lo.n c.lo.c, .slice c.hi.a c.hi.n c.hi.c, .slice c.txs.a c.txs.n c.txs.c, .slice c.ws.a c.ws.n c.ws.c, .slice c.ks.a c.ks.n c.ks.c, .int .i64 c.tb.id, .string (strB c.tb.nm), .slice c.tb.cs.a c.tb.cs.n c.tb.cs.c, .int .i64 c.tb.ky, .slice c.tb.ix.a c.tb.ix.n c.tb.ix.c]] w (XsPost F w0 w a (z + 2) (doM S c.c)) := by
  subst hp
  exact xdo_any H6 h c hc hf hz

theorem xsameM_any (x : MRes) (y : MRr) (w : World) (h : x.ok w) (k : y.ok w) {R : Res} (e : x.r = R) (ey : y.p = R.p) :
    Calls Tryz.prog 9 #[.agg #[.int .i64 x.er, .int .u64 x.tx, .int .u64 x.ts, .bool x.fl, .slice x.sa x.sn x.sc, .slice none 0 0, .slice x.ta x.tn x.tc], .agg #[.int .i64 y.er, .int .u64 y.tx, .int .u64 y.ts, .bool y.fl, .slice y.ss.a y.ss.n y.ss.c, .slice y.ce.a y.ce.n y.ce.c, .slice y.tb.a y.tb.n y.tb.c]] w fun e w' => e = .returned (.bool true) ∧ Below w.heap.size w w' := by
  have h1 := xsameR_any x.R y w (MRes.R_ok h) k
  rw [show decide (x.R.p = y.p) = true from decide_eq_true (by rw [MRes.R_e, e, ey])] at h1
  exact h1

theorem mheldL_any {F : Nat → Prop} {base : Nat} {a : Mm} {z : Nat} {S : Mac} {w : World} (h : IsMm F base w a z S) (hz : z ≤ 1000) :
    Calls Tryz.prog 15 #[.pointer (some ⟨a.q, 0, none⟩)] w fun e w' => ∃ la n c ys, e = .returned (.slice la n c) ∧ IsY layK w' la n c ys ∧ ys.map ML.l = S.tab.held ∧ (∀ y ∈ ys, y.ok w') ∧ Below w.heap.size w w' := by
  obtain ⟨ha, n1, c1, wa, n2, c2, e1, e2, hT⟩ := h.tb.read
  have hl : a.hs.length = S.tab.held.length := by rw [← h.th, List.length_map]
  refine (pheld_any w a.q ha n1 c1 wa n2 c2 a.hs a.ws hT (by have := hT.h.1; have := h.i.nh; omega) (fun m hm => ?_)).mono ?_
  · have := h.i.tu m.l (List.mem_append_left _ (by rw [← h.th]; exact List.mem_map_of_mem hm))
    have h1 := (hT.ho m hm).lo.1
    have h2 := (hT.ho m hm).hi.1
    omega
  · rintro e w' ⟨la, k, c, ys, rfl, g1, g2, g3, g4⟩
    exact ⟨la, k, c, ys, rfl, g1.is, g2.trans h.th, g3, g4⟩

theorem mwaitL_any {F : Nat → Prop} {base : Nat} {a : Mm} {z : Nat} {S : Mac} {w : World} (h : IsMm F base w a z S) (hz : z ≤ 1000) :
    Calls Tryz.prog 16 #[.pointer (some ⟨a.q, 0, none⟩)] w fun e w' => ∃ la n c ys, e = .returned (.slice la n c) ∧ IsY layK w' la n c ys ∧ ys.map ML.l = S.tab.wait ∧ (∀ y ∈ ys, y.ok w') ∧ Below w.heap.size w w' := by
  obtain ⟨ha, n1, c1, wa, n2, c2, e1, e2, hT⟩ := h.tb.read
  have hl : a.ws.length = S.tab.wait.length := by rw [← h.tw, List.length_map]
  refine (pwaiting_any w a.q ha n1 c1 wa n2 c2 a.hs a.ws hT (by have := hT.wt.1; have := h.i.nw; omega) (fun m hm => ?_)).mono ?_
  · have := h.i.tu m.l (List.mem_append_right _ (by rw [← h.tw]; exact List.mem_map_of_mem hm))
    have h1 := (hT.wo m hm).lo.1
    have h2 := (hT.wo m hm).hi.1
    omega
  · rintro e w' ⟨la, k, c, ys, rfl, g1, g2, g3, g4⟩
    exact ⟨la, k, c, ys, rfl, g1.is, g2.trans h.tw, g3, g4⟩

set_option maxHeartbeats 4000000 in
theorem mdoes_any (H6 : Table6) (a : Option Addr) (n c : Nat) (ms : List MCmd) (w : World) (h : IsY layCm w a n c ms) (hh : ∀ m ∈ ms, m.handed w) (hn : n * 320 ≤ 140737488355328) (hF : FitW w) :
    Calls Tryz.prog 3 #[.slice a n c] w fun e w' => e = .returned (.bool true) ∧ Below w.heap.size w w' := by
  have HAw := hide (awake15_any w hF)
  have HSm0 := hide (fun w1 (hb : Below w.heap.size w w1) => small_any a n c ms w1 (h.keep hb) (fun m hm => (hh m hm).keep hb) hn)
  have HNw := hide (fun w2 (hb : Below w.heap.size w w2) => pnewM_any (F := fun _ => False) w2 (hF.keep hb) (fun _ h => h.elim) (fun h => h))
  have H00 : Hid (0 < w.heap.size) := hF.2
  have HY := hide h
  have HH := hide hh
  have hm : (n : Int) ≤ 9223372036854775807 := by omega
  clear h hh hF hn
  go_enter Tryz.func3, Tryz.ntmps3
  go_upto_region 3 with (first
    | (go_at_call 6; go_must (refine HAw.out.mono ?_); rintro e w1 ⟨rfl, hb1⟩; have HB1 := hide hb1; have HSm := hide (HSm0.out w1 hb1); clear hb1))
  go_upto_region 6 with (first
    | (go_at_call 8; go_must (refine (HNw.out w2 HB02.out).mono ?_); rintro e w3 ⟨M, hv, wv, rfl, hi3, hm3, hb3⟩; have HI3 := hide hi3; have HM3 := hide hm3; have HB3 := hide hb3; clear hi3 hm3 hb3)
    | (go_at_call 7; go_must (refine HSm.out.mono ?_); rintro e w2 ⟨zs, rfl, hsm, hb2⟩; have HSmall := hide hsm; have HB02 := hide (HB1.out.trans (hb2.mono HB1.out.size)); clear hsm hb2; cases zs))
  · go_ret
    exact ⟨rfl, HB02.out⟩
  have hsmall := HSmall.out trivial
  have h40 := hsmall.2
  have HFe : Hid (∀ m ∈ ms, m.c.Few) := fun m hm => few_of (HH.out m hm) (hsmall.1 m hm)
  have HOk : Hid (∀ m ∈ ms, m.ok w2) := fun m hm => ((HH.out m hm).keep HB02.out).ok
  clear HSmall hsmall
  obtain ⟨w4, hw4⟩ : ∃ w4, w4 = w3.alloc (.cells #[.slice none 0 0, .int .u64 0, .slice none 0 0, .slice none 0 0, .slice none 0 0, .slice none 0 0] 38) := ⟨_, rfl⟩
  rw [← hw4]
  have hb4 : Below w3.heap.size w3 w4 := by rw [hw4]; exact new_below _ _
  have hxl := HI3.out.xl
  have HX4 : Hid (IsXm (mm0 w2.heap.size M hv wv).X w2 w4 (xm0 w3.heap.size) 0 mac0) := by
    show IsXm _ _ _ _ _ _
    rw [hw4]
    exact isXm_new HB3.out hxl
  have HI4 : Hid (IsMm (xm0 w3.heap.size).X w2.heap.size w4 (mm0 w2.heap.size M hv wv) 0 mac0) := HI3.out.other (Below.keeps hb4 _) (fun k hk => by
    rcases hk with e | e
    · exact ⟨.inr (by rw [e]; exact Nat.le_refl _), by rw [e, hw4]; exact (Array.getElem?_eq_some_iff.1 (heap_alloc_new _ _)).1⟩
    · cases e) (fun e => by
    rcases e with e | e
    · have h1 := HB3.out.size; have h2 := HB02.out.size; have h3 := H00.out; have e2 : 0 = w3.heap.size := e; omega
    · cases e)
  have HB4 : Hid (Below w2.heap.size w2 w4) := HB3.out.trans (hb4.mono HB3.out.size)
  clear hw4 hb4 hxl HI3 HM3 HB3 HAw HSm0 HNw HB1 HSm
  go_wp2
  go_loopg [18] n (fun gk ix wr => ∃ (k : Nat) (a' : Mm) (b' : Xm), gk = n - k ∧ ix = .int .i64 k ∧ k ≤ n ∧ IsMm b'.X w2.heap.size wr a' (2 * k) (stM ms k) ∧ IsXm a'.X w2 wr b' (2 * k) (stM ms k) ∧ a'.p = M + 1 ∧ b'.p = w3.heap.size ∧ Below w2.heap.size w2 wr)
  case atStart => exact ⟨0, _, _, rfl, rfl, Nat.zero_le _, HI4.out, HX4.out, rfl, rfl, HB4.out⟩
  case round =>
    clear HI4 HX4 HB4
    obtain ⟨k, am, bm, rfl, rfl, hk, hi, hx, hp, hq, hb⟩ := hrel
    have HI := hide hi
    have HX := hide hx
    have HP := hide hp
    have HQ := hide hq
    have HB := hide hb
    clear hi hx hp hq hb
    obtain ⟨wo, hwo⟩ : ∃ wo, wo = wr := ⟨_, rfl⟩
    subst hwo
    by_cases hlt : k < n
    · have hltI : (k : Int) < (n : Int) := by omega
      obtain ⟨m, hm⟩ := at_of HY.out.1 hlt
      obtain ⟨g, off, rfl, hg, hC⟩ := ((HY.out.keep HB02.out).keep HB.out).at hlt
      have HM := hide hm
      have hmem := List.mem_of_getElem? hm
      obtain ⟨W2, hW2⟩ : ∃ W2, W2 = wo.alloc (.cells #[.int .u64 m.cl, .int .u64 m.sq, .int .i64 m.kd, .int .u64 m.tx, .int .u64 m.ts, .bool m.fl, .int .u64 m.lk.l.tx, .int .i64 m.lk.l.lv, .int .i64 m.lk.l.md, .slice m.lk.la m.lk.ln m.lk.lc, .slice m.lk.ha m.lk.hn m.lk.hc, .slice m.lo.a m.lo.n m.lo.c, .slice m.hi.a m.hi.n m.hi.c, .slice m.txs.a m.txs.n m.txs.c, .slice m.ws.a m.ws.n m.ws.c, .slice m.ks.a m.ks.n m.ks.c, .int .i64 m.tb.id, .string (strB m.tb.nm), .slice m.tb.cs.a m.tb.cs.n m.tb.cs.c, .int .i64 m.tb.ky, .slice m.tb.ix.a m.tb.ix.n m.tb.ix.c] 50) := ⟨_, rfl⟩
      have HBn : Hid (Below wo.heap.size wo W2) := by rw [hW2]; exact new_below _ _
      have HL2 : Hid (wo.heap.size < W2.heap.size) := by
        rw [hW2]
        exact (Array.getElem?_eq_some_iff.1 (heap_alloc_new _ _)).1
      have HR0 : Hid (wo.rangeAt g (off + k * 21) (layCm.cells m)) := hC k _ hm
      have HR1 : Hid (∀ V : World, V.heap[wo.heap.size]? = W2.heap[wo.heap.size]? → V.rangeAt wo.heap.size 0 (layCm.cells m)) := by
        intro V hV
        rw [hW2] at hV
        exact rangeY_same (rangeY_new wo wo.heap.size _ _ rfl) hV
      have HI2 := hide ((HI.out.keep HBn.out).keep (Below.refl _ W2).drew)
      have HX2 := hide ((HX.out.keep HBn.out).keep (Below.refl _ W2).drew)
      have HBd : Hid (Below w2.heap.size w2 W2.drew) := HB.out.trans ((HBn.out.trans ((Below.refl W2.heap.size W2).drew.mono HBn.out.size)).mono HB.out.size)
      have HXu : Hid (∀ j, (am.X j ∨ bm.X j) → w2.heap.size ≤ j) := fun j hj => by
        rcases hj with hj | hj
        · exact (HI.out.xl j hj).1
        · exact (HX.out.xl j hj).1
      have HDo := hide (pdoP_any HI2.out m (M + 1) HP.out (foot_cmd (HOk.out m hmem) HBd.out HXu.out) (HFe.out m hmem) (by omega))
      have HFm : Hid (m.c.Few) := HFe.out m hmem
      have HOm : Hid (m.ok w2) := HOk.out m hmem
      have HW2e := hide hW2
      clear hW2 hC hm hmem
      go_upto_region 9 with (first
        | (refine wp_loadY layCm _ _ Tryz.underlying50 rfl rfl (.tmp 20) rfl g (off + k * 21) m #[.int .u64 m.cl, .int .u64 m.sq, .int .i64 m.kd, .int .u64 m.tx, .int .u64 m.ts, .bool m.fl, .int .u64 m.lk.l.tx, .int .i64 m.lk.l.lv, .int .i64 m.lk.l.md, .slice m.lk.la m.lk.ln m.lk.lc, .slice m.lk.ha m.lk.hn m.lk.hc, .slice m.lo.a m.lo.n m.lo.c, .slice m.hi.a m.hi.n m.hi.c, .slice m.txs.a m.txs.n m.txs.c, .slice m.ws.a m.ws.n m.ws.c, .slice m.ks.a m.ks.n m.ks.c, .int .i64 m.tb.id, .string (strB m.tb.nm), .slice m.tb.cs.a m.tb.cs.n m.tb.cs.c, .int .i64 m.tb.ky, .slice m.tb.ix.a m.tb.ix.n m.tb.ix.c] rfl rfl HR0.out ?_)
        | (refine wp_newL layCm wo 50 rfl m #[.int .u64 m.cl, .int .u64 m.sq, .int .i64 m.kd, .int .u64 m.tx, .int .u64 m.ts, .bool m.fl, .int .u64 m.lk.l.tx, .int .i64 m.lk.l.lv, .int .i64 m.lk.l.md, .slice m.lk.la m.lk.ln m.lk.lc, .slice m.lk.ha m.lk.hn m.lk.hc, .slice m.lo.a m.lo.n m.lo.c, .slice m.hi.a m.hi.n m.hi.c, .slice m.txs.a m.txs.n m.txs.c, .slice m.ws.a m.ws.n m.ws.c, .slice m.ks.a m.ks.n m.ks.c, .int .i64 m.tb.id, .string (strB m.tb.nm), .slice m.tb.cs.a m.tb.cs.n m.tb.cs.c, .int .i64 m.tb.ky, .slice m.tb.ix.a m.tb.ix.n m.tb.ix.c] rfl _ rfl rfl (.tmp 6) (.tmp 21) rfl rfl rfl ?_))
      rw [← HW2e.out]
      (try simp only [Act.put, List.setIfInBounds_toArray, List.set_cons_zero, List.set_cons_succ])
      go_cut [38] (fun s38 wx => s38 = .bool false ∧ ∃ (a' : Mm) (b' : Xm), IsMm b'.X w2.heap.size wx a' (2 * (k + 1)) (stM ms (k + 1)) ∧ IsXm a'.X w2 wx b' (2 * (k + 1)) (stM ms (k + 1)) ∧ a'.p = M + 1 ∧ b'.p = w3.heap.size ∧ Below w2.heap.size w2 wx)
      case first =>
        refine startG (fun V : World => V.heap[wo.heap.size]? = W2.heap[wo.heap.size]?) (fun i => false) (by kernel_rfl) ?_
        refine' takeG (i := 0) (v := _) rfl (by kernel_rfl) (by kernel_rfl) (by kernel_rfl) (by kernel_rfl) (fun _ _ _ h => h) (by rfl) (rfl) ?_ ?_; rotate_left
        · (intro V hSV; go_simp; all_goals (with_reducible rfl))
        (try simp only [Act.put, List.setIfInBounds_toArray, List.set_cons_zero, List.set_cons_succ])
        refine' takeG (i := 1) (v := _) rfl (by kernel_rfl) (by kernel_rfl) (by kernel_rfl) (by kernel_rfl) (fun _ _ _ h => h) (by rfl) (rfl) ?_ ?_; rotate_left
        · (intro V hSV; refine run_loadT layCm V _ Tryz.underlying50 rfl _ _ (.tmp 6) ?_ wo.heap.size 0 m #[.int .u64 m.cl, .int .u64 m.sq, .int .i64 m.kd, .int .u64 m.tx, .int .u64 m.ts, .bool m.fl, .int .u64 m.lk.l.tx, .int .i64 m.lk.l.lv, .int .i64 m.lk.l.md, .slice m.lk.la m.lk.ln m.lk.lc, .slice m.lk.ha m.lk.hn m.lk.hc, .slice m.lo.a m.lo.n m.lo.c, .slice m.hi.a m.hi.n m.hi.c, .slice m.txs.a m.txs.n m.txs.c, .slice m.ws.a m.ws.n m.ws.c, .slice m.ks.a m.ks.n m.ks.c, .int .i64 m.tb.id, .string (strB m.tb.nm), .slice m.tb.cs.a m.tb.cs.n m.tb.cs.c, .int .i64 m.tb.ky, .slice m.tb.ix.a m.tb.ix.n m.tb.ix.c] rfl ?_ (HR1.out V hSV) <;> rfl)
        (try simp only [Act.put, List.setIfInBounds_toArray, List.set_cons_zero, List.set_cons_succ])
        refine' takeG (i := 3) (v := _) rfl (by kernel_rfl) (by kernel_rfl) (by kernel_rfl) (by kernel_rfl) (fun _ _ _ h => h) (by rfl) (rfl) ?_ ?_; rotate_left
        · (intro V hSV; go_simp; all_goals (with_reducible rfl))
        (try simp only [Act.put, List.setIfInBounds_toArray, List.set_cons_zero, List.set_cons_succ])
        refine' takeG (i := 4) (v := _) rfl (by kernel_rfl) (by kernel_rfl) (by kernel_rfl) (by kernel_rfl) (fun _ _ _ h => h) (by rfl) (rfl) ?_ ?_; rotate_left
        · (intro V hSV; refine run_loadT layCm V _ Tryz.underlying50 rfl _ _ (.tmp 6) ?_ wo.heap.size 0 m #[.int .u64 m.cl, .int .u64 m.sq, .int .i64 m.kd, .int .u64 m.tx, .int .u64 m.ts, .bool m.fl, .int .u64 m.lk.l.tx, .int .i64 m.lk.l.lv, .int .i64 m.lk.l.md, .slice m.lk.la m.lk.ln m.lk.lc, .slice m.lk.ha m.lk.hn m.lk.hc, .slice m.lo.a m.lo.n m.lo.c, .slice m.hi.a m.hi.n m.hi.c, .slice m.txs.a m.txs.n m.txs.c, .slice m.ws.a m.ws.n m.ws.c, .slice m.ks.a m.ks.n m.ks.c, .int .i64 m.tb.id, .string (strB m.tb.nm), .slice m.tb.cs.a m.tb.cs.n m.tb.cs.c, .int .i64 m.tb.ky, .slice m.tb.ix.a m.tb.ix.n m.tb.ix.c] rfl ?_ (HR1.out V hSV) <;> rfl)
        (try simp only [Act.put, List.setIfInBounds_toArray, List.set_cons_zero, List.set_cons_succ])
        refine callE (i := 2) rfl (by kernel_rfl) (fun K hK => ?_)
        go_simp
        refine HDo.out.mono ?_
        rintro e w6 ⟨a1, m1, rfl, hr6, hf6, hi6, hs6⟩
        have HR6 := hide hr6
        have HF6 := hide hf6
        have HI6 := hide hi6
        have HS6 := hide hs6
        have hSa : w6.heap[wo.heap.size]? = W2.heap[wo.heap.size]? := hs6.kp.block wo.heap.size HL2.out (fun e => by have := (HI.out.xl _ e).2; omega)
        have HSa := hide hSa
        refine hK.out _ _ (fun _ => HSa.out) ?_
        clear hK K hr6 hf6 hi6 hs6 hSa
        unfold MRes.v
        (try simp only [Act.put, List.setIfInBounds_toArray, List.set_cons_zero, List.set_cons_succ])
        have HX6 : Hid (IsXm a1.X w2 w6 bm (2 * k) (stM ms k)) := HX2.out.other HS6.out.kp (fun j hj => ⟨HS6.out.st j hj, (HI6.out.xl j hj).2⟩)
        have HXo := hide (xdoP_any H6 HX6.out m w3.heap.size HQ.out HOm.out HFm.out (by omega))
        refine callE (i := 5) rfl (by kernel_rfl) (fun K hK => ?_)
        go_simp
        refine HXo.out.mono ?_
        rintro e w7 ⟨b1, r, rfl, hp7, hf7, hi7, hpe7, hk7, hx7⟩
        have HP7 := hide hp7
        have HF7 := hide hf7
        have HI7 := hide hi7
        have HPe7 := hide hpe7
        have HK7 := hide hk7
        have HX7 := hide hx7
        have hSb : w7.heap[wo.heap.size]? = W2.heap[wo.heap.size]? := (hk7.block wo.heap.size (by have := HS6.out.kp.size; have := HL2.out; exact Nat.lt_of_lt_of_le HL2.out HS6.out.kp.size) (fun e => by have := (HX.out.xl _ e).2; omega)).trans HSa.out
        have HSb := hide hSb
        refine hK.out _ _ (fun _ => HSb.out) ?_
        clear hK K hp7 hf7 hi7 hpe7 hk7 hx7 hSb
        (try simp only [Act.put, List.setIfInBounds_toArray, List.set_cons_zero, List.set_cons_succ])
        have HIm : Hid (IsMm b1.X w2.heap.size w7 a1 (2 * k + 2) (doM (stM ms k) m.c).2) := HI6.out.other HK7.out (fun j hj => ⟨HX7.out j hj, (HI7.out.xl j hj).2⟩) (fun e => by have := (HI7.out.xl 0 e).1; have h2 := HB02.out.size; have h3 := H00.out; omega)
        have HOk7 : Hid (m1.ok w7) := (HF6.out.step (Keeps.wider HK7.out (fun j hj => .inr hj)) (fun j hj => .inl hj)).now
        have HSr := hide (xsameM_any m1 r w7 HOk7.out HF7.out.now HR6.out HP7.out)
        refine callE (i := 6) rfl (by kernel_rfl) (fun K hK => ?_)
        go_simp
        refine HSr.out.mono ?_
        rintro e w8 ⟨rfl, hb8⟩
        have HB8 := hide hb8
        have hlw7 : wo.heap.size < w7.heap.size := Nat.lt_of_lt_of_le (Nat.lt_of_lt_of_le HL2.out HS6.out.kp.size) HK7.out.size
        have HSc : Hid (w8.heap[wo.heap.size]? = W2.heap[wo.heap.size]?) := (hb8.block wo.heap.size hlw7).trans HSb.out
        refine hK.out _ _ (fun _ => HSc.out) ?_
        clear hK K hb8
        (try simp only [Act.put, List.setIfInBounds_toArray, List.set_cons_zero, List.set_cons_succ])
        have HI8 := hide (HIm.out.keep HB8.out)
        have HX8 := hide (HI7.out.keep HB8.out)
        have HP8 : Hid (a1.p = M + 1) := HS6.out.p.trans HP.out
        have HQ8 : Hid (b1.p = w3.heap.size) := HPe7.out.trans HQ.out
        have hck : w8.cell? ⟨w3.heap.size, 1, none⟩ = some (.int .u64 (doM (stM ms k) m.c).2.ck) := by rw [← HQ8.out]; exact HX8.out.c1
        have hbne : (((doM (stM ms k) m.c).2.ck : Int) != (doM (stM ms k) m.c).2.ck) = false := by simp
        refine' takeG (i := 7) (v := _) rfl (by kernel_rfl) (by kernel_rfl) (by kernel_rfl) (by kernel_rfl) (fun _ _ _ h => h) (by rfl) (HSc.out) ?_ ?_; rotate_left
        · (intro V hSV; go_simp; all_goals (with_reducible rfl))
        (try simp only [Act.put, List.setIfInBounds_toArray, List.set_cons_zero, List.set_cons_succ])
        refine' takeG (i := 8) (v := _) rfl (by kernel_rfl) (by kernel_rfl) (by kernel_rfl) (by kernel_rfl) (fun _ _ _ h => h) (by rfl) (HSc.out) ?_ ?_; rotate_left
        · (intro V hSV; go_simp; all_goals (with_reducible rfl))
        (try simp only [Act.put, List.setIfInBounds_toArray, List.set_cons_zero, List.set_cons_succ])
        refine' takeG (i := 9) (v := _) rfl (by kernel_rfl) (by kernel_rfl) (by kernel_rfl) (by kernel_rfl) (fun _ _ _ h => h) (by rfl) (HSc.out) ?_ ?_; rotate_left
        · (intro V hSV; go_simp; all_goals (with_reducible rfl))
        (try simp only [Act.put, List.setIfInBounds_toArray, List.set_cons_zero, List.set_cons_succ])
        refine' takeG (i := 11) (v := _) rfl (by kernel_rfl) (by kernel_rfl) (by kernel_rfl) (by kernel_rfl) (fun _ _ _ h => h) (by rfl) (HSc.out) ?_ ?_; rotate_left
        · (intro V hSV; go_simp; all_goals (with_reducible rfl))
        (try simp only [Act.put, List.setIfInBounds_toArray, List.set_cons_zero, List.set_cons_succ])
        refine' takeG (i := 12) (v := _) rfl (by kernel_rfl) (by kernel_rfl) (by kernel_rfl) (by kernel_rfl) (fun _ _ _ h => h) (by rfl) (HSc.out) ?_ ?_; rotate_left
        · (intro V hSV; go_simp; all_goals (with_reducible rfl))
        (try simp only [Act.put, List.setIfInBounds_toArray, List.set_cons_zero, List.set_cons_succ])
        refine' takeG (i := 13) (v := _) rfl (by kernel_rfl) (by kernel_rfl) (by kernel_rfl) (by kernel_rfl) (fun _ _ _ h => h) (by rfl) (HSc.out) ?_ ?_; rotate_left
        · (intro V hSV; go_simp; all_goals (with_reducible rfl))
        (try simp only [Act.put, List.setIfInBounds_toArray, List.set_cons_zero, List.set_cons_succ])
        refine bothE (i := 10) (j := 14) rfl rfl (by kernel_rfl) (fun K hK => ?_) (fun K hK => ?_)
        · go_simp
          refine (pclockP_any HI8.out (M + 1) HP8.out).mono ?_
          rintro e wz ⟨rfl, hw⟩
          have hw := hw.symm
          subst hw
          refine hK.out _ _ (fun _ => HSc.out) ?_
          clear hK K
          (try simp only [Act.put, List.setIfInBounds_toArray, List.set_cons_zero, List.set_cons_succ])
          refine callE (i := 14) rfl (by kernel_rfl) (fun K hK => ?_)
          go_simp
          refine hK.out _ _ (fun _ => HSc.out) ?_
          clear hK K
          (try simp only [Act.put, List.setIfInBounds_toArray, List.set_cons_zero, List.set_cons_succ])
          refine' takeG (i := 15) (v := _) rfl (by kernel_rfl) (by kernel_rfl) (by kernel_rfl) (by kernel_rfl) (fun _ _ _ h => h) (by rfl) (HSc.out) ?_ ?_; rotate_left
          · (intro V hSV; go_simp; all_goals (with_reducible rfl))
          (try simp only [Act.put, List.setIfInBounds_toArray, List.set_cons_zero, List.set_cons_succ])
          refine' takeG (i := 16) (v := _) rfl (by kernel_rfl) (by kernel_rfl) (by kernel_rfl) (by kernel_rfl) (fun _ _ _ h => h) (by rfl) (HSc.out) ?_ ?_; rotate_left
          · (intro V hSV; go_simp; all_goals (with_reducible rfl))
          (try simp only [Act.put, List.setIfInBounds_toArray, List.set_cons_zero, List.set_cons_succ])
          refine doneE (by kernel_rfl) ?_ _
          go_wp2_with fail
          go_meet
          have hst := stM_more HM.out
          exact ⟨rfl, a1, b1, by rw [hst]; exact HI8.out, by rw [hst]; exact HX8.out, HP8.out, HQ8.out, by
            have h1 := mstep_kp HS6.out (fun j hj => HXu.out j (.inl hj)) HBd.out.size HBd.out
            have h2 := HK7.out.below h1.size (fun j hj => HXu.out j (.inr hj))
            exact (h1.trans h2).trans (HB8.out.mono (h1.trans h2).size)⟩
        · go_simp
          refine hK.out _ _ (fun _ => HSc.out) ?_
          clear hK K
          (try simp only [Act.put, List.setIfInBounds_toArray, List.set_cons_zero, List.set_cons_succ])
          refine callE (i := 10) rfl (by kernel_rfl) (fun K hK => ?_)
          go_simp
          refine (pclockP_any HI8.out (M + 1) HP8.out).mono ?_
          rintro e wz ⟨rfl, hw⟩
          have hw := hw.symm
          subst hw
          refine hK.out _ _ (fun _ => HSc.out) ?_
          clear hK K
          (try simp only [Act.put, List.setIfInBounds_toArray, List.set_cons_zero, List.set_cons_succ])
          refine' takeG (i := 15) (v := _) rfl (by kernel_rfl) (by kernel_rfl) (by kernel_rfl) (by kernel_rfl) (fun _ _ _ h => h) (by rfl) (HSc.out) ?_ ?_; rotate_left
          · (intro V hSV; go_simp; all_goals (with_reducible rfl))
          (try simp only [Act.put, List.setIfInBounds_toArray, List.set_cons_zero, List.set_cons_succ])
          refine' takeG (i := 16) (v := _) rfl (by kernel_rfl) (by kernel_rfl) (by kernel_rfl) (by kernel_rfl) (fun _ _ _ h => h) (by rfl) (HSc.out) ?_ ?_; rotate_left
          · (intro V hSV; go_simp; all_goals (with_reducible rfl))
          (try simp only [Act.put, List.setIfInBounds_toArray, List.set_cons_zero, List.set_cons_succ])
          refine doneE (by kernel_rfl) ?_ _
          go_wp2_with fail
          go_meet
          have hst := stM_more HM.out
          exact ⟨rfl, a1, b1, by rw [hst]; exact HI8.out, by rw [hst]; exact HX8.out, HP8.out, HQ8.out, by
            have h1 := mstep_kp HS6.out (fun j hj => HXu.out j (.inl hj)) HBd.out.size HBd.out
            have h2 := HK7.out.below h1.size (fun j hj => HXu.out j (.inr hj))
            exact (h1.trans h2).trans (HB8.out.mono (h1.trans h2).size)⟩
      case rest =>
        obtain ⟨rfl, a1, b1, hi1, hx1, hp1, hq1, hb1⟩ := hcut
        have HI1 := hide hi1
        have HX1 := hide hx1
        have HP1 := hide hp1
        have HQ1 := hide hq1
        have HB1c := hide hb1
        clear hi1 hx1 hp1 hq1 hb1
        go_wp2
        go_roundg (n - (k + 1))
        case measure => omega
        case rel => exact ⟨k + 1, a1, b1, rfl, by go_num, hlt, HI1.out, HX1.out, HP1.out, HQ1.out, HB1c.out⟩
    · obtain rfl : k = n := by omega
      have hnl : ¬ (k : Int) < (k : Int) := by omega
      have HLk := hide (plocksP_any HI.out (M + 1) HP.out)
      go_upto_region 15 with (first
        | (go_at_call 13; go_must (refine HLk.out.mono ?_); rintro e wz ⟨rfl, hw⟩; have hw := hw.symm; subst hw))
      have HI5 := hide (HI.out.keep (Below.refl _ wo).drew)
      have HV : Hid (∀ V, Below wo.heap.size wo V → V.cell? ⟨w3.heap.size, 3, none⟩ = some (.slice bm.ha bm.hn bm.hc) ∧ V.cell? ⟨w3.heap.size, 3 + 1, none⟩ = some (.slice bm.wa bm.wn bm.wc) ∧ V.cell? ⟨w3.heap.size, 4, none⟩ = some (.slice bm.wa bm.wn bm.wc)) := fun V hV => by
        have h1 := (HX.out.keep hV).lk
        rw [HQ.out] at h1
        exact ⟨h1.c0, h1.c1, h1.c1⟩
      have HLd : Hid (∀ V, Below wo.heap.size wo V → (IsY layK V bm.ha bm.hn bm.hc bm.hs ∧ ∀ y ∈ bm.hs, y.ok V) ∧ (IsY layK V bm.wa bm.wn bm.wc bm.ws ∧ ∀ y ∈ bm.ws, y.ok V)) := fun V hV => by
        have h1 := (HX.out.keep hV).lk
        exact ⟨⟨h1.h, fun y hy => (h1.ho y hy).keep h1.b0⟩, ⟨h1.wt, fun y hy => (h1.wo y hy).keep h1.b0⟩⟩
      refine startE (fun _ => false) (by kernel_rfl) ?_
      refine' takeE (i := 0) (v := _) rfl (by kernel_rfl) (by kernel_rfl) (by kernel_rfl) (by kernel_rfl) (fun _ _ _ h => h) (by rfl) (Below.refl _ _) ?_ ?_; rotate_left
      · (intro V hSV; obtain ⟨k3, k4, k5⟩ := HV.out V (bel_undQ hSV); go_simp; all_goals (with_reducible rfl))
      (try simp only [Act.put, List.setIfInBounds_toArray, List.set_cons_zero, List.set_cons_succ])
      refine' takeE (i := 2) (v := _) rfl (by kernel_rfl) (by kernel_rfl) (by kernel_rfl) (by kernel_rfl) (fun _ _ _ h => h) (by rfl) (Below.refl _ _) ?_ ?_; rotate_left
      · (intro V hSV; obtain ⟨k3, k4, k5⟩ := HV.out V (bel_undQ hSV); go_simp; all_goals (with_reducible rfl))
      (try simp only [Act.put, List.setIfInBounds_toArray, List.set_cons_zero, List.set_cons_succ])
      refine' takeE (i := 3) (v := _) rfl (by kernel_rfl) (by kernel_rfl) (by kernel_rfl) (by kernel_rfl) (fun _ _ _ h => h) (by rfl) (Below.refl _ _) ?_ ?_; rotate_left
      · (intro V hSV; obtain ⟨k3, k4, k5⟩ := HV.out V (bel_undQ hSV); go_simp; all_goals (with_reducible rfl))
      (try simp only [Act.put, List.setIfInBounds_toArray, List.set_cons_zero, List.set_cons_succ])
      refine' takeE (i := 4) (v := _) rfl (by kernel_rfl) (by kernel_rfl) (by kernel_rfl) (by kernel_rfl) (fun _ _ _ h => h) (by rfl) (Below.refl _ _) ?_ ?_; rotate_left
      · (intro V hSV; obtain ⟨k3, k4, k5⟩ := HV.out V (bel_undQ hSV); go_simp; all_goals (with_reducible rfl))
      (try simp only [Act.put, List.setIfInBounds_toArray, List.set_cons_zero, List.set_cons_succ])
      refine' takeE (i := 5) (v := _) rfl (by kernel_rfl) (by kernel_rfl) (by kernel_rfl) (by kernel_rfl) (fun _ _ _ h => h) (by rfl) (Below.refl _ _) ?_ ?_; rotate_left
      · (intro V hSV; obtain ⟨k3, k4, k5⟩ := HV.out V (bel_undQ hSV); go_simp; all_goals (with_reducible rfl))
      (try simp only [Act.put, List.setIfInBounds_toArray, List.set_cons_zero, List.set_cons_succ])
      refine' takeE (i := 6) (v := _) rfl (by kernel_rfl) (by kernel_rfl) (by kernel_rfl) (by kernel_rfl) (fun _ _ _ h => h) (by rfl) (Below.refl _ _) ?_ ?_; rotate_left
      · (intro V hSV; obtain ⟨k3, k4, k5⟩ := HV.out V (bel_undQ hSV); go_simp; all_goals (with_reducible rfl))
      (try simp only [Act.put, List.setIfInBounds_toArray, List.set_cons_zero, List.set_cons_succ])
      refine callE (i := 1) rfl (by kernel_rfl) (fun K hK => ?_)
      go_simp
      refine (mheldL_any HI5.out (by omega)).mono ?_
      rintro e w5 ⟨la, ln, lc, ys, rfl, hy5, hm5, ho5, hb5⟩
      have HY5 := hide hy5
      have HM5 := hide hm5
      have HO5 := hide ho5
      have HB5 := hide hb5
      have HB5u := hide (bel_undQ hb5)
      refine hK.out _ _ (fun _ => HB5.out) ?_
      clear hK K hy5 hm5 ho5 hb5
      (try simp only [Act.put, List.setIfInBounds_toArray, List.set_cons_zero, List.set_cons_succ])
      have hsl := sameLocks_any la ln lc ys bm.ha bm.hn bm.hc bm.hs w5 HY5.out (HLd.out w5 HB5u.out).1.1 HO5.out (HLd.out w5 HB5u.out).1.2
      rw [show decide (ys.map ML.l = bm.hs.map ML.l) = true from decide_eq_true (by rw [HM5.out, HX.out.eh])] at hsl
      have HSl := hide hsl
      clear hsl
      refine callE (i := 7) rfl (by kernel_rfl) (fun K hK => ?_)
      go_simp
      refine HSl.out.mono ?_
      rintro e w6 ⟨rfl, hb6⟩
      have HB6 := hide (HB5.out.trans (hb6.mono HB5.out.size))
      have HB6u := hide (HB5u.out.trans (hb6.mono HB5u.out.size))
      refine hK.out _ _ (fun _ => HB6.out) ?_
      clear hK K hb6
      (try simp only [Act.put, List.setIfInBounds_toArray, List.set_cons_zero, List.set_cons_succ])
      refine' takeE (i := 8) (v := _) rfl (by kernel_rfl) (by kernel_rfl) (by kernel_rfl) (by kernel_rfl) (fun _ _ _ h => h) (by rfl) (HB6.out) ?_ ?_; rotate_left
      · (intro V hSV; obtain ⟨k3, k4, k5⟩ := HV.out V (bel_undQ hSV); go_simp; all_goals (with_reducible rfl))
      (try simp only [Act.put, List.setIfInBounds_toArray, List.set_cons_zero, List.set_cons_succ])
      refine' takeE (i := 9) (v := _) rfl (by kernel_rfl) (by kernel_rfl) (by kernel_rfl) (by kernel_rfl) (fun _ _ _ h => h) (by rfl) (HB6.out) ?_ ?_; rotate_left
      · (intro V hSV; obtain ⟨k3, k4, k5⟩ := HV.out V (bel_undQ hSV); go_simp; all_goals (with_reducible rfl))
      (try simp only [Act.put, List.setIfInBounds_toArray, List.set_cons_zero, List.set_cons_succ])
      refine' takeE (i := 11) (v := _) rfl (by kernel_rfl) (by kernel_rfl) (by kernel_rfl) (by kernel_rfl) (fun _ _ _ h => h) (by rfl) (HB6.out) ?_ ?_; rotate_left
      · (intro V hSV; obtain ⟨k3, k4, k5⟩ := HV.out V (bel_undQ hSV); go_simp; all_goals (with_reducible rfl))
      (try simp only [Act.put, List.setIfInBounds_toArray, List.set_cons_zero, List.set_cons_succ])
      refine' takeE (i := 12) (v := _) rfl (by kernel_rfl) (by kernel_rfl) (by kernel_rfl) (by kernel_rfl) (fun _ _ _ h => h) (by rfl) (HB6.out) ?_ ?_; rotate_left
      · (intro V hSV; obtain ⟨k3, k4, k5⟩ := HV.out V (bel_undQ hSV); go_simp; all_goals (with_reducible rfl))
      (try simp only [Act.put, List.setIfInBounds_toArray, List.set_cons_zero, List.set_cons_succ])
      refine' takeE (i := 13) (v := _) rfl (by kernel_rfl) (by kernel_rfl) (by kernel_rfl) (by kernel_rfl) (fun _ _ _ h => h) (by rfl) (HB6.out) ?_ ?_; rotate_left
      · (intro V hSV; obtain ⟨k3, k4, k5⟩ := HV.out V (bel_undQ hSV); go_simp; all_goals (with_reducible rfl))
      (try simp only [Act.put, List.setIfInBounds_toArray, List.set_cons_zero, List.set_cons_succ])
      refine' takeE (i := 14) (v := _) rfl (by kernel_rfl) (by kernel_rfl) (by kernel_rfl) (by kernel_rfl) (fun _ _ _ h => h) (by rfl) (HB6.out) ?_ ?_; rotate_left
      · (intro V hSV; obtain ⟨k3, k4, k5⟩ := HV.out V (bel_undQ hSV); go_simp; all_goals (with_reducible rfl))
      (try simp only [Act.put, List.setIfInBounds_toArray, List.set_cons_zero, List.set_cons_succ])
      refine' takeE (i := 15) (v := _) rfl (by kernel_rfl) (by kernel_rfl) (by kernel_rfl) (by kernel_rfl) (fun _ _ _ h => h) (by rfl) (HB6.out) ?_ ?_; rotate_left
      · (intro V hSV; obtain ⟨k3, k4, k5⟩ := HV.out V (bel_undQ hSV); go_simp; all_goals (with_reducible rfl))
      (try simp only [Act.put, List.setIfInBounds_toArray, List.set_cons_zero, List.set_cons_succ])
      have HI7 := hide (HI.out.keep HB6u.out)
      refine callE (i := 10) rfl (by kernel_rfl) (fun K hK => ?_)
      go_simp
      refine (mwaitL_any HI7.out (by omega)).mono ?_
      rintro e w7 ⟨lb, lm, ld, zs2, rfl, hy7, hm7, ho7, hb7⟩
      have HY7 := hide hy7
      have HM7 := hide hm7
      have HO7 := hide ho7
      have HB7 := hide (HB6.out.trans (hb7.mono HB6.out.size))
      have HB7u := hide (HB6u.out.trans (hb7.mono HB6u.out.size))
      refine hK.out _ _ (fun _ => HB7.out) ?_
      clear hK K hy7 hm7 ho7 hb7
      (try simp only [Act.put, List.setIfInBounds_toArray, List.set_cons_zero, List.set_cons_succ])
      have hsl := sameLocks_any lb lm ld zs2 bm.wa bm.wn bm.wc bm.ws w7 HY7.out (HLd.out w7 HB7u.out).2.1 HO7.out (HLd.out w7 HB7u.out).2.2
      rw [show decide (zs2.map ML.l = bm.ws.map ML.l) = true from decide_eq_true (by rw [HM7.out, HX.out.ew])] at hsl
      have HSl2 := hide hsl
      clear hsl
      refine callE (i := 16) rfl (by kernel_rfl) (fun K hK => ?_)
      go_simp
      refine HSl2.out.mono ?_
      rintro e w8 ⟨rfl, hb8⟩
      have HB8 := hide (HB7.out.trans (hb8.mono HB7.out.size))
      refine hK.out _ _ (fun _ => HB8.out) ?_
      clear hK K hb8
      (try simp only [Act.put, List.setIfInBounds_toArray, List.set_cons_zero, List.set_cons_succ])
      refine' takeE (i := 17) (v := _) rfl (by kernel_rfl) (by kernel_rfl) (by kernel_rfl) (by kernel_rfl) (fun _ _ _ h => h) (by rfl) (HB8.out) ?_ ?_; rotate_left
      · (intro V hSV; go_simp; all_goals (with_reducible rfl))
      (try simp only [Act.put, List.setIfInBounds_toArray, List.set_cons_zero, List.set_cons_succ])
      refine' takeE (i := 18) (v := _) rfl (by kernel_rfl) (by kernel_rfl) (by kernel_rfl) (by kernel_rfl) (fun _ _ _ h => h) (by rfl) (HB8.out) ?_ ?_; rotate_left
      · (intro V hSV; go_simp; all_goals (with_reducible rfl))
      (try simp only [Act.put, List.setIfInBounds_toArray, List.set_cons_zero, List.set_cons_succ])
      refine doneE (by kernel_rfl) ?_ _
      go_wp2
      go_ret
      exact ⟨rfl, HB02.out.trans ((HB.out.trans ((bel_undQ HB8.out).mono HB.out.size)).mono HB02.out.size)⟩

end Go.Proofs.YtcgiicmmfleinaaGreatDoor

namespace Go.Proofs.YtcgiicmmfleinaaGreatDoor
open Go.RowKit NumMath Go.ChangeShapes Go.WideShapes Go.Deep
set_option linter.unusedVariables false
set_option linter.unusedSimpArgs false
set_option maxRecDepth 100000

theorem thereT {V : World} {b : Nat} {l : List Value} (h : V.rangeAt b 0 l) (hf : ∀ j, V.frozen? ⟨b, j, none⟩ = false) : V.there b 0 l.length := by
  intro j hj
  refine ⟨?_, hf _⟩
  rw [h j _ (List.getElem?_eq_getElem hj)]
  rfl

/-- what is asked of Meta.table -/
def TableX : Prop := ∀ (F : Nat → Prop) (w0 w : World) (a : Xm) (z : Nat) (S : Mac), IsXm F w0 w a z S → ∀ t : MTb, t.ok w0 → z ≤ 159 → MacI (z + 1) (tableM S t.t).2 →
    Calls Tryz.prog 85 #[.pointer (some ⟨a.p, 0, none⟩), .agg #[.int .i64 t.id, .string (strB t.nm), .slice t.cs.a t.cs.n t.cs.c, .int .i64 t.ky, .slice t.ix.a t.ix.n t.ix.c]] w (XsPost F w0 w a (z + 1) (tableM S t.t))

set_option maxHeartbeats 4000000 in
theorem xone6_any (HT : TableX) {F : Nat → Prop} {w0 w : World} {a : Xm} {z : Nat} {S : Mac} (h : IsXm F w0 w a z S) (c : MCmd) (hc : c.ok w0) (hf : c.c.Few) (hz : z ≤ 159) (hk : c.kd = 6) :
    Calls Tryz.prog 30 #[.pointer (some ⟨a.p, 0, none⟩), .agg #[.int .u64 c.cl, .int .u64 c.sq, .int .i64 c.kd, .int .u64 c.tx, .int .u64 c.ts, .bool c.fl, .int .u64 c.lk.l.tx, .int .i64 c.lk.l.lv, .int .i64 c.lk.l.md, .slice c.lk.la c.lk.ln c.lk.lc, .slice c.lk.ha c.lk.hn c.lk.hc, .slice c.lo.a c.lo.n c.lo.c, .slice c.hi.a c.hi.n c.hi.c, .slice c.txs.a c.txs.n c.txs.c, .slice c.ws.a c.ws.n c.ws.c, .slice c.ks.a c.ks.n c.ks.c, .int .i64 c.tb.id, .string (strB c.tb.nm), .slice c.tb.cs.a c.tb.cs.n c.tb.cs.c, .int .i64 c.tb.ky, .slice c.tb.ix.a c.tb.ix.n c.tb.ix.c]] w (XsPost F w0 w a (z + 1) (oneM S c.c)) := by
  have HKd := hide hk
  clear hk
  obtain ⟨W1, hW1⟩ : ∃ W1, W1 = ((w.alloc (.cells #[.int .u64 c.cl, .int .u64 c.sq, .int .i64 c.kd, .int .u64 c.tx, .int .u64 c.ts, .bool c.fl, .int .u64 c.lk.l.tx, .int .i64 c.lk.l.lv, .int .i64 c.lk.l.md, .slice c.lk.la c.lk.ln c.lk.lc, .slice c.lk.ha c.lk.hn c.lk.hc, .slice c.lo.a c.lo.n c.lo.c, .slice c.hi.a c.hi.n c.hi.c, .slice c.txs.a c.txs.n c.txs.c, .slice c.ws.a c.ws.n c.ws.c, .slice c.ks.a c.ks.n c.ks.c, .int .i64 c.tb.id, .string (strB c.tb.nm), .slice c.tb.cs.a c.tb.cs.n c.tb.cs.c, .int .i64 c.tb.ky, .slice c.tb.ix.a c.tb.ix.n c.tb.ix.c] 50)).alloc (.cells #[.int .i64 0, .int .u64 0, .int .u64 0, .bool false, .slice none 0 0, .slice none 0 0, .slice none 0 0] 55)) := ⟨_, rfl⟩
  have hb1 : Below w.heap.size w W1 := by
    rw [hW1]
    exact (new_below w _).trans ((new_below _ _).mono (new_below w _).size)
  have hl1 : W1.heap.size = w.heap.size + 2 := by rw [hW1]; simp
  have HX : Hid (∀ V, Below W1.heap.size W1 V → V.rangeAt w.heap.size 0 (layCm.cells c) ∧ V.rangeAt (w.heap.size + 1) 0 [.int .i64 0, .int .u64 0, .int .u64 0, .bool false, .slice none 0 0, .slice none 0 0, .slice none 0 0] ∧ ∀ j, V.frozen? ⟨w.heap.size + 1, j, none⟩ = false) := by
    intro V hb
    refine ⟨?_, ?_, fun j => ?_⟩
    · subst hW1
      exact (two_boxes w #[.int .u64 c.cl, .int .u64 c.sq, .int .i64 c.kd, .int .u64 c.tx, .int .u64 c.ts, .bool c.fl, .int .u64 c.lk.l.tx, .int .i64 c.lk.l.lv, .int .i64 c.lk.l.md, .slice c.lk.la c.lk.ln c.lk.lc, .slice c.lk.ha c.lk.hn c.lk.hc, .slice c.lo.a c.lo.n c.lo.c, .slice c.hi.a c.hi.n c.hi.c, .slice c.txs.a c.txs.n c.txs.c, .slice c.ws.a c.ws.n c.ws.c, .slice c.ks.a c.ks.n c.ks.c, .int .i64 c.tb.id, .string (strB c.tb.nm), .slice c.tb.cs.a c.tb.cs.n c.tb.cs.c, .int .i64 c.tb.ky, .slice c.tb.ix.a c.tb.ix.n c.tb.ix.c] #[.int .i64 0, .int .u64 0, .int .u64 0, .bool false, .slice none 0 0, .slice none 0 0, .slice none 0 0] 50 55 V hb).1
    · subst hW1
      exact (two_boxes w #[.int .u64 c.cl, .int .u64 c.sq, .int .i64 c.kd, .int .u64 c.tx, .int .u64 c.ts, .bool c.fl, .int .u64 c.lk.l.tx, .int .i64 c.lk.l.lv, .int .i64 c.lk.l.md, .slice c.lk.la c.lk.ln c.lk.lc, .slice c.lk.ha c.lk.hn c.lk.hc, .slice c.lo.a c.lo.n c.lo.c, .slice c.hi.a c.hi.n c.hi.c, .slice c.txs.a c.txs.n c.txs.c, .slice c.ws.a c.ws.n c.ws.c, .slice c.ks.a c.ks.n c.ks.c, .int .i64 c.tb.id, .string (strB c.tb.nm), .slice c.tb.cs.a c.tb.cs.n c.tb.cs.c, .int .i64 c.tb.ky, .slice c.tb.ix.a c.tb.ix.n c.tb.ix.c] #[.int .i64 0, .int .u64 0, .int .u64 0, .bool false, .slice none 0 0, .slice none 0 0, .slice none 0 0] 50 55 V hb).2
    · rw [hb.frozen (p := ⟨w.heap.size + 1, j, none⟩) (by show w.heap.size + 1 < W1.heap.size; omega), hW1]
      have h := fzY_new (w.alloc (.cells #[.int .u64 c.cl, .int .u64 c.sq, .int .i64 c.kd, .int .u64 c.tx, .int .u64 c.ts, .bool c.fl, .int .u64 c.lk.l.tx, .int .i64 c.lk.l.lv, .int .i64 c.lk.l.md, .slice c.lk.la c.lk.ln c.lk.lc, .slice c.lk.ha c.lk.hn c.lk.hc, .slice c.lo.a c.lo.n c.lo.c, .slice c.hi.a c.hi.n c.hi.c, .slice c.txs.a c.txs.n c.txs.c, .slice c.ws.a c.ws.n c.ws.c, .slice c.ks.a c.ks.n c.ks.c, .int .i64 c.tb.id, .string (strB c.tb.nm), .slice c.tb.cs.a c.tb.cs.n c.tb.cs.c, .int .i64 c.tb.ky, .slice c.tb.ix.a c.tb.ix.n c.tb.ix.c] 50)) #[.int .i64 0, .int .u64 0, .int .u64 0, .bool false, .slice none 0 0, .slice none 0 0, .slice none 0 0] 55 j
      rwa [World.size_alloc] at h
  obtain ⟨sa, sn, sc, hsv⟩ := h.so.any3
  have hI : IsY laySt w sa sn sc S.ss := by
    have h2 := h.so
    rw [hsv] at h2
    exact h2.is
  have hc2 : w.cell? ⟨a.p, 2, none⟩ = some (.slice sa sn sc) := by rw [← hsv]; exact h.c2
  have hst := xstate_any a.p sa sn sc S.ss c.tx W1 (Nat.lt_of_lt_of_le h.lt hb1.size) ((hb1.cell (p := ⟨a.p, 2, none⟩) h.lt).trans hc2) (hI.keep hb1) h.i.nx hf.tx
  obtain ⟨s, hs⟩ : ∃ s, staM S.ss c.tx = s := ⟨_, rfl⟩
  obtain ⟨b, hbb⟩ : ∃ b, hasM S.ss c.tx = b := ⟨_, rfl⟩
  rw [hs, hbb] at hst
  have HSt := hide hst
  have HI := hide h
  have HCo := hide hc
  have HFw := hide hf
  have HB1 := hide hb1
  have HL1 := hide hl1
  have HS := hide hs
  have HBb := hide hbb
  have HSv := hide hsv
  have HSY := hide hI
  have x3 : W1.cell? ⟨w.heap.size, 3, none⟩ = some (.int .u64 c.tx) := (HX.out W1 (Below.refl _ _)).1 3 _ rfl
  have hpl := h.lt
  have hpw : ¬ w.heap.size = a.p := by omega
  have hpw2 : ¬ w.heap.size + 1 = a.p := by omega
  clear h hc hf hb1 hl1 hst hs hbb hsv hI hc2
  go_enter Tryz.func30, Tryz.ntmps30
  go_upto_region 1 with fail
  rw [← hW1]
  clear hW1
  go_upto_region 2 with (first
    | (go_at_call 82; go_must (refine HSt.out.mono ?_); rintro e w2 ⟨rfl, hb2⟩; have HB2 := hide hb2; clear hb2))
  obtain ⟨W3, hW3⟩ : ∃ W3, W3 = w2.alloc (.cells #[.int .u64 s.tx, .int .i64 s.st, .int .u64 s.ts] 80) := ⟨_, rfl⟩
  rw [← hW3]
  have HN3 : Hid (Below w2.heap.size w2 W3) := by rw [hW3]; exact new_below _ _
  have HR3 : Hid (W3.rangeAt w2.heap.size 0 (laySt.cells s)) := by
    rw [hW3]
    exact rangeY_new w2 w2.heap.size _ _ rfl
  have HFz3 : Hid (∀ j, W3.frozen? ⟨w2.heap.size, j, none⟩ = false) := by
    rw [hW3]
    exact fun j => fzY_new _ _ _ _
  have HL3 : Hid (w2.heap.size < W3.heap.size) := by
    rw [hW3]
    exact (Array.getElem?_eq_some_iff.1 (heap_alloc_new _ _)).1
  have HB3 : Hid (Below W1.heap.size W1 W3) := HB2.out.trans (HN3.out.mono HB2.out.size)
  have HBw : Hid (Below w.heap.size w W3) := HB1.out.trans (HB3.out.mono HB1.out.size)
  clear hW3 x3 HSt
  have x2 : W3.cell? ⟨w.heap.size, 2, none⟩ = some (.int .i64 c.kd) := (HX.out W3 HB3.out).1 2 _ rfl
  have x16 : W3.cell? ⟨w.heap.size, 16, none⟩ = some (.int .i64 c.tb.id) := (HX.out W3 HB3.out).1 16 _ rfl
  have x17 : W3.cell? ⟨w.heap.size, 17, none⟩ = some (.string (strB c.tb.nm)) := (HX.out W3 HB3.out).1 17 _ rfl
  have x18 : W3.cell? ⟨w.heap.size, 18, none⟩ = some (.slice c.tb.cs.a c.tb.cs.n c.tb.cs.c) := (HX.out W3 HB3.out).1 18 _ rfl
  have x19 : W3.cell? ⟨w.heap.size, 19, none⟩ = some (.int .i64 c.tb.ky) := (HX.out W3 HB3.out).1 19 _ rfl
  have x20 : W3.cell? ⟨w.heap.size, 20, none⟩ = some (.slice c.tb.ix.a c.tb.ix.n c.tb.ix.c) := (HX.out W3 HB3.out).1 20 _ rfl
  have HE : Hid (oneM S c.c = tableM S c.tb.t) := by
    show _ = _
    have hk2 : c.c.kd = 6 := HKd.out
    simp [oneM, hk2]
    rfl
  have HMi : Hid (MacI (z + 1) (oneM S c.c).2) := (HI.out.i.one HFw.out).1
  rw [show c.kd = 6 from HKd.out] at x2
  have HI3 := hide (HI.out.box HBw.out (b := w.heap.size + 1) (by omega) (by have := HB3.out.size; have := HL1.out; omega))
  have HW3s : Hid (w.heap.size + 1 < W3.heap.size) := by show _ < _; have := HB3.out.size; have := HL1.out; omega
  have HTa := hide (HT _ w0 W3 a z S HI3.out c.tb HCo.out.tb hz (by have h1 := HMi.out; rw [HE.out] at h1; exact h1))
  clear HT
  go_upto_region 37 with fail
  have v1 : W3.cell? ⟨w.heap.size, 16 + 1, none⟩ = some (.string (strB c.tb.nm)) := x17
  have v2 : W3.cell? ⟨w.heap.size, 16 + 2, none⟩ = some (.slice c.tb.cs.a c.tb.cs.n c.tb.cs.c) := x18
  have v3 : W3.cell? ⟨w.heap.size, 16 + 3, none⟩ = some (.int .i64 c.tb.ky) := x19
  have v4 : W3.cell? ⟨w.heap.size, 16 + 4, none⟩ = some (.slice c.tb.ix.a c.tb.ix.n c.tb.ix.c) := x20
  go_wp2_with (first
    | (go_at_call 85
       refine HTa.out.mono ?_
       rintro e w5 ⟨a2, r, rfl, hr, hf5, hi5, hpe, hk5, hx5⟩
       have HR := hide hr
       have HF5 := hide hf5
       have HI5 := hide hi5
       have HPe := hide hpe
       have HK5 := hide hk5
       have HX5 := hide hx5
       have hbx : w5.heap[w.heap.size + 1]? = W3.heap[w.heap.size + 1]? := hk5.block _ HW3s.out (fun e => by have := HI.out.xl _ e; omega)
       obtain ⟨-, z5, zf5⟩ := HX.out W3 HB3.out
       have hz5 := rangeY_same z5 hbx
       have hfz5 : ∀ j, w5.frozen? ⟨w.heap.size + 1, j, none⟩ = false := (fun j => (World.frozen?_of_block (a := ⟨w.heap.size + 1, j, none⟩) hbx).trans (zf5 j))
       have HZ5 := hide hz5
       have HFz5 := hide hfz5
       clear hr hf5 hi5 hpe hk5 hx5 hbx z5 zf5 hz5 hfz5
       have HTh : Hid (w5.there (w.heap.size + 1) 0 7) := thereT HZ5.out HFz5.out
       go_wp2_with (
         (refine wp_setY w5 rfl 55 (.tmp 4) (.tmp 150) rfl (w.heap.size + 1) 0 #[.int .i64 r.er, .int .u64 r.tx, .int .u64 r.ts, .bool r.fl, .slice r.ss.a r.ss.n r.ss.c, .slice r.ce.a r.ce.n r.ce.c, .slice r.tb.a r.tb.n r.tb.c] rfl rfl (by exact HTh.out) (by kernel_rfl) (by first | (simp [Value.oneCell']; done) | kernel_rfl) ?_
          go_wp2_with (
            (change bodyPost _ _ _ _ _ (w5.setCells (w.heap.size + 1) 0 [.int .i64 r.er, .int .u64 r.tx, .int .u64 r.ts, .bool r.fl, .slice r.ss.a r.ss.n r.ss.c, .slice r.ce.a r.ce.n r.ce.c, .slice r.tb.a r.tb.n r.tb.c])
             have hrr := box_set (V := w5) (b := w.heap.size + 1) (new := [.int .i64 r.er, .int .u64 r.tx, .int .u64 r.ts, .bool r.fl, .slice r.ss.a r.ss.n r.ss.c, .slice r.ce.a r.ce.n r.ce.c, .slice r.tb.a r.tb.n r.tb.c]) HZ5.out (Nat.le_refl _) HFz5.out
             have r0 := hrr 0 _ rfl
             have r1 := hrr 1 _ rfl
             have r2 := hrr 2 _ rfl
             have r3 := hrr 3 _ rfl
             have r4 := hrr 4 _ rfl
             have r5 := hrr 5 _ rfl
             have r6 := hrr 6 _ rfl
             have hkk : Keeps (fun k => k = w.heap.size + 1) w5 (w5.setCells (w.heap.size + 1) 0 [.int .i64 r.er, .int .u64 r.tx, .int .u64 r.ts, .bool r.fl, .slice r.ss.a r.ss.n r.ss.c, .slice r.ce.a r.ce.n r.ce.c, .slice r.tb.a r.tb.n r.tb.c]) := keepsYs _ _ _ _
             clear hrr
             generalize w5.setCells (w.heap.size + 1) 0 [.int .i64 r.er, .int .u64 r.tx, .int .u64 r.ts, .bool r.fl, .slice r.ss.a r.ss.n r.ss.c, .slice r.ce.a r.ce.n r.ce.c, .slice r.tb.a r.tb.n r.tb.c] = W at *
             refine bodyPost_ret (v := .agg #[.int .i64 r.er, .int .u64 r.tx, .int .u64 r.ts, .bool r.fl, .slice r.ss.a r.ss.n r.ss.c, .slice r.ce.a r.ce.n r.ce.c, .slice r.tb.a r.tb.n r.tb.c]) (by simp [results, Tryz.results30, go_sem, r0, r1, r2, r3, r4, r5, r6]) rfl ?_
             rw [HE.out]
             exact xs_done (a' := a2) (b := w.heap.size + 1) HI.out HBw.out HK5.out HI5.out (fun k hk => (HX5.out k hk).imp id (fun h => Nat.le_trans HBw.out.size h)) HPe.out (by omega) hkk r HR.out HF5.out))))))

theorem table6_of (HT : TableX) : Table6 := fun F w0 w a z S h c hc hf hz hk => xone6_any HT h c hc hf hz hk

end Go.Proofs.YtcgiicmmfleinaaGreatDoor

namespace Go.Proofs.YtcgiicmmfleinaaGreatDoor
open Go.RowKit NumMath Go.ChangeShapes Go.WideShapes Go.Deep

theorem table6_holds : Table6 := table6_of (fun _ _ _ _ _ _ h t ht hz hm => xtable_any h t ht hz hm)

theorem mdoesW_any (a : Option Addr) (n c : Nat) (ms : List MCmd) (w : World) (h : IsY layCm w a n c ms) (hh : ∀ m ∈ ms, m.handed w) (hn : n * 320 ≤ 140737488355328) (hF : FitW w) :
    Calls Tryz.prog 3 #[.slice a n c] w fun e w' => e = .returned (.bool true) ∧ Below w.heap.size w w' := mdoes_any table6_holds a n c ms w h hh hn hF

end Go.Proofs.YtcgiicmmfleinaaGreatDoor
