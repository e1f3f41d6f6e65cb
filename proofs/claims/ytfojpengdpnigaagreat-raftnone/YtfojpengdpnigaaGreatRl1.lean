/- A log in memory (the program's and the reference's have the same cells): what it is; New, Snap, First, Last, Term, has, at, fit, Dirty, Clean. -/
import Derived.Test.YtfojpengdpnigaaGreatEnts2
namespace Go.Proofs.YtfojpengdpnigaaGreat
open Go.RowKit NumMath
set_option linter.unusedVariables false
set_option maxRecDepth 100000

/-- a snapshot -/
structure Snp where
  i : Int
  t : Int
  m : List Int
  d : List Int

/-- a log: its snapshot, its entries, from where on they are new, whether the snapshot is -/
structure LogS where
  s : Snp
  es : List Ent
  dirty : Int
  fresh : Bool

/-- what a log is: the entries one behind the other, from behind the snapshot on; nothing too great -/
structure LogS.Good (L : LogS) : Prop where
  i0 : 0 ≤ L.s.i
  i1 : L.s.i ≤ 9000000000000000000
  t0 : 0 ≤ L.s.t
  t1 : L.s.t ≤ 18446744073709551615
  m0 : ∀ c ∈ L.s.m, 0 ≤ c ∧ c ≤ 18446744073709551615
  m1 : L.s.m.length ≤ 1000
  d1 : L.s.d.length ≤ 100000
  n : L.es.length ≤ 100000
  at_ : ∀ j, j < L.es.length → (L.es.getD j ent0).i = L.s.i + 1 + j
  ok : ∀ e ∈ L.es, e.ok ∧ e.d.length ≤ 100000
  y0 : 0 ≤ L.dirty
  y1 : L.dirty ≤ 18446744073709551615

/-- numbers that lie in none of the blocks X -/
def NumX (X : Nat → Prop) (w : World) (a : Option Addr) (n c : Nat) (xs : List Int) : Prop := IsNums w a n c xs ∧ (n = 0 ∨ ∀ y, a = some y → ¬ X y.block)

theorem NumX.lies {X M : Nat → Prop} {w w' : World} {b : Option Addr} {n c : Nat} {d : List Int} (h : NumX X w b n c d) (hk : Keeps M w w') (hM : ∀ k, M k → X k) : NumX X w' b n c d :=
  ⟨h.1.lies hk (h.2.imp id (fun q y hy hm => q y hy (hM _ hm))), h.2⟩

theorem NumX.keep {X : Nat → Prop} {w w' : World} {b : Option Addr} {n c : Nat} {d : List Int} (h : NumX X w b n c d) (hb : Below w.heap.size w w') : NumX X w' b n c d := ⟨h.1.keep hb, h.2⟩

theorem NumX.more {X Y : Nat → Prop} {w : World} {b : Option Addr} {n c : Nat} {d : List Int} (h : NumX X w b n c d) (hY : ∀ k, Y k → X k ∨ w.heap.size ≤ k) : NumX Y w b n c d := by
  refine ⟨h.1, ?_⟩
  by_cases h0 : n = 0
  · exact .inl h0
  · right
    intro y hy hk
    rcases h.2 with h2 | h2
    · exact h0 h2
    · rcases hY _ hk with hx | hx
      · exact h2 y hy hx
      · rcases h.1.2.2.2.2 with h5 | ⟨g, off, ha, hg, _⟩
        · exact h0 h5
        · rw [hy] at ha
          cases ha
          dsimp only at hx
          omega

/-- the log at p; X: blocks that its data keep off (its own two are among them) -/
def IsL (X : Nat → Prop) (w : World) (base p : Nat) (L : LogS) : Prop :=
  ∃ ma mn mc da dn dc ea en ec ms, w.cell? ⟨p, 0, none⟩ = some (.int .u64 L.s.i) ∧ w.cell? ⟨p, 1, none⟩ = some (.int .u64 L.s.t) ∧ w.cell? ⟨p, 2, none⟩ = some (.slice ma mn mc) ∧ w.cell? ⟨p, 3, none⟩ = some (.slice da dn dc) ∧ w.cell? ⟨p, 4, none⟩ = some (.slice ea en ec) ∧ w.cell? ⟨p, 5, none⟩ = some (.int .u64 L.dirty) ∧ w.cell? ⟨p, 6, none⟩ = some (.bool L.fresh) ∧
    (∀ i, w.frozen? ⟨p, i, none⟩ = false) ∧ NumX X w ma mn mc L.s.m ∧ DatB X w da dn dc L.s.d ∧ RowM w base (.slice ea en ec) ms ∧ ms.map MEnt.e = L.es ∧ (∀ m ∈ ms, m.ok X w) ∧ base ≤ p ∧ some p ≠ (Value.slice ea en ec).ownBlock ∧ X p ∧ (∀ k, (Value.slice ea en ec).ownBlock = some k → X k)

theorem IsL.lt {X : Nat → Prop} {w : World} {base p : Nat} {L : LogS} (h : IsL X w base p L) {k : Nat} (hk : SB 4 w p k) : k < w.heap.size ∧ base ≤ k ∧ X k := by
  obtain ⟨ma, mn, mc, da, dn, dc, ea, en, ec, ms, c0, c1, c2, c3, c4, c5, c6, hf, hm, hd, hr, he, ho, hp, hn, hx, hx4⟩ := h
  rcases hk with rfl | ⟨v, hv, hb⟩
  · exact ⟨World.block_lt_of_cell? _ ⟨k, 0, none⟩ c0, hp, hx⟩
  · rw [c4] at hv
    cases hv
    have := hr.lt k hb
    exact ⟨this.2, this.1, hx4 k hb⟩

theorem IsL.at {X : Nat → Prop} {w : World} {base p : Nat} {L : LogS} (h : IsL X w base p L) : p < w.heap.size := (h.lt (k := p) SB.at).1

/-- a log whose own blocks, and all that is not of X, are as they were -/
theorem IsL.lies {X M : Nat → Prop} {w w' : World} {base p : Nat} {L : LogS} (h : IsL X w base p L) (hk : Keeps M w w') (hM : ∀ k, M k → X k) (hb : ∀ k, SB 4 w p k → ¬ M k) : IsL X w' base p L := by
  have hlt := fun k (hk : SB 4 w p k) => (h.lt hk).1
  obtain ⟨ma, mn, mc, da, dn, dc, ea, en, ec, ms, c0, c1, c2, c3, c4, c5, c6, hf, hm, hd, hr, he, ho, hp, hn, hx, hx4⟩ := h
  have e := hk.block p (hlt p SB.at) (hb p SB.at)
  have ce : ∀ i, w'.cell? ⟨p, i, none⟩ = w.cell? ⟨p, i, none⟩ := fun i => World.cell?_of_block (a := ⟨p, i, none⟩) e
  refine ⟨ma, mn, mc, da, dn, dc, ea, en, ec, ms, (ce 0).trans c0, (ce 1).trans c1, (ce 2).trans c2, (ce 3).trans c3, (ce 4).trans c4, (ce 5).trans c5, (ce 6).trans c6, fun i => (World.frozen?_of_block (a := ⟨p, i, none⟩) e).trans (hf i), hm.lies hk hM, hd.lies hk hM, hr.lies ?_, he, fun m hm => (ho m hm).lies hk hM, hp, hn, hx, hx4⟩
  intro g hg
  have h1 : SB 4 w p g := .inr ⟨_, c4, hg⟩
  exact hk.block g (hlt g h1) (hb g h1)

theorem IsL.keep {X : Nat → Prop} {w w' : World} {base p : Nat} {L : LogS} (h : IsL X w base p L) (hb : Below w.heap.size w w') : IsL X w' base p L :=
  h.lies (Below.keeps hb (fun _ => False)) (fun _ x => x.elim) (fun _ _ x => x)

theorem IsL.drew {X : Nat → Prop} {w : World} {base p : Nat} {L : LogS} (h : IsL X w base p L) : IsL X w.drew base p L := h.keep (Below.refl _ _).drew

/-- a log beside a struct that was changed -/
theorem IsL.off {X : Nat → Prop} {w w' : World} {base p j q : Nat} {L : LogS} (h : IsL X w base p L) (ho : Off2 j 4 w q p) (hq : ∀ k, SB j w q k → X k) (hp : SPost j w q w') : IsL X w' base p L :=
  h.lies hp.1 hq (fun k hk hx => ho k hx hk)

theorem IsL.more {X Y : Nat → Prop} {w : World} {base p : Nat} {L : LogS} (h : IsL X w base p L) (hY : ∀ k, Y k → X k ∨ w.heap.size ≤ k) (hS : ∀ k, SB 4 w p k → Y k) : IsL Y w base p L := by
  obtain ⟨ma, mn, mc, da, dn, dc, ea, en, ec, ms, c0, c1, c2, c3, c4, c5, c6, hf, hm, hd, hr, he, ho, hp, hn, hx, hx4⟩ := h
  exact ⟨ma, mn, mc, da, dn, dc, ea, en, ec, ms, c0, c1, c2, c3, c4, c5, c6, hf, hm.more hY, hd.more hY, hr, he, fun m hm => (ho m hm).more hY, hp, hn, hS p SB.at, fun k hk => hS k (.inr ⟨_, c4, hk⟩)⟩

theorem IsL.below {X : Nat → Prop} {w w' : World} {base p : Nat} {L : LogS} (h : IsL X w base p L) (hp : SPost 4 w p w') (hB : base ≤ w.heap.size) : Below base w w' := hp.below hB (fun k hk => (h.lt hk).2.1)

theorem IsL.mono {X : Nat → Prop} {w : World} {base base' p : Nat} {L : LogS} (h : IsL X w base p L) (hB : base' ≤ base) : IsL X w base' p L := by
  obtain ⟨ma, mn, mc, da, dn, dc, ea, en, ec, ms, c0, c1, c2, c3, c4, c5, c6, hf, hm, hd, hr, he, ho, hp, hn, hx, hx4⟩ := h
  exact ⟨ma, mn, mc, da, dn, dc, ea, en, ec, ms, c0, c1, c2, c3, c4, c5, c6, hf, hm, hd, hr.mono hB, he, ho, Nat.le_trans hB hp, hn, hx, hx4⟩

theorem Keeps.thenSet {M : Nat → Prop} {w w1 : World} (h : Keeps M w w1) {g i : Nat} (hg : M g) (v : Value) : Keeps M w (w1.setCell ⟨g, i, none⟩ v) :=
  ⟨h.os, h.tape, h.output, Nat.le_trans h.size (by simp [World.setCell]), fun k hk hn => (Below.heap_setCell _ _ _ _ (fun e => hn (by rw [e]; exact hg))).trans (h.block k hk hn)⟩

theorem Keeps.also {g i : Nat} {w w1 : World} (h : Keeps (fun k => k = g) w w1) (v : Value) : Keeps (fun k => k = g) w (w1.setCell ⟨g, i, none⟩ v) := h.thenSet rfl v

theorem Keeps.thenBelow {M : Nat → Prop} {w w1 w2 : World} (h : Keeps M w w1) (hb : Below w1.heap.size w1 w2) : Keeps M w w2 :=
  ⟨hb.os.trans h.os, hb.tape.trans h.tape, hb.output.trans h.output, Nat.le_trans h.size hb.size, fun k hk hn => (hb.block k (Nat.lt_of_lt_of_le hk h.size)).trans (h.block k hk hn)⟩

theorem Keeps.self (M : Nat → Prop) (w : World) : Keeps M w w := ⟨rfl, rfl, rfl, Nat.le_refl _, fun _ _ _ => rfl⟩

/-- four cells of a block -/
def Box4 (w : World) (b : Nat) (v0 v1 v2 v3 : Value) : Prop := w.cell? ⟨b, 0, none⟩ = some v0 ∧ w.cell? ⟨b, 1, none⟩ = some v1 ∧ w.cell? ⟨b, 2, none⟩ = some v2 ∧ w.cell? ⟨b, 3, none⟩ = some v3 ∧ ∀ i, w.frozen? ⟨b, i, none⟩ = false

theorem Box4.keep {w w' : World} {b B : Nat} {v0 v1 v2 v3 : Value} (h : Box4 w b v0 v1 v2 v3) (hb : Below B w w') (hB : b < B) : Box4 w' b v0 v1 v2 v3 := by
  obtain ⟨h0, h1, h2, h3, hf⟩ := h
  exact ⟨(hb.cell (p := ⟨b, 0, none⟩) hB).trans h0, (hb.cell (p := ⟨b, 1, none⟩) hB).trans h1, (hb.cell (p := ⟨b, 2, none⟩) hB).trans h2, (hb.cell (p := ⟨b, 3, none⟩) hB).trans h3, fun i => (hb.frozen (p := ⟨b, i, none⟩) hB).trans (hf i)⟩

theorem box4_new (w : World) (v0 v1 v2 v3 : Value) (ty : TypeId) (g : Nat) (hg : w.heap.size = g) : Box4 (w.alloc (.cells #[v0, v1, v2, v3] ty)) g v0 v1 v2 v3 := by
  subst hg
  exact ⟨by simp, by simp, by simp, by simp, by simp⟩

theorem Box4.set0 {w : World} {b : Nat} {v0 v1 v2 v3 : Value} (h : Box4 w b v0 v1 v2 v3) (u : Value) : Box4 (w.setCell ⟨b, 0, none⟩ u) b u v1 v2 v3 := by
  obtain ⟨h0, h1, h2, h3, hf⟩ := h
  exact ⟨World.cell?_setCell_same _ _ _ h0, (cell_set_off _ _ _ _ _ (by decide)).trans h1, (cell_set_off _ _ _ _ _ (by decide)).trans h2, (cell_set_off _ _ _ _ _ (by decide)).trans h3, fun i => by simp [hf]⟩

theorem Box4.set1 {w : World} {b : Nat} {v0 v1 v2 v3 : Value} (h : Box4 w b v0 v1 v2 v3) (u : Value) : Box4 (w.setCell ⟨b, 1, none⟩ u) b v0 u v2 v3 := by
  obtain ⟨h0, h1, h2, h3, hf⟩ := h
  exact ⟨(cell_set_off _ _ _ _ _ (by decide)).trans h0, World.cell?_setCell_same _ _ _ h1, (cell_set_off _ _ _ _ _ (by decide)).trans h2, (cell_set_off _ _ _ _ _ (by decide)).trans h3, fun i => by simp [hf]⟩

theorem Box4.set2 {w : World} {b : Nat} {v0 v1 v2 v3 : Value} (h : Box4 w b v0 v1 v2 v3) (u : Value) : Box4 (w.setCell ⟨b, 2, none⟩ u) b v0 v1 u v3 := by
  obtain ⟨h0, h1, h2, h3, hf⟩ := h
  exact ⟨(cell_set_off _ _ _ _ _ (by decide)).trans h0, (cell_set_off _ _ _ _ _ (by decide)).trans h1, World.cell?_setCell_same _ _ _ h2, (cell_set_off _ _ _ _ _ (by decide)).trans h3, fun i => by simp [hf]⟩

theorem Box4.set3 {w : World} {b : Nat} {v0 v1 v2 v3 : Value} (h : Box4 w b v0 v1 v2 v3) (u : Value) : Box4 (w.setCell ⟨b, 3, none⟩ u) b v0 v1 v2 u := by
  obtain ⟨h0, h1, h2, h3, hf⟩ := h
  exact ⟨(cell_set_off _ _ _ _ _ (by decide)).trans h0, (cell_set_off _ _ _ _ _ (by decide)).trans h1, (cell_set_off _ _ _ _ _ (by decide)).trans h2, World.cell?_setCell_same _ _ _ h3, fun i => by simp [hf]⟩

theorem Box4.other {w : World} {b c i : Nat} {v0 v1 v2 v3 : Value} (h : Box4 w b v0 v1 v2 v3) (hn : b ≠ c) (u : Value) : Box4 (w.setCell ⟨c, i, none⟩ u) b v0 v1 v2 v3 := by
  have e := Below.heap_setCell w ⟨c, i, none⟩ u b hn
  obtain ⟨h0, h1, h2, h3, hf⟩ := h
  exact ⟨(World.cell?_of_block (a := ⟨b, 0, none⟩) e).trans h0, (World.cell?_of_block (a := ⟨b, 1, none⟩) e).trans h1, (World.cell?_of_block (a := ⟨b, 2, none⟩) e).trans h2, (World.cell?_of_block (a := ⟨b, 3, none⟩) e).trans h3, fun i => (World.frozen?_of_block (a := ⟨b, i, none⟩) e).trans (hf i)⟩

set_option maxHeartbeats 1000000 in
theorem copyS_any (i t : Int) (ma : Option Addr) (mn mc : Nat) (m : List Int) (da : Option Addr) (dn dc : Nat) (d : List Int) (w : World) (hm : IsNums w ma mn mc m) (hd : IsBytes w da dn dc d) (h1 : mn ≤ 100000) (h2 : dn ≤ 1000000) :
    Calls Tryz.prog 35 #[.agg #[.int .u64 i, .int .u64 t, .slice ma mn mc, .slice da dn dc]] w fun e w' => ∃ a1 n1 c1 a2 n2 c2, e = .returned (.agg #[.int .u64 i, .int .u64 t, .slice a1 n1 c1, .slice a2 n2 c2]) ∧ IsNums w' a1 n1 c1 m ∧ (∀ y, a1 = some y → w.heap.size ≤ y.block) ∧ IsBytes w' a2 n2 c2 d ∧ (∀ y, a2 = some y → w.heap.size ≤ y.block) ∧ Below w.heap.size w w' := by
  have HM := hide hm
  have HD := hide hd
  have hw0 : Below w.heap.size w ((w.alloc (.cells #[.int .u64 i, .int .u64 t, .slice ma mn mc, .slice da dn dc] 28)).alloc (.cells #[.int .u64 0, .int .u64 0, .slice none 0 0, .slice none 0 0] 28)) := ((Below.refl _ _).alloc (Nat.le_refl _) _).alloc (by simp) _
  have HW0 := hide hw0
  have HP := hide ((box4_new w (.int .u64 i) (.int .u64 t) (.slice ma mn mc) (.slice da dn dc) 28 _ rfl).keep (new_below _ (.cells #[.int .u64 0, .int .u64 0, .slice none 0 0, .slice none 0 0] 28)) (by simp))
  have HQ := hide (box4_new (w.alloc (.cells #[.int .u64 i, .int .u64 t, .slice ma mn mc, .slice da dn dc] 28)) (.int .u64 0) (.int .u64 0) (.slice none 0 0) (.slice none 0 0) 28 (w.heap.size + 1) (by simp))
  clear hm hd hw0
  go_enter Tryz.func35, Tryz.ntmps35
  go_wp2_with (first
    | (go_at_call 80; go_must (refine (clone_src da dn dc d _ HD3.out.src (by omega)).mono ?_); rintro e w4 ⟨v4, rfl, hown4, hb4⟩; obtain ⟨a4, n4, c4, rfl, hI4, hy4⟩ := slice_of_own hown4 HD.out.2.2.2.1; have HI4 := hide hI4; have HY4 := hide hy4; have HB4 := hide hb4; have HP4 := hide (HP3.out.keep hb4 (by have := HSz.out; simp [World.setCell]; omega)); have HQ4 := hide (HQ3.out.keep hb4 (by have := HSz.out; simp [World.setCell]; omega)); obtain ⟨q0, q1, q2, q3, qf⟩ := HP4.out; have qf3 := qf 3; have HQ5 := hide (HQ4.out.other (c := w.heap.size) (i := 3) (by omega) (.slice a4 n4 c4)); have HP5 := hide (HP4.out.set3 (.slice a4 n4 c4)); obtain ⟨r0, r1, r2, r3, rf⟩ := HQ5.out; have f0 := rf 0; have f1 := rf 1; have f2 := rf 2; have f3 := rf 3; obtain ⟨s0, s1, s2, s3, -⟩ := HP5.out; clear rf qf hown4 hI4 hy4 hb4)
    | (go_at_call 79; go_must (refine (cloneU_any ma mn mc m _ (HM.out.src.keep HW0.out) (by omega)).mono ?_); rintro e w2 ⟨v2, rfl, hown2, hb2⟩; obtain ⟨a2, n2, c2, rfl, hI2, hy2⟩ := hown2.is HM.out.2.2.2.1; have HI2 := hide hI2; have HY2 := hide hy2; have HB2 := hide hb2; have HSz : Hid (w.heap.size + 2 ≤ w2.heap.size) := (by have := hb2.size; simp at this; show _ ≤ _; omega); have HP2 := hide (HP.out.keep hb2 (by simp only [World.size_alloc]; omega)); have HQ2 := hide (HQ.out.keep hb2 (by simp only [World.size_alloc]; omega)); have HP3 := hide (HP2.out.set2 (.slice a2 n2 c2)); have HQ3 := hide (HQ2.out.other (c := w.heap.size) (i := 2) (by omega) (.slice a2 n2 c2)); have HD3 := hide (isB_liesX ((HD.out.keep HW0.out).keep hb2) (keeps_cell (g := w.heap.size) (i := 2) (.slice a2 n2 c2)) (by rcases HD.out.2.2.2.2 with h0 | ⟨g, off, e, hg, _⟩; (exact .inl h0); exact .inr (fun y hy ey => by rw [e] at hy; cases hy; dsimp only at ey; omega))); obtain ⟨p0, p1, p2, p3, pf⟩ := HP2.out; have pf2 := pf 2; clear pf hown2 hI2 hy2 hb2))
  have B0 := HQ5.out.set0 (.int .u64 i)
  have B1 := B0.set1 (.int .u64 t)
  have B2 := B1.set2 (.slice a2 n2 c2)
  have B3 := B2.set3 (.slice a4 n4 c4)
  have t0 := B0.1
  have t1 := B1.2.1
  have t2 := B2.2.2.1
  have t3 := B3.2.2.2.1
  have hsz2 := HSz.out
  have kf : ∀ W, Keeps (fun k => w.heap.size ≤ k ∧ k < w.heap.size + 2) W (w4.setCell ⟨w.heap.size, 3, none⟩ (.slice a4 n4 c4)) → Keeps (fun k => w.heap.size ≤ k ∧ k < w.heap.size + 2) W (((((w4.setCell ⟨w.heap.size, 3, none⟩ (.slice a4 n4 c4)).setCell ⟨w.heap.size + 1, 0, none⟩ (.int .u64 i)).setCell ⟨w.heap.size + 1, 1, none⟩ (.int .u64 t)).setCell ⟨w.heap.size + 1, 2, none⟩ (.slice a2 n2 c2)).setCell ⟨w.heap.size + 1, 3, none⟩ (.slice a4 n4 c4)) := fun W h => (((h.thenSet ⟨by omega, by omega⟩ _).thenSet ⟨by omega, by omega⟩ _).thenSet ⟨by omega, by omega⟩ _).thenSet ⟨by omega, by omega⟩ _
  have k2 : ∀ W, Keeps (fun k => w.heap.size ≤ k ∧ k < w.heap.size + 2) W w2 → Keeps (fun k => w.heap.size ≤ k ∧ k < w.heap.size + 2) W (w4.setCell ⟨w.heap.size, 3, none⟩ (.slice a4 n4 c4)) := fun W h => ((h.thenSet ⟨by omega, by omega⟩ _).thenBelow HB4.out).thenSet ⟨by omega, by omega⟩ _
  have hy2 := HY2.out
  have hy4 := HY4.out
  simp only [World.size_alloc] at hy2
  refine bodyPost_ret (v := .agg #[.int .u64 i, .int .u64 t, .slice a2 n2 c2, .slice a4 n4 c4]) (by simp [results, Tryz.results35, go_sem, t0, t1, t2, t3]) rfl ⟨a2, n2, c2, a4, n4, c4, rfl, ?_, ?_, ?_, ?_, ?_⟩
  · exact HI2.out.lies (kf _ (k2 _ (Keeps.self _ _))) (.inr (fun y hy hk => by have := (hy2 y hy).1; omega))
  · intro y hy
    have := (hy2 y hy).1
    omega
  · refine isB_liesX HI4.out (kf _ ((Keeps.self _ _).thenSet ⟨by omega, by omega⟩ _)) (.inr (fun y hy hk => ?_))
    have := hy4 y hy
    simp [World.setCell] at this
    omega
  · intro y hy
    have := hy4 y hy
    simp [World.setCell] at this
    omega
  · exact (kf _ (k2 _ ((Below.keeps HW0.out _).thenBelow HB2.out))).below (Nat.le_refl _) (fun k hk => hk.1)

/-- a log that was just made -/
theorem isL_new (X : Nat → Prop) (w : World) (base g : Nat) (i t : Int) (a1 : Option Addr) (n1 c1 : Nat) (m : List Int) (a2 : Option Addr) (n2 c2 : Nat) (d : List Int) (ty : TypeId) (hg : w.heap.size = g) (hb : base ≤ g) (hm : NumX X w a1 n1 c1 m) (hd : DatB X w a2 n2 c2 d) :
    IsL (fun k => X k ∨ k = g) (w.alloc (.cells #[.int .u64 i, .int .u64 t, .slice a1 n1 c1, .slice a2 n2 c2, .slice none 0 0, .int .u64 0, .bool false] ty)) base g ⟨⟨i, t, m, d⟩, [], 0, false⟩ := by
  subst hg
  have hY : ∀ k, (X k ∨ k = w.heap.size) → X k ∨ w.heap.size ≤ k := fun k hk => hk.imp id (fun e => by omega)
  exact ⟨a1, n1, c1, a2, n2, c2, none, 0, 0, [], by simp, by simp, by simp, by simp, by simp, by simp, by simp, by simp, (hm.more hY).keep (new_below _ _), (hd.more hY).keep (new_below _ _), rowM_nil _ _, rfl, by simp, hb, (by intro h; cases h), .inr rfl, by intro k hk; cases hk⟩

theorem NumX.fresh {X : Nat → Prop} {w : World} {a : Option Addr} {n c : Nat} {xs : List Int} {B : Nat} (h : IsNums w a n c xs) (hy : ∀ y, a = some y → B ≤ y.block) (hX : ∀ k, X k → k < B) : NumX X w a n c xs :=
  ⟨h, .inr (fun y e hx => by have := hy y e; have := hX _ hx; omega)⟩

theorem DatB.fresh {X : Nat → Prop} {w : World} {a : Option Addr} {n c : Nat} {xs : List Int} {B : Nat} (h : IsBytes w a n c xs) (hy : ∀ y, a = some y → B ≤ y.block) (hX : ∀ k, X k → k < B) : DatB X w a n c xs :=
  ⟨h, .inr (fun y e hx => by have := hy y e; have := hX _ hx; omega)⟩

def capI (i : Int) : Int := if 4611686018427387904 < i then 4611686018427387904 else i

set_option maxHeartbeats 1000000 in
theorem new_any (X : Nat → Prop) (i t : Int) (ma : Option Addr) (mn mc : Nat) (m : List Int) (da : Option Addr) (dn dc : Nat) (d : List Int) (w : World) (hX : ∀ k, X k → k < w.heap.size) (hm : IsNums w ma mn mc m) (hd : IsBytes w da dn dc d) (h1 : mn ≤ 100000) (h2 : dn ≤ 1000000) :
    Calls Tryz.prog 11 #[.agg #[.int .u64 i, .int .u64 t, .slice ma mn mc, .slice da dn dc]] w fun e w' => ∃ p, e = .returned (.pointer (some ⟨p, 0, none⟩)) ∧ w.heap.size ≤ p ∧ IsL (fun k => X k ∨ k = p) w' w.heap.size p ⟨⟨capI i, t, m, d⟩, [], 0, false⟩ ∧ Below w.heap.size w w' := by
  have HM := hide hm
  have HD := hide hd
  have HX := hide hX
  have HP := hide (box4_new w (.int .u64 i) (.int .u64 t) (.slice ma mn mc) (.slice da dn dc) 28 _ rfl)
  clear hm hd hX
  by_cases hi : 4611686018427387904 < i
  · have hc : capI i = 4611686018427387904 := by unfold capI; rw [if_pos hi]
    go_enter Tryz.func11, Tryz.ntmps11
    go_wp2_with (first
      | (go_at_call 35; go_must (refine (copyS_any i t ma mn mc m da dn dc d _ (HM.out.keep (new_below _ _)) (HD.out.keep (new_below _ _)) h1 h2).mono ?_); rintro e w2 ⟨a1, n1, c1, a2, n2, c2, rfl, hI1, hy1, hI2, hy2, hb2⟩; have HI1 := hide hI1; have HY1 := hide hy1; have HI2 := hide hI2; have HY2 := hide hy2; have HB2 := hide hb2; have HP2 := hide (HP.out.keep hb2 (by simp)); obtain ⟨p0, p1, p2, p3, pf⟩ := HP2.out; have pf0 := pf 0; have pf1 := pf 1; have pf2 := pf 2; have pf3 := pf 3; clear pf hI1 hy1 hI2 hy2 hb2))
    go_ret
    rw [hc]
    have hs2 : w.heap.size < w2.heap.size := by have := HB2.out.size; simp at this; omega
    have hsz : (((((w2.setCell ⟨w.heap.size, 0, none⟩ (.int .u64 i)).setCell ⟨w.heap.size, 1, none⟩ (.int .u64 t)).setCell ⟨w.heap.size, 2, none⟩ (.slice a1 n1 c1)).setCell ⟨w.heap.size, 3, none⟩ (.slice a2 n2 c2)).setCell ⟨w.heap.size, 0, none⟩ (.int .u64 4611686018427387904)).heap.size = w2.heap.size := by simp [World.setCell]
    have hk : Keeps (fun k => k = w.heap.size) w2 (((((w2.setCell ⟨w.heap.size, 0, none⟩ (.int .u64 i)).setCell ⟨w.heap.size, 1, none⟩ (.int .u64 t)).setCell ⟨w.heap.size, 2, none⟩ (.slice a1 n1 c1)).setCell ⟨w.heap.size, 3, none⟩ (.slice a2 n2 c2)).setCell ⟨w.heap.size, 0, none⟩ (.int .u64 4611686018427387904)) := (((((Keeps.self _ w2).also _).also _).also _).also _).also _
    have hk0 : Keeps (fun k => k = w.heap.size) w (((((w2.setCell ⟨w.heap.size, 0, none⟩ (.int .u64 i)).setCell ⟨w.heap.size, 1, none⟩ (.int .u64 t)).setCell ⟨w.heap.size, 2, none⟩ (.slice a1 n1 c1)).setCell ⟨w.heap.size, 3, none⟩ (.slice a2 n2 c2)).setCell ⟨w.heap.size, 0, none⟩ (.int .u64 4611686018427387904)) := ((((((Below.keeps (new_below _ _) _).thenBelow HB2.out).also _).also _).also _).also _).also _
    have hy1 := HY1.out
    have hy2 := HY2.out
    simp only [World.size_alloc] at hy1 hy2
    generalize (((((w2.setCell ⟨w.heap.size, 0, none⟩ (.int .u64 i)).setCell ⟨w.heap.size, 1, none⟩ (.int .u64 t)).setCell ⟨w.heap.size, 2, none⟩ (.slice a1 n1 c1)).setCell ⟨w.heap.size, 3, none⟩ (.slice a2 n2 c2)).setCell ⟨w.heap.size, 0, none⟩ (.int .u64 4611686018427387904)) = W at *
    have hw0 : Below w.heap.size w W := hk0.below (Nat.le_refl _) (fun k hk => by omega)
    exact ⟨w2.heap.size, rfl, Nat.le_of_lt hs2, isL_new X W w.heap.size w2.heap.size 4611686018427387904 t a1 n1 c1 m a2 n2 c2 d _ hsz (by omega) (NumX.fresh (B := w.heap.size + 1) (HI1.out.lies hk (.inr (fun y hy e => by have := hy1 y hy; omega))) hy1 (fun k hk => by have := HX.out k hk; omega)) (DatB.fresh (B := w.heap.size + 1) (isB_liesX HI2.out hk (.inr (fun y hy e => by have := hy2 y hy; omega))) hy2 (fun k hk => by have := HX.out k hk; omega)), hw0.alloc hw0.size _⟩
  · have hc : capI i = i := by unfold capI; rw [if_neg hi]
    go_enter Tryz.func11, Tryz.ntmps11
    go_wp2_with (first
      | (go_at_call 35; go_must (refine (copyS_any i t ma mn mc m da dn dc d _ (HM.out.keep (new_below _ _)) (HD.out.keep (new_below _ _)) h1 h2).mono ?_); rintro e w2 ⟨a1, n1, c1, a2, n2, c2, rfl, hI1, hy1, hI2, hy2, hb2⟩; have HI1 := hide hI1; have HY1 := hide hy1; have HI2 := hide hI2; have HY2 := hide hy2; have HB2 := hide hb2; have HP2 := hide (HP.out.keep hb2 (by simp)); obtain ⟨p0, p1, p2, p3, pf⟩ := HP2.out; have pf0 := pf 0; have pf1 := pf 1; have pf2 := pf 2; have pf3 := pf 3; clear pf hI1 hy1 hI2 hy2 hb2))
    go_ret
    rw [hc]
    have hs2 : w.heap.size < w2.heap.size := by have := HB2.out.size; simp at this; omega
    have hsz : (((((w2.setCell ⟨w.heap.size, 0, none⟩ (.int .u64 i)).setCell ⟨w.heap.size, 1, none⟩ (.int .u64 t)).setCell ⟨w.heap.size, 2, none⟩ (.slice a1 n1 c1)).setCell ⟨w.heap.size, 3, none⟩ (.slice a2 n2 c2)).setCell ⟨w.heap.size, 0, none⟩ (.int .u64 i)).heap.size = w2.heap.size := by simp [World.setCell]
    have hk : Keeps (fun k => k = w.heap.size) w2 (((((w2.setCell ⟨w.heap.size, 0, none⟩ (.int .u64 i)).setCell ⟨w.heap.size, 1, none⟩ (.int .u64 t)).setCell ⟨w.heap.size, 2, none⟩ (.slice a1 n1 c1)).setCell ⟨w.heap.size, 3, none⟩ (.slice a2 n2 c2)).setCell ⟨w.heap.size, 0, none⟩ (.int .u64 i)) := (((((Keeps.self _ w2).also _).also _).also _).also _).also _
    have hk0 : Keeps (fun k => k = w.heap.size) w (((((w2.setCell ⟨w.heap.size, 0, none⟩ (.int .u64 i)).setCell ⟨w.heap.size, 1, none⟩ (.int .u64 t)).setCell ⟨w.heap.size, 2, none⟩ (.slice a1 n1 c1)).setCell ⟨w.heap.size, 3, none⟩ (.slice a2 n2 c2)).setCell ⟨w.heap.size, 0, none⟩ (.int .u64 i)) := ((((((Below.keeps (new_below _ _) _).thenBelow HB2.out).also _).also _).also _).also _).also _
    have hy1 := HY1.out
    have hy2 := HY2.out
    simp only [World.size_alloc] at hy1 hy2
    generalize (((((w2.setCell ⟨w.heap.size, 0, none⟩ (.int .u64 i)).setCell ⟨w.heap.size, 1, none⟩ (.int .u64 t)).setCell ⟨w.heap.size, 2, none⟩ (.slice a1 n1 c1)).setCell ⟨w.heap.size, 3, none⟩ (.slice a2 n2 c2)).setCell ⟨w.heap.size, 0, none⟩ (.int .u64 i)) = W at *
    have hw0 : Below w.heap.size w W := hk0.below (Nat.le_refl _) (fun k hk => by omega)
    exact ⟨w2.heap.size, rfl, Nat.le_of_lt hs2, isL_new X W w.heap.size w2.heap.size i t a1 n1 c1 m a2 n2 c2 d _ hsz (by omega) (NumX.fresh (B := w.heap.size + 1) (HI1.out.lies hk (.inr (fun y hy e => by have := hy1 y hy; omega))) hy1 (fun k hk => by have := HX.out k hk; omega)) (DatB.fresh (B := w.heap.size + 1) (isB_liesX HI2.out hk (.inr (fun y hy e => by have := hy2 y hy; omega))) hy2 (fun k hk => by have := HX.out k hk; omega)), hw0.alloc hw0.size _⟩

end Go.Proofs.YtfojpengdpnigaaGreat
