/- A log in memory (the program's and the reference's have the same cells): what it is; New, Snap, First, Last, Term, has, at, fit, Dirty, Clean. The log's First, Last, has, at, Term, Snap, Dirty, Clean, fit. The log's Append. The log's Entries and Snap; Small, SmallSnap. Small, SmallSnap, Snap; chapter 8's example (awake). -/
import Derived.Test.YtodmieehdleohaaGreatEnA
import Derived.Deep.RegionLaw
namespace Go.Proofs.YtodmieehdleohaaGreat
open Go.RowKit NumMath
set_option linter.unusedVariables false
set_option maxRecDepth 100000

/-- a snapshot -/
structure Snp where
  i : Int
  t : Int
  m : List Int
  d : List Int

/-- a log: its snapshot, its entries, from where on they are new, whether the snapshot is -/
structure LogS where
  s : Snp
  es : List Ent
  dirty : Int
  fresh : Bool

/-- what a log is: the entries one behind the other, from behind the snapshot on; nothing too great -/
structure LogS.Good (L : LogS) : Prop where
  i0 : 0 ≤ L.s.i
  i1 : L.s.i ≤ 9000000000000000000
  t0 : 0 ≤ L.s.t
  t1 : L.s.t ≤ 18446744073709551615
  m0 : ∀ c ∈ L.s.m, 0 ≤ c ∧ c ≤ 18446744073709551615
  m1 : L.s.m.length ≤ 1000
  d1 : L.s.d.length ≤ 100000
  n : L.es.length ≤ 100000
  at_ : ∀ j, j < L.es.length → (L.es.getD j ent0).i = L.s.i + 1 + j
  ok : ∀ e ∈ L.es, e.ok ∧ e.d.length ≤ 100000
  y0 : 0 ≤ L.dirty
  y1 : L.dirty ≤ 18446744073709551615

/-- numbers that lie in none of the blocks X -/
def NumX (X : Nat → Prop) (w : World) (a : Option Addr) (n c : Nat) (xs : List Int) : Prop := IsNums w a n c xs ∧ (n = 0 ∨ ∀ y, a = some y → ¬ X y.block)

theorem NumX.lies {X M : Nat → Prop} {w w' : World} {b : Option Addr} {n c : Nat} {d : List Int} (h : NumX X w b n c d) (hk : Keeps M w w') (hM : ∀ k, M k → X k) : NumX X w' b n c d :=
  ⟨h.1.lies hk (h.2.imp id (fun q y hy hm => q y hy (hM _ hm))), h.2⟩

theorem NumX.keep {X : Nat → Prop} {w w' : World} {b : Option Addr} {n c : Nat} {d : List Int} (h : NumX X w b n c d) (hb : Below w.heap.size w w') : NumX X w' b n c d := ⟨h.1.keep hb, h.2⟩

theorem NumX.more {X Y : Nat → Prop} {w : World} {b : Option Addr} {n c : Nat} {d : List Int} (h : NumX X w b n c d) (hY : ∀ k, Y k → X k ∨ w.heap.size ≤ k) : NumX Y w b n c d := by
  refine ⟨h.1, ?_⟩
  by_cases h0 : n = 0
  · exact .inl h0
  · right
    intro y hy hk
    rcases h.2 with h2 | h2
    · exact h0 h2
    · rcases hY _ hk with hx | hx
      · exact h2 y hy hx
      · rcases h.1.2.2.2.2 with h5 | ⟨g, off, ha, hg, _⟩
        · exact h0 h5
        · rw [hy] at ha
          cases ha
          dsimp only at hx
          omega

/-- the log at p; X: blocks that its data keep off (its own two are among them) -/
def IsL (X : Nat → Prop) (w : World) (base p : Nat) (L : LogS) : Prop :=
  ∃ ma mn mc da dn dc ea en ec ms, w.cell? ⟨p, 0, none⟩ = some (.int .u64 L.s.i) ∧ w.cell? ⟨p, 1, none⟩ = some (.int .u64 L.s.t) ∧ w.cell? ⟨p, 2, none⟩ = some (.slice ma mn mc) ∧ w.cell? ⟨p, 3, none⟩ = some (.slice da dn dc) ∧ w.cell? ⟨p, 4, none⟩ = some (.slice ea en ec) ∧ w.cell? ⟨p, 5, none⟩ = some (.int .u64 L.dirty) ∧ w.cell? ⟨p, 6, none⟩ = some (.bool L.fresh) ∧
    (∀ i, w.frozen? ⟨p, i, none⟩ = false) ∧ NumX X w ma mn mc L.s.m ∧ DatB X w da dn dc L.s.d ∧ RowM w base (.slice ea en ec) ms ∧ ms.map MEnt.e = L.es ∧ (∀ m ∈ ms, m.ok X w) ∧ base ≤ p ∧ some p ≠ (Value.slice ea en ec).ownBlock ∧ X p ∧ (∀ k, (Value.slice ea en ec).ownBlock = some k → X k)

theorem IsL.lt {X : Nat → Prop} {w : World} {base p : Nat} {L : LogS} (h : IsL X w base p L) {k : Nat} (hk : SB 4 w p k) : k < w.heap.size ∧ base ≤ k ∧ X k := by
  obtain ⟨ma, mn, mc, da, dn, dc, ea, en, ec, ms, c0, c1, c2, c3, c4, c5, c6, hf, hm, hd, hr, he, ho, hp, hn, hx, hx4⟩ := h
  rcases hk with rfl | ⟨v, hv, hb⟩
  · exact ⟨World.block_lt_of_cell? _ ⟨k, 0, none⟩ c0, hp, hx⟩
  · rw [c4] at hv
    cases hv
    have := hr.lt k hb
    exact ⟨this.2, this.1, hx4 k hb⟩

theorem IsL.at {X : Nat → Prop} {w : World} {base p : Nat} {L : LogS} (h : IsL X w base p L) : p < w.heap.size := (h.lt (k := p) SB.at).1

/-- a log whose own blocks, and all that is not of X, are as they were -/
theorem IsL.lies {X M : Nat → Prop} {w w' : World} {base p : Nat} {L : LogS} (h : IsL X w base p L) (hk : Keeps M w w') (hM : ∀ k, M k → X k) (hb : ∀ k, SB 4 w p k → ¬ M k) : IsL X w' base p L := by
  have hlt := fun k (hk : SB 4 w p k) => (h.lt hk).1
  obtain ⟨ma, mn, mc, da, dn, dc, ea, en, ec, ms, c0, c1, c2, c3, c4, c5, c6, hf, hm, hd, hr, he, ho, hp, hn, hx, hx4⟩ := h
  have e := hk.block p (hlt p SB.at) (hb p SB.at)
  have ce : ∀ i, w'.cell? ⟨p, i, none⟩ = w.cell? ⟨p, i, none⟩ := fun i => World.cell?_of_block (a := ⟨p, i, none⟩) e
  refine ⟨ma, mn, mc, da, dn, dc, ea, en, ec, ms, (ce 0).trans c0, (ce 1).trans c1, (ce 2).trans c2, (ce 3).trans c3, (ce 4).trans c4, (ce 5).trans c5, (ce 6).trans c6, fun i => (World.frozen?_of_block (a := ⟨p, i, none⟩) e).trans (hf i), hm.lies hk hM, hd.lies hk hM, hr.lies ?_, he, fun m hm => (ho m hm).lies hk hM, hp, hn, hx, hx4⟩
  intro g hg
  have h1 : SB 4 w p g := .inr ⟨_, c4, hg⟩
  exact hk.block g (hlt g h1) (hb g h1)

theorem IsL.keep {X : Nat → Prop} {w w' : World} {base p : Nat} {L : LogS} (h : IsL X w base p L) (hb : Below w.heap.size w w') : IsL X w' base p L :=
  h.lies (Below.keeps hb (fun _ => False)) (fun _ x => x.elim) (fun _ _ x => x)

theorem IsL.drew {X : Nat → Prop} {w : World} {base p : Nat} {L : LogS} (h : IsL X w base p L) : IsL X w.drew base p L := h.keep (Below.refl _ _).drew

/-- a log beside a struct that was changed -/
theorem IsL.off {X : Nat → Prop} {w w' : World} {base p j q : Nat} {L : LogS} (h : IsL X w base p L) (ho : Off2 j 4 w q p) (hq : ∀ k, SB j w q k → X k) (hp : SPost j w q w') : IsL X w' base p L :=
  h.lies hp.1 hq (fun k hk hx => ho k hx hk)

theorem IsL.more {X Y : Nat → Prop} {w : World} {base p : Nat} {L : LogS} (h : IsL X w base p L) (hY : ∀ k, Y k → X k ∨ w.heap.size ≤ k) (hS : ∀ k, SB 4 w p k → Y k) : IsL Y w base p L := by
  obtain ⟨ma, mn, mc, da, dn, dc, ea, en, ec, ms, c0, c1, c2, c3, c4, c5, c6, hf, hm, hd, hr, he, ho, hp, hn, hx, hx4⟩ := h
  exact ⟨ma, mn, mc, da, dn, dc, ea, en, ec, ms, c0, c1, c2, c3, c4, c5, c6, hf, hm.more hY, hd.more hY, hr, he, fun m hm => (ho m hm).more hY, hp, hn, hS p SB.at, fun k hk => hS k (.inr ⟨_, c4, hk⟩)⟩

theorem IsL.below {X : Nat → Prop} {w w' : World} {base p : Nat} {L : LogS} (h : IsL X w base p L) (hp : SPost 4 w p w') (hB : base ≤ w.heap.size) : Below base w w' := hp.below hB (fun k hk => (h.lt hk).2.1)

theorem IsL.mono {X : Nat → Prop} {w : World} {base base' p : Nat} {L : LogS} (h : IsL X w base p L) (hB : base' ≤ base) : IsL X w base' p L := by
  obtain ⟨ma, mn, mc, da, dn, dc, ea, en, ec, ms, c0, c1, c2, c3, c4, c5, c6, hf, hm, hd, hr, he, ho, hp, hn, hx, hx4⟩ := h
  exact ⟨ma, mn, mc, da, dn, dc, ea, en, ec, ms, c0, c1, c2, c3, c4, c5, c6, hf, hm, hd, hr.mono hB, he, ho, Nat.le_trans hB hp, hn, hx, hx4⟩

theorem Keeps.thenSet {M : Nat → Prop} {w w1 : World} (h : Keeps M w w1) {g i : Nat} (hg : M g) (v : Value) : Keeps M w (w1.setCell ⟨g, i, none⟩ v) :=
  ⟨h.os, h.tape, h.output, Nat.le_trans h.size (by simp [World.setCell]), fun k hk hn => (Below.heap_setCell _ _ _ _ (fun e => hn (by rw [e]; exact hg))).trans (h.block k hk hn)⟩

theorem Keeps.also {g i : Nat} {w w1 : World} (h : Keeps (fun k => k = g) w w1) (v : Value) : Keeps (fun k => k = g) w (w1.setCell ⟨g, i, none⟩ v) := h.thenSet rfl v

theorem Keeps.thenBelow {M : Nat → Prop} {w w1 w2 : World} (h : Keeps M w w1) (hb : Below w1.heap.size w1 w2) : Keeps M w w2 :=
  ⟨hb.os.trans h.os, hb.tape.trans h.tape, hb.output.trans h.output, Nat.le_trans h.size hb.size, fun k hk hn => (hb.block k (Nat.lt_of_lt_of_le hk h.size)).trans (h.block k hk hn)⟩

theorem Keeps.self (M : Nat → Prop) (w : World) : Keeps M w w := ⟨rfl, rfl, rfl, Nat.le_refl _, fun _ _ _ => rfl⟩

/-- four cells of a block -/
def Box4 (w : World) (b : Nat) (v0 v1 v2 v3 : Value) : Prop := w.cell? ⟨b, 0, none⟩ = some v0 ∧ w.cell? ⟨b, 1, none⟩ = some v1 ∧ w.cell? ⟨b, 2, none⟩ = some v2 ∧ w.cell? ⟨b, 3, none⟩ = some v3 ∧ ∀ i, w.frozen? ⟨b, i, none⟩ = false

theorem Box4.keep {w w' : World} {b B : Nat} {v0 v1 v2 v3 : Value} (h : Box4 w b v0 v1 v2 v3) (hb : Below B w w') (hB : b < B) : Box4 w' b v0 v1 v2 v3 := by
  obtain ⟨h0, h1, h2, h3, hf⟩ := h
  exact ⟨(hb.cell (p := ⟨b, 0, none⟩) hB).trans h0, (hb.cell (p := ⟨b, 1, none⟩) hB).trans h1, (hb.cell (p := ⟨b, 2, none⟩) hB).trans h2, (hb.cell (p := ⟨b, 3, none⟩) hB).trans h3, fun i => (hb.frozen (p := ⟨b, i, none⟩) hB).trans (hf i)⟩

theorem box4_new (w : World) (v0 v1 v2 v3 : Value) (ty : TypeId) (g : Nat) (hg : w.heap.size = g) : Box4 (w.alloc (.cells #[v0, v1, v2, v3] ty)) g v0 v1 v2 v3 := by
  subst hg
  exact ⟨by simp, by simp, by simp, by simp, by simp⟩

theorem Box4.set0 {w : World} {b : Nat} {v0 v1 v2 v3 : Value} (h : Box4 w b v0 v1 v2 v3) (u : Value) : Box4 (w.setCell ⟨b, 0, none⟩ u) b u v1 v2 v3 := by
  obtain ⟨h0, h1, h2, h3, hf⟩ := h
  exact ⟨World.cell?_setCell_same _ _ _ h0, (cell_set_off _ _ _ _ _ (by decide)).trans h1, (cell_set_off _ _ _ _ _ (by decide)).trans h2, (cell_set_off _ _ _ _ _ (by decide)).trans h3, fun i => by simp [hf]⟩

theorem Box4.set1 {w : World} {b : Nat} {v0 v1 v2 v3 : Value} (h : Box4 w b v0 v1 v2 v3) (u : Value) : Box4 (w.setCell ⟨b, 1, none⟩ u) b v0 u v2 v3 := by
  obtain ⟨h0, h1, h2, h3, hf⟩ := h
  exact ⟨(cell_set_off _ _ _ _ _ (by decide)).trans h0, World.cell?_setCell_same _ _ _ h1, (cell_set_off _ _ _ _ _ (by decide)).trans h2, (cell_set_off _ _ _ _ _ (by decide)).trans h3, fun i => by simp [hf]⟩

theorem Box4.set2 {w : World} {b : Nat} {v0 v1 v2 v3 : Value} (h : Box4 w b v0 v1 v2 v3) (u : Value) : Box4 (w.setCell ⟨b, 2, none⟩ u) b v0 v1 u v3 := by
  obtain ⟨h0, h1, h2, h3, hf⟩ := h
  exact ⟨(cell_set_off _ _ _ _ _ (by decide)).trans h0, (cell_set_off _ _ _ _ _ (by decide)).trans h1, World.cell?_setCell_same _ _ _ h2, (cell_set_off _ _ _ _ _ (by decide)).trans h3, fun i => by simp [hf]⟩

theorem Box4.set3 {w : World} {b : Nat} {v0 v1 v2 v3 : Value} (h : Box4 w b v0 v1 v2 v3) (u : Value) : Box4 (w.setCell ⟨b, 3, none⟩ u) b v0 v1 v2 u := by
  obtain ⟨h0, h1, h2, h3, hf⟩ := h
  exact ⟨(cell_set_off _ _ _ _ _ (by decide)).trans h0, (cell_set_off _ _ _ _ _ (by decide)).trans h1, (cell_set_off _ _ _ _ _ (by decide)).trans h2, World.cell?_setCell_same _ _ _ h3, fun i => by simp [hf]⟩

theorem Box4.other {w : World} {b c i : Nat} {v0 v1 v2 v3 : Value} (h : Box4 w b v0 v1 v2 v3) (hn : b ≠ c) (u : Value) : Box4 (w.setCell ⟨c, i, none⟩ u) b v0 v1 v2 v3 := by
  have e := Below.heap_setCell w ⟨c, i, none⟩ u b hn
  obtain ⟨h0, h1, h2, h3, hf⟩ := h
  exact ⟨(World.cell?_of_block (a := ⟨b, 0, none⟩) e).trans h0, (World.cell?_of_block (a := ⟨b, 1, none⟩) e).trans h1, (World.cell?_of_block (a := ⟨b, 2, none⟩) e).trans h2, (World.cell?_of_block (a := ⟨b, 3, none⟩) e).trans h3, fun i => (World.frozen?_of_block (a := ⟨b, i, none⟩) e).trans (hf i)⟩

set_option maxHeartbeats 1000000 in
theorem copyS_any (i t : Int) (ma : Option Addr) (mn mc : Nat) (m : List Int) (da : Option Addr) (dn dc : Nat) (d : List Int) (w : World) (hm : IsNums w ma mn mc m) (hd : IsBytes w da dn dc d) (h1 : mn ≤ 100000) (h2 : dn ≤ 1000000) :
    Calls Tryz.prog 35 #[.agg #[.int .u64 i, .int .u64 t, .slice ma mn mc, .slice da dn dc]] w fun e w' => ∃ a1 n1 c1 a2 n2 c2, e = .returned (.agg #[.int .u64 i, .int .u64 t, .slice a1 n1 c1, .slice a2 n2 c2]) ∧ IsNums w' a1 n1 c1 m ∧ (∀ y, a1 = some y → w.heap.size ≤ y.block) ∧ IsBytes w' a2 n2 c2 d ∧ (∀ y, a2 = some y → w.heap.size ≤ y.block) ∧ Below w.heap.size w w' := by
  have HM := hide hm
  have HD := hide hd
  have hw0 : Below w.heap.size w ((w.alloc (.cells #[.int .u64 i, .int .u64 t, .slice ma mn mc, .slice da dn dc] 28)).alloc (.cells #[.int .u64 0, .int .u64 0, .slice none 0 0, .slice none 0 0] 28)) := ((Below.refl _ _).alloc (Nat.le_refl _) _).alloc (by simp) _
  have HW0 := hide hw0
  have HP := hide ((box4_new w (.int .u64 i) (.int .u64 t) (.slice ma mn mc) (.slice da dn dc) 28 _ rfl).keep (new_below _ (.cells #[.int .u64 0, .int .u64 0, .slice none 0 0, .slice none 0 0] 28)) (by simp))
  have HQ := hide (box4_new (w.alloc (.cells #[.int .u64 i, .int .u64 t, .slice ma mn mc, .slice da dn dc] 28)) (.int .u64 0) (.int .u64 0) (.slice none 0 0) (.slice none 0 0) 28 (w.heap.size + 1) (by simp))
  clear hm hd hw0
  go_enter Tryz.func35, Tryz.ntmps35
  go_wp2_with (first
    | (go_at_call 80; go_must (refine (clone_src da dn dc d _ HD3.out.src (by omega)).mono ?_); rintro e w4 ⟨v4, rfl, hown4, hb4⟩; obtain ⟨a4, n4, c4, rfl, hI4, hy4⟩ := slice_of_own hown4 HD.out.2.2.2.1; have HI4 := hide hI4; have HY4 := hide hy4; have HB4 := hide hb4; have HP4 := hide (HP3.out.keep hb4 (by have := HSz.out; simp [World.setCell]; omega)); have HQ4 := hide (HQ3.out.keep hb4 (by have := HSz.out; simp [World.setCell]; omega)); obtain ⟨q0, q1, q2, q3, qf⟩ := HP4.out; have qf3 := qf 3; have HQ5 := hide (HQ4.out.other (c := w.heap.size) (i := 3) (by omega) (.slice a4 n4 c4)); have HP5 := hide (HP4.out.set3 (.slice a4 n4 c4)); obtain ⟨r0, r1, r2, r3, rf⟩ := HQ5.out; have f0 := rf 0; have f1 := rf 1; have f2 := rf 2; have f3 := rf 3; obtain ⟨s0, s1, s2, s3, -⟩ := HP5.out; clear rf qf hown4 hI4 hy4 hb4)
    | (go_at_call 79; go_must (refine (cloneU_any ma mn mc m _ (HM.out.src.keep HW0.out) (by omega)).mono ?_); rintro e w2 ⟨v2, rfl, hown2, hb2⟩; obtain ⟨a2, n2, c2, rfl, hI2, hy2⟩ := hown2.is HM.out.2.2.2.1; have HI2 := hide hI2; have HY2 := hide hy2; have HB2 := hide hb2; have HSz : Hid (w.heap.size + 2 ≤ w2.heap.size) := (by have := hb2.size; simp at this; show _ ≤ _; omega); have HP2 := hide (HP.out.keep hb2 (by simp only [World.size_alloc]; omega)); have HQ2 := hide (HQ.out.keep hb2 (by simp only [World.size_alloc]; omega)); have HP3 := hide (HP2.out.set2 (.slice a2 n2 c2)); have HQ3 := hide (HQ2.out.other (c := w.heap.size) (i := 2) (by omega) (.slice a2 n2 c2)); have HD3 := hide (isB_liesX ((HD.out.keep HW0.out).keep hb2) (keeps_cell (g := w.heap.size) (i := 2) (.slice a2 n2 c2)) (by rcases HD.out.2.2.2.2 with h0 | ⟨g, off, e, hg, _⟩; (exact .inl h0); exact .inr (fun y hy ey => by rw [e] at hy; cases hy; dsimp only at ey; omega))); obtain ⟨p0, p1, p2, p3, pf⟩ := HP2.out; have pf2 := pf 2; clear pf hown2 hI2 hy2 hb2))
  have B0 := HQ5.out.set0 (.int .u64 i)
  have B1 := B0.set1 (.int .u64 t)
  have B2 := B1.set2 (.slice a2 n2 c2)
  have B3 := B2.set3 (.slice a4 n4 c4)
  have t0 := B0.1
  have t1 := B1.2.1
  have t2 := B2.2.2.1
  have t3 := B3.2.2.2.1
  have hsz2 := HSz.out
  have kf : ∀ W, Keeps (fun k => w.heap.size ≤ k ∧ k < w.heap.size + 2) W (w4.setCell ⟨w.heap.size, 3, none⟩ (.slice a4 n4 c4)) → Keeps (fun k => w.heap.size ≤ k ∧ k < w.heap.size + 2) W (((((w4.setCell ⟨w.heap.size, 3, none⟩ (.slice a4 n4 c4)).setCell ⟨w.heap.size + 1, 0, none⟩ (.int .u64 i)).setCell ⟨w.heap.size + 1, 1, none⟩ (.int .u64 t)).setCell ⟨w.heap.size + 1, 2, none⟩ (.slice a2 n2 c2)).setCell ⟨w.heap.size + 1, 3, none⟩ (.slice a4 n4 c4)) := fun W h => (((h.thenSet ⟨by omega, by omega⟩ _).thenSet ⟨by omega, by omega⟩ _).thenSet ⟨by omega, by omega⟩ _).thenSet ⟨by omega, by omega⟩ _
  have k2 : ∀ W, Keeps (fun k => w.heap.size ≤ k ∧ k < w.heap.size + 2) W w2 → Keeps (fun k => w.heap.size ≤ k ∧ k < w.heap.size + 2) W (w4.setCell ⟨w.heap.size, 3, none⟩ (.slice a4 n4 c4)) := fun W h => ((h.thenSet ⟨by omega, by omega⟩ _).thenBelow HB4.out).thenSet ⟨by omega, by omega⟩ _
  have hy2 := HY2.out
  have hy4 := HY4.out
  simp only [World.size_alloc] at hy2
  refine bodyPost_ret (v := .agg #[.int .u64 i, .int .u64 t, .slice a2 n2 c2, .slice a4 n4 c4]) (by simp [results, Tryz.results35, go_sem, t0, t1, t2, t3]) rfl ⟨a2, n2, c2, a4, n4, c4, rfl, ?_, ?_, ?_, ?_, ?_⟩
  · exact HI2.out.lies (kf _ (k2 _ (Keeps.self _ _))) (.inr (fun y hy hk => by have := (hy2 y hy).1; omega))
  · intro y hy
    have := (hy2 y hy).1
    omega
  · refine isB_liesX HI4.out (kf _ ((Keeps.self _ _).thenSet ⟨by omega, by omega⟩ _)) (.inr (fun y hy hk => ?_))
    have := hy4 y hy
    simp [World.setCell] at this
    omega
  · intro y hy
    have := hy4 y hy
    simp [World.setCell] at this
    omega
  · exact (kf _ (k2 _ ((Below.keeps HW0.out _).thenBelow HB2.out))).below (Nat.le_refl _) (fun k hk => hk.1)

/-- a log that was just made -/
theorem isL_new (X : Nat → Prop) (w : World) (base g : Nat) (i t : Int) (a1 : Option Addr) (n1 c1 : Nat) (m : List Int) (a2 : Option Addr) (n2 c2 : Nat) (d : List Int) (ty : TypeId) (hg : w.heap.size = g) (hb : base ≤ g) (hm : NumX X w a1 n1 c1 m) (hd : DatB X w a2 n2 c2 d) :
    IsL (fun k => X k ∨ k = g) (w.alloc (.cells #[.int .u64 i, .int .u64 t, .slice a1 n1 c1, .slice a2 n2 c2, .slice none 0 0, .int .u64 0, .bool false] ty)) base g ⟨⟨i, t, m, d⟩, [], 0, false⟩ := by
  subst hg
  have hY : ∀ k, (X k ∨ k = w.heap.size) → X k ∨ w.heap.size ≤ k := fun k hk => hk.imp id (fun e => by omega)
  exact ⟨a1, n1, c1, a2, n2, c2, none, 0, 0, [], by simp, by simp, by simp, by simp, by simp, by simp, by simp, by simp, (hm.more hY).keep (new_below _ _), (hd.more hY).keep (new_below _ _), rowM_nil _ _, rfl, by simp, hb, (by intro h; cases h), .inr rfl, by intro k hk; cases hk⟩

theorem NumX.fresh {X : Nat → Prop} {w : World} {a : Option Addr} {n c : Nat} {xs : List Int} {B : Nat} (h : IsNums w a n c xs) (hy : ∀ y, a = some y → B ≤ y.block) (hX : ∀ k, X k → k < B) : NumX X w a n c xs :=
  ⟨h, .inr (fun y e hx => by have := hy y e; have := hX _ hx; omega)⟩

theorem DatB.fresh {X : Nat → Prop} {w : World} {a : Option Addr} {n c : Nat} {xs : List Int} {B : Nat} (h : IsBytes w a n c xs) (hy : ∀ y, a = some y → B ≤ y.block) (hX : ∀ k, X k → k < B) : DatB X w a n c xs :=
  ⟨h, .inr (fun y e hx => by have := hy y e; have := hX _ hx; omega)⟩

def capI (i : Int) : Int := if 4611686018427387904 < i then 4611686018427387904 else i

set_option maxHeartbeats 1000000 in
theorem new_any (X : Nat → Prop) (i t : Int) (ma : Option Addr) (mn mc : Nat) (m : List Int) (da : Option Addr) (dn dc : Nat) (d : List Int) (w : World) (hX : ∀ k, X k → k < w.heap.size) (hm : IsNums w ma mn mc m) (hd : IsBytes w da dn dc d) (h1 : mn ≤ 100000) (h2 : dn ≤ 1000000) :
    Calls Tryz.prog 11 #[.agg #[.int .u64 i, .int .u64 t, .slice ma mn mc, .slice da dn dc]] w fun e w' => ∃ p, e = .returned (.pointer (some ⟨p, 0, none⟩)) ∧ w.heap.size ≤ p ∧ IsL (fun k => X k ∨ k = p) w' w.heap.size p ⟨⟨capI i, t, m, d⟩, [], 0, false⟩ ∧ Below w.heap.size w w' := by
  have HM := hide hm
  have HD := hide hd
  have HX := hide hX
  have HP := hide (box4_new w (.int .u64 i) (.int .u64 t) (.slice ma mn mc) (.slice da dn dc) 28 _ rfl)
  clear hm hd hX
  by_cases hi : 4611686018427387904 < i
  · have hc : capI i = 4611686018427387904 := by unfold capI; rw [if_pos hi]
    go_enter Tryz.func11, Tryz.ntmps11
    go_wp2_with (first
      | (go_at_call 35; go_must (refine (copyS_any i t ma mn mc m da dn dc d _ (HM.out.keep (new_below _ _)) (HD.out.keep (new_below _ _)) h1 h2).mono ?_); rintro e w2 ⟨a1, n1, c1, a2, n2, c2, rfl, hI1, hy1, hI2, hy2, hb2⟩; have HI1 := hide hI1; have HY1 := hide hy1; have HI2 := hide hI2; have HY2 := hide hy2; have HB2 := hide hb2; have HP2 := hide (HP.out.keep hb2 (by simp)); obtain ⟨p0, p1, p2, p3, pf⟩ := HP2.out; have pf0 := pf 0; have pf1 := pf 1; have pf2 := pf 2; have pf3 := pf 3; clear pf hI1 hy1 hI2 hy2 hb2))
    go_ret
    rw [hc]
    have hs2 : w.heap.size < w2.heap.size := by have := HB2.out.size; simp at this; omega
    have hsz : (((((w2.setCell ⟨w.heap.size, 0, none⟩ (.int .u64 i)).setCell ⟨w.heap.size, 1, none⟩ (.int .u64 t)).setCell ⟨w.heap.size, 2, none⟩ (.slice a1 n1 c1)).setCell ⟨w.heap.size, 3, none⟩ (.slice a2 n2 c2)).setCell ⟨w.heap.size, 0, none⟩ (.int .u64 4611686018427387904)).heap.size = w2.heap.size := by simp [World.setCell]
    have hk : Keeps (fun k => k = w.heap.size) w2 (((((w2.setCell ⟨w.heap.size, 0, none⟩ (.int .u64 i)).setCell ⟨w.heap.size, 1, none⟩ (.int .u64 t)).setCell ⟨w.heap.size, 2, none⟩ (.slice a1 n1 c1)).setCell ⟨w.heap.size, 3, none⟩ (.slice a2 n2 c2)).setCell ⟨w.heap.size, 0, none⟩ (.int .u64 4611686018427387904)) := (((((Keeps.self _ w2).also _).also _).also _).also _).also _
    have hk0 : Keeps (fun k => k = w.heap.size) w (((((w2.setCell ⟨w.heap.size, 0, none⟩ (.int .u64 i)).setCell ⟨w.heap.size, 1, none⟩ (.int .u64 t)).setCell ⟨w.heap.size, 2, none⟩ (.slice a1 n1 c1)).setCell ⟨w.heap.size, 3, none⟩ (.slice a2 n2 c2)).setCell ⟨w.heap.size, 0, none⟩ (.int .u64 4611686018427387904)) := ((((((Below.keeps (new_below _ _) _).thenBelow HB2.out).also _).also _).also _).also _).also _
    have hy1 := HY1.out
    have hy2 := HY2.out
    simp only [World.size_alloc] at hy1 hy2
    generalize (((((w2.setCell ⟨w.heap.size, 0, none⟩ (.int .u64 i)).setCell ⟨w.heap.size, 1, none⟩ (.int .u64 t)).setCell ⟨w.heap.size, 2, none⟩ (.slice a1 n1 c1)).setCell ⟨w.heap.size, 3, none⟩ (.slice a2 n2 c2)).setCell ⟨w.heap.size, 0, none⟩ (.int .u64 4611686018427387904)) = W at *
    have hw0 : Below w.heap.size w W := hk0.below (Nat.le_refl _) (fun k hk => by omega)
    exact ⟨w2.heap.size, rfl, Nat.le_of_lt hs2, isL_new X W w.heap.size w2.heap.size 4611686018427387904 t a1 n1 c1 m a2 n2 c2 d _ hsz (by omega) (NumX.fresh (B := w.heap.size + 1) (HI1.out.lies hk (.inr (fun y hy e => by have := hy1 y hy; omega))) hy1 (fun k hk => by have := HX.out k hk; omega)) (DatB.fresh (B := w.heap.size + 1) (isB_liesX HI2.out hk (.inr (fun y hy e => by have := hy2 y hy; omega))) hy2 (fun k hk => by have := HX.out k hk; omega)), hw0.alloc hw0.size _⟩
  · have hc : capI i = i := by unfold capI; rw [if_neg hi]
    go_enter Tryz.func11, Tryz.ntmps11
    go_wp2_with (first
      | (go_at_call 35; go_must (refine (copyS_any i t ma mn mc m da dn dc d _ (HM.out.keep (new_below _ _)) (HD.out.keep (new_below _ _)) h1 h2).mono ?_); rintro e w2 ⟨a1, n1, c1, a2, n2, c2, rfl, hI1, hy1, hI2, hy2, hb2⟩; have HI1 := hide hI1; have HY1 := hide hy1; have HI2 := hide hI2; have HY2 := hide hy2; have HB2 := hide hb2; have HP2 := hide (HP.out.keep hb2 (by simp)); obtain ⟨p0, p1, p2, p3, pf⟩ := HP2.out; have pf0 := pf 0; have pf1 := pf 1; have pf2 := pf 2; have pf3 := pf 3; clear pf hI1 hy1 hI2 hy2 hb2))
    go_ret
    rw [hc]
    have hs2 : w.heap.size < w2.heap.size := by have := HB2.out.size; simp at this; omega
    have hsz : (((((w2.setCell ⟨w.heap.size, 0, none⟩ (.int .u64 i)).setCell ⟨w.heap.size, 1, none⟩ (.int .u64 t)).setCell ⟨w.heap.size, 2, none⟩ (.slice a1 n1 c1)).setCell ⟨w.heap.size, 3, none⟩ (.slice a2 n2 c2)).setCell ⟨w.heap.size, 0, none⟩ (.int .u64 i)).heap.size = w2.heap.size := by simp [World.setCell]
    have hk : Keeps (fun k => k = w.heap.size) w2 (((((w2.setCell ⟨w.heap.size, 0, none⟩ (.int .u64 i)).setCell ⟨w.heap.size, 1, none⟩ (.int .u64 t)).setCell ⟨w.heap.size, 2, none⟩ (.slice a1 n1 c1)).setCell ⟨w.heap.size, 3, none⟩ (.slice a2 n2 c2)).setCell ⟨w.heap.size, 0, none⟩ (.int .u64 i)) := (((((Keeps.self _ w2).also _).also _).also _).also _).also _
    have hk0 : Keeps (fun k => k = w.heap.size) w (((((w2.setCell ⟨w.heap.size, 0, none⟩ (.int .u64 i)).setCell ⟨w.heap.size, 1, none⟩ (.int .u64 t)).setCell ⟨w.heap.size, 2, none⟩ (.slice a1 n1 c1)).setCell ⟨w.heap.size, 3, none⟩ (.slice a2 n2 c2)).setCell ⟨w.heap.size, 0, none⟩ (.int .u64 i)) := ((((((Below.keeps (new_below _ _) _).thenBelow HB2.out).also _).also _).also _).also _).also _
    have hy1 := HY1.out
    have hy2 := HY2.out
    simp only [World.size_alloc] at hy1 hy2
    generalize (((((w2.setCell ⟨w.heap.size, 0, none⟩ (.int .u64 i)).setCell ⟨w.heap.size, 1, none⟩ (.int .u64 t)).setCell ⟨w.heap.size, 2, none⟩ (.slice a1 n1 c1)).setCell ⟨w.heap.size, 3, none⟩ (.slice a2 n2 c2)).setCell ⟨w.heap.size, 0, none⟩ (.int .u64 i)) = W at *
    have hw0 : Below w.heap.size w W := hk0.below (Nat.le_refl _) (fun k hk => by omega)
    exact ⟨w2.heap.size, rfl, Nat.le_of_lt hs2, isL_new X W w.heap.size w2.heap.size i t a1 n1 c1 m a2 n2 c2 d _ hsz (by omega) (NumX.fresh (B := w.heap.size + 1) (HI1.out.lies hk (.inr (fun y hy e => by have := hy1 y hy; omega))) hy1 (fun k hk => by have := HX.out k hk; omega)) (DatB.fresh (B := w.heap.size + 1) (isB_liesX HI2.out hk (.inr (fun y hy e => by have := hy2 y hy; omega))) hy2 (fun k hk => by have := HX.out k hk; omega)), hw0.alloc hw0.size _⟩

end Go.Proofs.YtodmieehdleohaaGreat

namespace Go.Proofs.YtodmieehdleohaaGreat
open Go.RowKit NumMath
set_option linter.unusedVariables false
set_option maxRecDepth 100000

theorem orE_any (p : Nat) (w : World) :
    Calls Tryz.prog 36 #[.pointer (some ⟨p, 0, none⟩)] w fun e w' => e = .returned (.pointer (some ⟨p, 0, none⟩)) ∧ w' = w := by
  go_enter Tryz.func36, Tryz.ntmps36
  go_wp2
  go_ret
  exact ⟨rfl, rfl⟩

theorem kwrap_u64 (n : Int) (h1 : 0 ≤ n) (h2 : n ≤ 18446744073709551615) : IntKind.u64.wrap n = n := by
  simp [IntKind.wrap, IntKind.bits, IntKind.signed]
  omega

theorem first_any (p : Nat) (i : Int) (w : World) (c0 : w.cell? ⟨p, 0, none⟩ = some (.int .u64 i)) (h0 : 0 ≤ i) (h1 : i ≤ 9000000000000000000) :
    Calls Tryz.prog 33 #[.pointer (some ⟨p, 0, none⟩)] w fun e w' => e = .returned (.int .u64 (i + 1)) ∧ w' = w := by
  have hk := kwrap_u64 (i + 1) (by omega) (by omega)
  go_enter Tryz.func33, Tryz.ntmps33
  go_wp2_with (first
    | (go_at_call 36; refine (orE_any p _).mono ?_; rintro e w' ⟨rfl, hw⟩; have hw := hw.symm; subst hw))
  go_ret
  exact ⟨rfl, rfl⟩

theorem last_any (p : Nat) (i : Int) (a : Option Addr) (n c : Nat) (w : World) (c0 : w.cell? ⟨p, 0, none⟩ = some (.int .u64 i)) (c4 : w.cell? ⟨p, 4, none⟩ = some (.slice a n c)) (h0 : 0 ≤ i) (h1 : i ≤ 9000000000000000000) (hn : n ≤ 100000) :
    Calls Tryz.prog 81 #[.pointer (some ⟨p, 0, none⟩)] w fun e w' => e = .returned (.int .u64 (i + n)) ∧ w' = w.drew := by
  have hk := kwrap_u64 (i + n) (by omega) (by omega)
  have hk2 := kwrap_u64 (n : Int) (by omega) (by omega)
  go_enter Tryz.func81, Tryz.ntmps81
  go_wp2_with (first
    | (go_at_call 36; refine (orE_any p _).mono ?_; rintro e w' ⟨rfl, hw⟩; have hw := hw.symm; subst hw))
  go_region
  all_goals
    go_wp2
    go_ret
    exact ⟨rfl, rfl⟩

theorem xfirst_any (p : Nat) (i : Int) (w : World) (c0 : w.cell? ⟨p, 0, none⟩ = some (.int .u64 i)) (h0 : 0 ≤ i) (h1 : i ≤ 9000000000000000000) :
    Calls Tryz.prog 42 #[.pointer (some ⟨p, 0, none⟩)] w fun e w' => e = .returned (.int .u64 (i + 1)) ∧ w' = w := by
  have hk := kwrap_u64 (i + 1) (by omega) (by omega)
  go_enter Tryz.func42, Tryz.ntmps42
  go_wp2
  go_ret
  exact ⟨rfl, rfl⟩

theorem xlast_any (p : Nat) (i : Int) (a : Option Addr) (n c : Nat) (w : World) (c0 : w.cell? ⟨p, 0, none⟩ = some (.int .u64 i)) (c4 : w.cell? ⟨p, 4, none⟩ = some (.slice a n c)) (h0 : 0 ≤ i) (h1 : i ≤ 9000000000000000000) (hn : n ≤ 100000) :
    Calls Tryz.prog 43 #[.pointer (some ⟨p, 0, none⟩)] w fun e w' => e = .returned (.int .u64 (i + n)) ∧ w' = w.drew := by
  have hk := kwrap_u64 (i + n) (by omega) (by omega)
  have hk2 := kwrap_u64 (n : Int) (by omega) (by omega)
  go_enter Tryz.func43, Tryz.ntmps43
  go_wp2
  go_region
  all_goals
    go_wp2
    go_ret
    exact ⟨rfl, rfl⟩

theorem has_low (p : Nat) (i x : Int) (w : World) (c0 : w.cell? ⟨p, 0, none⟩ = some (.int .u64 i)) (h0 : 0 ≤ i) (h1 : i ≤ 9000000000000000000) (hx : x < i + 1) :
    Calls Tryz.prog 38 #[.pointer (some ⟨p, 0, none⟩), .int .u64 x] w fun e w' => e = .returned (.bool false) ∧ w' = w := by
  have hd : decide (i + 1 ≤ x) = false := decide_eq_false (by omega)
  go_enter Tryz.func38, Tryz.ntmps38
  go_wp2_with (first
    | (go_at_call 33; refine (first_any p i _ c0 h0 h1).mono ?_; rintro e w' ⟨rfl, hw⟩; have hw := hw.symm; subst hw))
  go_ret
  exact ⟨rfl, rfl⟩

theorem has_in (p : Nat) (i x : Int) (a : Option Addr) (n c : Nat) (b : Bool) (w : World) (c0 : w.cell? ⟨p, 0, none⟩ = some (.int .u64 i)) (c4 : w.cell? ⟨p, 4, none⟩ = some (.slice a n c)) (h0 : 0 ≤ i) (h1 : i ≤ 9000000000000000000) (hn : n ≤ 100000) (hx : i + 1 ≤ x) (hb : decide (x ≤ i + n) = b) :
    Calls Tryz.prog 38 #[.pointer (some ⟨p, 0, none⟩), .int .u64 x] w fun e w' => e = .returned (.bool b) ∧ w' = w.drew := by
  have hd : decide (i + 1 ≤ x) = true := decide_eq_true hx
  go_enter Tryz.func38, Tryz.ntmps38
  go_wp2_with (first
    | (go_at_call 81; go_must (refine (last_any p i a n c _ c0 c4 h0 h1 hn).mono ?_); rintro e w' ⟨rfl, hw⟩; have hw := hw.symm; subst hw)
    | (go_at_call 33; refine (first_any p i _ c0 h0 h1).mono ?_; rintro e w' ⟨rfl, hw⟩; have hw := hw.symm; subst hw))
  go_ret
  exact ⟨rfl, rfl⟩

theorem at_any (p : Nat) (i x : Int) (k : Nat) (w : World) (c0 : w.cell? ⟨p, 0, none⟩ = some (.int .u64 i)) (h0 : 0 ≤ i) (h1 : i ≤ 9000000000000000000) (hk : k ≤ 100000) (hx : x = i + 1 + k) :
    Calls Tryz.prog 40 #[.pointer (some ⟨p, 0, none⟩), .int .u64 x] w fun e w' => e = .returned (.int .i64 (k : Int)) ∧ w' = w := by
  have e1 : x - (i + 1) = (k : Int) := by omega
  have e2 := kwrap_u64 (k : Int) (by omega) (by omega)
  have e3 : wrap64 (k : Int) = (k : Int) := by unfold wrap64; omega
  have e4 : IntKind.i64.wrap (k : Int) = (k : Int) := by simp [IntKind.wrap, IntKind.bits, IntKind.signed]; omega
  go_enter Tryz.func40, Tryz.ntmps40
  go_wp2_with (first
    | (go_at_call 33; refine (first_any p i _ c0 h0 h1).mono ?_; rintro e w' ⟨rfl, hw⟩; have hw := hw.symm; subst hw))
  go_ret
  exact ⟨by simp; omega, rfl⟩

theorem dirty_any (p : Nat) (y : Int) (b : Bool) (w : World) (c5 : w.cell? ⟨p, 5, none⟩ = some (.int .u64 y)) (c6 : w.cell? ⟨p, 6, none⟩ = some (.bool b)) :
    Calls Tryz.prog 75 #[.pointer (some ⟨p, 0, none⟩)] w fun e w' => e = .returned (.tuple #[.int .u64 y, .bool b]) ∧ w' = w.drew := by
  go_enter Tryz.func75, Tryz.ntmps75
  go_wp2_with (first
    | (go_at_call 36; refine (orE_any p _).mono ?_; rintro e w' ⟨rfl, hw⟩; have hw := hw.symm; subst hw))
  go_region
  all_goals
    go_wp2
    go_ret2
    exact ⟨rfl, rfl⟩

/-- stores into the log's block, but not into the field of the entries -/
theorem spost_set {w : World} {p i : Nat} (hi : i ≠ 4) (v : Value) : SPost 4 w p (w.setCell ⟨p, i, none⟩ v) := by
  refine ⟨⟨rfl, rfl, rfl, by simp [World.setCell], fun k hk hn => Below.heap_setCell _ _ _ _ (fun e => hn (.inl e))⟩, ?_⟩
  rintro k (rfl | ⟨u, hu, hb⟩)
  · exact .inl (.inl rfl)
  · rw [cell_set_off _ _ _ _ _ hi] at hu
    exact .inl (.inr ⟨u, hu, hb⟩)

/-- the same log with other numbers, behind stores into its block alone -/
theorem isL_again {X : Nat → Prop} {w w' : World} {base p : Nat} {L' : LogS} {ma : Option Addr} {mn mc : Nat} {da : Option Addr} {dn dc : Nat} {ea : Option Addr} {en ec : Nat} {ms : List MEnt}
    (hk : Keeps (fun k => k = p) w w') (c0 : w'.cell? ⟨p, 0, none⟩ = some (.int .u64 L'.s.i)) (c1 : w'.cell? ⟨p, 1, none⟩ = some (.int .u64 L'.s.t)) (c2 : w'.cell? ⟨p, 2, none⟩ = some (.slice ma mn mc)) (c3 : w'.cell? ⟨p, 3, none⟩ = some (.slice da dn dc)) (c4 : w'.cell? ⟨p, 4, none⟩ = some (.slice ea en ec)) (c5 : w'.cell? ⟨p, 5, none⟩ = some (.int .u64 L'.dirty)) (c6 : w'.cell? ⟨p, 6, none⟩ = some (.bool L'.fresh)) (hf : ∀ i, w'.frozen? ⟨p, i, none⟩ = false)
    (hm : NumX X w ma mn mc L'.s.m) (hd : DatB X w da dn dc L'.s.d) (hr : RowM w base (.slice ea en ec) ms) (he : ms.map MEnt.e = L'.es) (ho : ∀ m ∈ ms, m.ok X w) (hp : base ≤ p) (hn : some p ≠ (Value.slice ea en ec).ownBlock) (hx : X p) (hx4 : ∀ k, (Value.slice ea en ec).ownBlock = some k → X k) : IsL X w' base p L' := by
  have hM : ∀ k, k = p → X k := fun k e => by rw [e]; exact hx
  refine ⟨ma, mn, mc, da, dn, dc, ea, en, ec, ms, c0, c1, c2, c3, c4, c5, c6, hf, hm.lies hk hM, hd.lies hk hM, hr.lies ?_, he, fun m hm => (ho m hm).lies hk hM, hp, hn, hx, hx4⟩
  intro g hg
  exact hk.block g (hr.lt g hg).2 (fun e => hn (by rw [hg, e]))

/-- all is old -/
def LogS.clean (L : LogS) : LogS := ⟨L.s, L.es, 0, false⟩

set_option maxHeartbeats 1000000 in
theorem clean_any (X : Nat → Prop) (base p : Nat) (L : LogS) (w : World) (h : IsL X w base p L) :
    Calls Tryz.prog 15 #[.pointer (some ⟨p, 0, none⟩)] w fun e w' => e = .returned (.tuple #[]) ∧ IsL X w' base p L.clean ∧ SPost 4 w p w' := by
  obtain ⟨ma, mn, mc, da, dn, dc, ea, en, ec, ms, c0, c1, c2, c3, c4, c5, c6, hf, hm, hd, hr, he, ho, hp, hn, hx, hx4⟩ := h
  have f5 := hf 5
  have f6 := hf 6
  have hk : Keeps (fun k => k = p) w ((w.setCell ⟨p, 5, none⟩ (.int .u64 0)).setCell ⟨p, 6, none⟩ (.bool false)) := ((Keeps.self _ w).also _).also _
  have HP := hide ((spost_set (w := w) (p := p) (i := 5) (by decide) (.int .u64 0)).trans (spost_set (p := p) (i := 6) (by decide) (.bool false)))
  have HL : Hid (IsL X ((w.setCell ⟨p, 5, none⟩ (.int .u64 0)).setCell ⟨p, 6, none⟩ (.bool false)) base p L.clean) := isL_again (L' := L.clean) hk
    (by rw [cell_set_off _ _ _ _ _ (by decide), cell_set_off _ _ _ _ _ (by decide)]; exact c0) (by rw [cell_set_off _ _ _ _ _ (by decide), cell_set_off _ _ _ _ _ (by decide)]; exact c1) (by rw [cell_set_off _ _ _ _ _ (by decide), cell_set_off _ _ _ _ _ (by decide)]; exact c2) (by rw [cell_set_off _ _ _ _ _ (by decide), cell_set_off _ _ _ _ _ (by decide)]; exact c3) (by rw [cell_set_off _ _ _ _ _ (by decide), cell_set_off _ _ _ _ _ (by decide)]; exact c4)
    (by rw [cell_set_off _ _ _ _ _ (by decide)]; exact World.cell?_setCell_same _ _ _ c5) (World.cell?_setCell_same _ _ _ ((cell_set_off _ _ _ _ _ (by decide)).trans c6)) (fun i => by simp [hf]) hm hd hr he ho hp hn hx hx4
  clear hf hm hd hr he ho hn hx hx4 hk
  go_enter Tryz.func15, Tryz.ntmps15
  go_wp2
  go_end0
  exact ⟨rfl, HL.out, HP.out⟩

/-- nothing but a draw -/
def Calm (w w' : World) : Prop := w' = w ∨ w' = w.drew

/-- the answer b says whether P holds -/
def Tells (b : Bool) (P : Prop) : Prop := b = true ↔ P

theorem tells_no {P : Prop} (h : ¬ P) : Tells false P := ⟨fun h => (by cases h), fun x => absurd x h⟩
theorem tells_yes {P : Prop} (h : P) : Tells true P := ⟨fun _ => h, fun _ => rfl⟩

/-- where the answer is true something was drawn -/
def Drawn (b : Bool) (w w' : World) : Prop := b = true → w' = w.drew

theorem drawn_no (w w' : World) : Drawn false w w' := fun h => (by cases h)
theorem drawn_yes (w : World) : Drawn true w w.drew := fun _ => rfl

/-- the entries es fit behind, or into, the log -/
def Fits (L : LogS) (es : List Ent) : Prop := L.s.i + 1 ≤ (es.getD 0 ent0).i ∧ (es.getD 0 ent0).i ≤ L.s.i + L.es.length + 1 ∧ ∀ j, j < es.length → (es.getD j ent0).i = (es.getD 0 ent0).i + j

theorem getD_map_e (ms : List MEnt) (j : Nat) : (ms.map MEnt.e).getD j ent0 = (ms.getD j ment0).e := by
  simp only [List.getD, List.getElem?_map]
  cases ms[j]? <;> rfl

set_option maxHeartbeats 2000000 in
theorem fit_any (p : Nat) (L : LogS) (a' : Option Addr) (n' c' : Nat) (X : Nat → Prop) (a : Option Addr) (len cap : Nat) (ms : List MEnt) (w : World) (c0 : w.cell? ⟨p, 0, none⟩ = some (.int .u64 L.s.i)) (c4 : w.cell? ⟨p, 4, none⟩ = some (.slice a' n' c')) (h0 : 0 ≤ L.s.i) (h1 : L.s.i ≤ 9000000000000000000) (hn : L.es.length = n') (hn' : n' ≤ 100000) (h : IsMs X w a len cap ms) (hl0 : 0 < len) (hl : len ≤ 100000) :
    Calls Tryz.prog 37 #[.pointer (some ⟨p, 0, none⟩), .slice a len cap] w fun e w' => ∃ b, e = .returned (.bool b) ∧ Tells b (Fits L (ms.map MEnt.e)) ∧ Calm w w' ∧ Drawn b w w' := by
  have H := hide h
  have hlen := h.1
  obtain ⟨g, off, rfl, hg, hC⟩ := h.at hl0
  have o0 := (h.2.2.2.1 _ (ment_mem ms 0 (by omega))).1.1
  obtain ⟨q0, -, -, -⟩ := hC 0 (by omega)
  rw [Nat.zero_mul, Nat.add_zero] at q0
  have HF : Hid (Fits L (ms.map MEnt.e) ↔ L.s.i + 1 ≤ (ms.getD 0 ment0).e.i ∧ (ms.getD 0 ment0).e.i ≤ L.s.i + n' + 1 ∧ ∀ j, j < len → (ms.getD j ment0).e.i = (ms.getD 0 ment0).e.i + j) := by
    show _ ↔ _
    unfold Fits
    rw [getD_map_e, hn, List.length_map, hlen]
    constructor
    · rintro ⟨x1, x2, x3⟩
      exact ⟨x1, x2, fun j hj => by rw [← getD_map_e ms j]; exact x3 j hj⟩
    · rintro ⟨x1, x2, x3⟩
      exact ⟨x1, x2, fun j hj => by rw [getD_map_e ms j]; exact x3 j hj⟩
  have HC := hide hC
  have hd := hn
  clear h hC
  generalize hv0 : (ms.getD 0 ment0).e.i = f at *
  have HV0 := hide hv0
  clear hv0
  by_cases g1 : f < L.s.i + 1
  · go_enter Tryz.func37, Tryz.ntmps37
    go_wp2_with (first
      | (go_at_call 33; refine (first_any p L.s.i _ c0 h0 h1).mono ?_; rintro e w' ⟨rfl, hw⟩; have hw := hw.symm; subst hw))
    go_ret
    exact ⟨false, rfl, tells_no (fun h => by have := (HF.out.1 h).1; omega), .inl rfl, drawn_no _ _⟩
  · have hk := kwrap_u64 (L.s.i + n' + 1) (by omega) (by omega)
    by_cases g2 : L.s.i + n' + 1 < f
    · go_enter Tryz.func37, Tryz.ntmps37
      go_wp2_with (first
        | (go_at_call 81; go_must (refine (last_any p L.s.i a' n' c' _ c0 c4 h0 h1 hn').mono ?_); rintro e w' ⟨rfl, hw⟩; have hw := hw.symm; subst hw)
        | (go_at_call 33; refine (first_any p L.s.i _ c0 h0 h1).mono ?_; rintro e w' ⟨rfl, hw⟩; have hw := hw.symm; subst hw))
      go_ret
      exact ⟨false, rfl, tells_no (fun h => by have := (HF.out.1 h).2.1; omega), .inr rfl, drawn_no _ _⟩
    · go_enter Tryz.func37, Tryz.ntmps37
      go_wp2_with (first
        | (go_at_call 81; go_must (refine (last_any p L.s.i a' n' c' _ c0 c4 h0 h1 hn').mono ?_); rintro e w' ⟨rfl, hw⟩; have hw := hw.symm; subst hw)
        | (go_at_call 33; refine (first_any p L.s.i _ c0 h0 h1).mono ?_; rintro e w' ⟨rfl, hw⟩; have hw := hw.symm; subst hw))
      go_loopw [24] (fun i wr => ∃ k : Nat, k ≤ len ∧ i = .int .i64 k ∧ (∀ j, j < k → (ms.getD j ment0).e.i = f + j) ∧ wr = w.drew) (fun i _ => len - (intOf i).toNat)
      case atStart => exact ⟨0, Nat.zero_le _, rfl, by intro j hj; omega, rfl⟩
      case round =>
        obtain ⟨k, hk', rfl, hdone, rfl⟩ := hrel
        have HDn := hide hdone
        clear hdone
        by_cases hlt : k < len
        · obtain ⟨qk, -, -, -⟩ := HC.out k (by omega)
          have hfk := kwrap_u64 (f + k) (by omega) (by omega)
          have hck := kwrap_u64 (k : Int) (by omega) (by omega)
          have HN := HDn.out
          have HK : Hid ((ms.getD k ment0).e.i = (ms.getD k ment0).e.i) := rfl
          generalize hvk : (ms.getD k ment0).e.i = fk at *
          have HVK := hide hvk
          clear hvk HN
          by_cases hfe : fk = f + k
          · have hbe : (fk == f + (k : Int)) = true := by simp [hfe]
            have hb2 : (fk != f + (k : Int)) = false := by simp [hfe]
            go_wp2
            go_roundw
            case rel => exact ⟨k + 1, by omega, by go_num, fun j hj => (by by_cases hjk : j = k; (subst hjk; rw [HVK.out, hfe]); exact HDn.out j (by omega)), (by first | rfl | trivial)⟩
            case measure => simp [intOf]; omega
          · have hb2 : (fk != f + (k : Int)) = true := by simp [hfe]
            go_wp2
            go_ret
            exact .inl ⟨rfl, tells_no (fun h => absurd ((HVK.out).symm.trans ((HF.out.1 h).2.2 k hlt)) hfe), .inr rfl, drawn_no _ _⟩
        · have hkl : k = len := by omega
          subst hkl
          go_wp2
          go_ret
          exact ⟨true, rfl, tells_yes (HF.out.2 ⟨by omega, by omega, HDn.out⟩), .inr rfl, drawn_yes _⟩

end Go.Proofs.YtodmieehdleohaaGreat

namespace Go.Proofs.YtodmieehdleohaaGreat
open Go.RowKit NumMath
set_option linter.unusedVariables false
set_option maxRecDepth 100000

open Classical in
/-- what Append answers, and what the log is then -/
noncomputable def appL (L : LogS) (es : List Ent) : Int × LogS :=
  if es = [] then (0, L) else if Fits L es then (0, ⟨L.s, L.es.take ((es.getD 0 ent0).i - (L.s.i + 1)).toNat ++ es, if L.dirty = 0 ∨ (es.getD 0 ent0).i < L.dirty then (es.getD 0 ent0).i else L.dirty, L.fresh⟩) else (80, L)

theorem appL_nil (L : LogS) : appL L [] = (0, L) := by unfold appL; rw [if_pos rfl]
theorem appL_no {L : LogS} {es : List Ent} (h0 : es ≠ []) (h : ¬ Fits L es) : appL L es = (80, L) := by unfold appL; rw [if_neg h0, if_neg h]
theorem appL_yes {L : LogS} {es : List Ent} (h0 : es ≠ []) (h : Fits L es) : appL L es = (0, ⟨L.s, L.es.take ((es.getD 0 ent0).i - (L.s.i + 1)).toNat ++ es, if L.dirty = 0 ∨ (es.getD 0 ent0).i < L.dirty then (es.getD 0 ent0).i else L.dirty, L.fresh⟩) := by unfold appL; rw [if_neg h0, if_pos h]

/-- a new list of entries, stored into the log -/
theorem isL_set4 {X : Nat → Prop} {w w1 : World} {base p : Nat} {L : LogS} {ma : Option Addr} {mn mc : Nat} {da : Option Addr} {dn dc : Nat} {v4 : Value} {a' : Option Addr} {n' c' : Nat} {ms' : List MEnt} (hk : Keeps (SB 4 w p) w w1) (hSX : ∀ k, SB 4 w p k → X k) (hlt : p < w.heap.size) (hp : base ≤ p)
    (c0 : w1.cell? ⟨p, 0, none⟩ = some (.int .u64 L.s.i)) (c1 : w1.cell? ⟨p, 1, none⟩ = some (.int .u64 L.s.t)) (c2 : w1.cell? ⟨p, 2, none⟩ = some (.slice ma mn mc)) (c3 : w1.cell? ⟨p, 3, none⟩ = some (.slice da dn dc)) (c4 : w1.cell? ⟨p, 4, none⟩ = some v4) (c5 : w1.cell? ⟨p, 5, none⟩ = some (.int .u64 L.dirty)) (c6 : w1.cell? ⟨p, 6, none⟩ = some (.bool L.fresh)) (hf : ∀ i, w1.frozen? ⟨p, i, none⟩ = false)
    (hm : NumX X w ma mn mc L.s.m) (hd : DatB X w da dn dc L.s.d) (hr : RowM w1 base (.slice a' n' c') ms') (hok : ∀ m ∈ ms', m.ok (fun k => X k ∨ (Value.slice a' n' c').ownBlock = some k) w1) (hat : ∀ k, (Value.slice a' n' c').ownBlock = some k → (SB 4 w p k ∧ k ≠ p) ∨ w.heap.size ≤ k) :
    IsL (fun k => X k ∨ SB 4 (w1.setCell ⟨p, 4, none⟩ (.slice a' n' c')) p k) (w1.setCell ⟨p, 4, none⟩ (.slice a' n' c')) base p ⟨L.s, ms'.map MEnt.e, L.dirty, L.fresh⟩ ∧ SPost 4 w p (w1.setCell ⟨p, 4, none⟩ (.slice a' n' c')) := by
  have hcell : (w1.setCell ⟨p, 4, none⟩ (.slice a' n' c')).cell? ⟨p, 4, none⟩ = some (.slice a' n' c') := World.cell?_setCell_same _ _ _ c4
  have hne : some p ≠ (Value.slice a' n' c').ownBlock := by
    intro e
    rcases hat p e.symm with h | h
    · exact h.2 rfl
    · omega
  have hSB : ∀ k, SB 4 (w1.setCell ⟨p, 4, none⟩ (.slice a' n' c')) p k ↔ k = p ∨ (Value.slice a' n' c').ownBlock = some k := by
    intro k
    constructor
    · rintro (h | ⟨v, hv, hb⟩)
      · exact .inl h
      · rw [hcell] at hv
        cases hv
        exact .inr hb
    · rintro (h | h)
      · exact .inl h
      · exact .inr ⟨_, hcell, h⟩
  have hk1 : Keeps (SB 4 w p) w (w1.setCell ⟨p, 4, none⟩ (.slice a' n' c')) := hk.thenSet SB.at _
  have hY : ∀ k, (X k ∨ SB 4 (w1.setCell ⟨p, 4, none⟩ (.slice a' n' c')) p k) → X k ∨ w.heap.size ≤ k := by
    rintro k (h | h)
    · exact .inl h
    · rcases (hSB k).1 h with rfl | h
      · exact .inl (hSX _ SB.at)
      · rcases hat k h with h | h
        · exact .inl (hSX _ h.1)
        · exact .inr h
  refine ⟨⟨ma, mn, mc, da, dn, dc, a', n', c', ms', (cell_set_off _ _ _ _ _ (by decide)).trans c0, (cell_set_off _ _ _ _ _ (by decide)).trans c1, (cell_set_off _ _ _ _ _ (by decide)).trans c2, (cell_set_off _ _ _ _ _ (by decide)).trans c3, hcell, (cell_set_off _ _ _ _ _ (by decide)).trans c5, (cell_set_off _ _ _ _ _ (by decide)).trans c6, fun i => by simp [hf], ?_, ?_, hr.lies ?_, rfl, ?_, hp, hne, .inr SB.at, fun k hk => .inr ((hSB k).2 (.inr hk))⟩, hk1, ?_⟩
  · exact (hm.more hY).lies hk1 (fun k h => .inl (hSX k h))
  · exact (hd.more hY).lies hk1 (fun k h => .inl (hSX k h))
  · intro g hg
    exact Below.heap_setCell _ _ _ _ (by intro e; subst e; exact hne hg.symm)
  · intro m hm
    have h1 : m.ok (fun k => X k ∨ SB 4 (w1.setCell ⟨p, 4, none⟩ (.slice a' n' c')) p k) w1 := (hok m hm).more (by
      rintro k (h | h)
      · exact .inl (.inl h)
      · rcases (hSB k).1 h with rfl | h
        · exact .inl (.inl (hSX _ SB.at))
        · exact .inl (.inr h))
    exact h1.lies (keeps_cell (g := p) (i := 4) (.slice a' n' c')) (fun k e => .inr (by rw [e]; exact SB.at))
  · intro k hk
    rcases (hSB k).1 hk with rfl | h
    · exact .inl SB.at
    · rcases hat k h with h | h
      · exact .inl h.1
      · exact .inr h

/-- from where on entries are new, stored -/
theorem isL_set5 {X : Nat → Prop} {w : World} {base p : Nat} {L : LogS} (h : IsL X w base p L) (y : Int) : IsL X (w.setCell ⟨p, 5, none⟩ (.int .u64 y)) base p ⟨L.s, L.es, y, L.fresh⟩ ∧ SPost 4 w p (w.setCell ⟨p, 5, none⟩ (.int .u64 y)) := by
  obtain ⟨ma, mn, mc, da, dn, dc, ea, en, ec, ms, c0, c1, c2, c3, c4, c5, c6, hf, hm, hd, hr, he, ho, hp, hn, hx, hx4⟩ := h
  exact ⟨isL_again (L' := ⟨L.s, L.es, y, L.fresh⟩) (keeps_cell _) ((cell_set_off _ _ _ _ _ (by decide)).trans c0) ((cell_set_off _ _ _ _ _ (by decide)).trans c1) ((cell_set_off _ _ _ _ _ (by decide)).trans c2) ((cell_set_off _ _ _ _ _ (by decide)).trans c3) ((cell_set_off _ _ _ _ _ (by decide)).trans c4) (World.cell?_setCell_same _ _ _ c5) ((cell_set_off _ _ _ _ _ (by decide)).trans c6) (fun i => by simp [hf]) hm hd hr he ho hp hn hx hx4, spost_set (by decide) _⟩

theorem sb_set5 {w : World} {p k : Nat} (v : Value) (h : SB 4 (w.setCell ⟨p, 5, none⟩ v) p k) : SB 4 w p k := by
  rcases h with rfl | ⟨u, hu, hb⟩
  · exact .inl rfl
  · rw [cell_set_off _ _ _ _ _ (by decide)] at hu
    exact .inr ⟨u, hu, hb⟩

theorem sb_set5' {w : World} {p k : Nat} (v : Value) (h : SB 4 w p k) : SB 4 (w.setCell ⟨p, 5, none⟩ v) p k := by
  rcases h with rfl | ⟨u, hu, hb⟩
  · exact .inl rfl
  · exact .inr ⟨u, (cell_set_off _ _ _ _ _ (by decide)).trans hu, hb⟩

theorem fit_yes (p : Nat) (L : LogS) (a' : Option Addr) (n' c' : Nat) (X : Nat → Prop) (a : Option Addr) (len cap : Nat) (ms : List MEnt) (w : World) (c0 : w.cell? ⟨p, 0, none⟩ = some (.int .u64 L.s.i)) (c4 : w.cell? ⟨p, 4, none⟩ = some (.slice a' n' c')) (h0 : 0 ≤ L.s.i) (h1 : L.s.i ≤ 9000000000000000000) (hn : L.es.length = n') (hn' : n' ≤ 100000) (h : IsMs X w a len cap ms) (hl0 : 0 < len) (hl : len ≤ 100000) (hF : Fits L (ms.map MEnt.e)) :
    Calls Tryz.prog 37 #[.pointer (some ⟨p, 0, none⟩), .slice a len cap] w fun e w' => e = .returned (.bool true) ∧ w' = w.drew := by
  refine (fit_any p L a' n' c' X a len cap ms w c0 c4 h0 h1 hn hn' h hl0 hl).mono ?_
  rintro e w' ⟨b, rfl, ht, hc, hd⟩
  have : b = true := ht.2 hF
  subst this
  exact ⟨rfl, hd rfl⟩

theorem fit_no (p : Nat) (L : LogS) (a' : Option Addr) (n' c' : Nat) (X : Nat → Prop) (a : Option Addr) (len cap : Nat) (ms : List MEnt) (w : World) (c0 : w.cell? ⟨p, 0, none⟩ = some (.int .u64 L.s.i)) (c4 : w.cell? ⟨p, 4, none⟩ = some (.slice a' n' c')) (h0 : 0 ≤ L.s.i) (h1 : L.s.i ≤ 9000000000000000000) (hn : L.es.length = n') (hn' : n' ≤ 100000) (h : IsMs X w a len cap ms) (hl0 : 0 < len) (hl : len ≤ 100000) (hF : ¬ Fits L (ms.map MEnt.e)) :
    Calls Tryz.prog 37 #[.pointer (some ⟨p, 0, none⟩), .slice a len cap] w fun e w' => e = .returned (.bool false) ∧ Below w.heap.size w w' := by
  refine (fit_any p L a' n' c' X a len cap ms w c0 c4 h0 h1 hn hn' h hl0 hl).mono ?_
  rintro e w' ⟨b, rfl, ht, hc, hd⟩
  have hb : b = false := by
    cases b with
    | false => rfl
    | true => exact absurd (ht.1 rfl) hF
  subst hb
  refine ⟨rfl, ?_⟩
  rcases hc with rfl | rfl
  · exact Below.refl _ _
  · exact (Below.refl _ _).drew

theorem app_fin1 {X : Nat → Prop} {w : World} {base p : Nat} {s : Snp} {E1 E2 : List Ent} {y d f : Int} {b : Bool} (h : IsL (fun k => X k ∨ SB 4 w p k) w base p ⟨s, E1, y, b⟩) (hE : E1 = E2) (hd : d = f) :
    IsL (fun k => X k ∨ SB 4 (w.setCell ⟨p, 5, none⟩ (.int .u64 f)) p k) (w.setCell ⟨p, 5, none⟩ (.int .u64 f)) base p ⟨s, E2, d, b⟩ := by
  subst hE hd
  exact (isL_set5 h d).1.more (fun k hk => .inl (hk.imp id (fun x => sb_set5 _ x))) (fun k hk => .inr hk)

theorem app_fin0 {X : Nat → Prop} {w : World} {base p : Nat} {s : Snp} {E1 E2 : List Ent} {y d : Int} {b : Bool} (h : IsL (fun k => X k ∨ SB 4 w p k) w base p ⟨s, E1, y, b⟩) (hE : E1 = E2) (hd : d = y) :
    IsL (fun k => X k ∨ SB 4 w p k) w base p ⟨s, E2, d, b⟩ := by
  subst hE hd
  exact h

theorem dirty_new {y f : Int} (h : y = 0 ∨ f < y) : (if y = 0 ∨ f < y then f else y) = f := if_pos h
theorem dirty_old {y f : Int} (h : y ≠ 0) (h' : y ≤ f) : (if y = 0 ∨ f < y then f else y) = y := if_neg (fun x => x.elim h (fun x => by omega))

theorem es_ne {ms : List MEnt} {len : Nat} (h : ms.length = len) (h0 : 0 < len) : ms.map MEnt.e ≠ [] := by
  intro e
  have := congrArg List.length e
  simp at this
  subst this
  simp at h
  omega

theorem Keeps.drw {M : Nat → Prop} {w w1 : World} (h : Keeps M w w1) : Keeps M w w1.drew := ⟨h.os, h.tape, h.output, h.size, h.block⟩

theorem Keeps.thenB {M : Nat → Prop} {w w1 w2 : World} {B : Nat} (h : Keeps M w w1) (hB : w.heap.size ≤ B) (hb : Below B w1 w2) : Keeps M w w2 :=
  ⟨hb.os.trans h.os, hb.tape.trans h.tape, hb.output.trans h.output, Nat.le_trans h.size hb.size, fun k hk hn => (hb.block k (Nat.lt_of_lt_of_le hk hB)).trans (h.block k hk hn)⟩

theorem Keeps.weaken {M N : Nat → Prop} {w w1 : World} (h : Keeps M w w1) (hMN : ∀ k, M k → N k) : Keeps N w w1 :=
  ⟨h.os, h.tape, h.output, h.size, fun k hk hn => h.block k hk (fun x => hn (hMN k x))⟩

theorem len_of_map {ms ms2 : List MEnt} {n : Nat} (h : ms2.map MEnt.e = ms.map MEnt.e) (hl : ms.length = n) : ms2.length = n := by
  have := congrArg List.length h
  simp at this
  omega

theorem below_none {w w' : World} (h : w.grownBy w' none) : Below w.heap.size w w' := (Below.refl _ _).grown h (Nat.le_refl _) (by intro k hk; cases hk)

/-- seven cells of a log -/
def Cells7 (w : World) (p : Nat) (v0 v1 v2 v3 v4 v5 v6 : Value) : Prop := w.cell? ⟨p, 0, none⟩ = some v0 ∧ w.cell? ⟨p, 1, none⟩ = some v1 ∧ w.cell? ⟨p, 2, none⟩ = some v2 ∧ w.cell? ⟨p, 3, none⟩ = some v3 ∧ w.cell? ⟨p, 4, none⟩ = some v4 ∧ w.cell? ⟨p, 5, none⟩ = some v5 ∧ w.cell? ⟨p, 6, none⟩ = some v6 ∧ ∀ i, w.frozen? ⟨p, i, none⟩ = false

theorem Cells7.same {w w' : World} {p : Nat} {v0 v1 v2 v3 v4 v5 v6 : Value} (h : Cells7 w p v0 v1 v2 v3 v4 v5 v6) (e : w'.heap[p]? = w.heap[p]?) : Cells7 w' p v0 v1 v2 v3 v4 v5 v6 := by
  have ce : ∀ i, w'.cell? ⟨p, i, none⟩ = w.cell? ⟨p, i, none⟩ := fun i => World.cell?_of_block (a := ⟨p, i, none⟩) e
  obtain ⟨h0, h1, h2, h3, h4, h5, h6, hf⟩ := h
  exact ⟨(ce 0).trans h0, (ce 1).trans h1, (ce 2).trans h2, (ce 3).trans h3, (ce 4).trans h4, (ce 5).trans h5, (ce 6).trans h6, fun i => (World.frozen?_of_block (a := ⟨p, i, none⟩) e).trans (hf i)⟩

theorem Cells7.set4 {w : World} {p : Nat} {v0 v1 v2 v3 v4 v5 v6 : Value} (h : Cells7 w p v0 v1 v2 v3 v4 v5 v6) (u : Value) : Cells7 (w.setCell ⟨p, 4, none⟩ u) p v0 v1 v2 v3 u v5 v6 := by
  obtain ⟨h0, h1, h2, h3, h4, h5, h6, hf⟩ := h
  exact ⟨(cell_set_off _ _ _ _ _ (by decide)).trans h0, (cell_set_off _ _ _ _ _ (by decide)).trans h1, (cell_set_off _ _ _ _ _ (by decide)).trans h2, (cell_set_off _ _ _ _ _ (by decide)).trans h3, World.cell?_setCell_same _ _ _ h4, (cell_set_off _ _ _ _ _ (by decide)).trans h5, (cell_set_off _ _ _ _ _ (by decide)).trans h6, fun i => by simp [hf]⟩

/-- the first ones -/
theorem cut0_any (g len cap m : Nat) (w : World) (hlc : len ≤ cap) (hm : m ≤ len) :
    Calls Tryz.prog 39 #[.slice (some ⟨g, 0, none⟩) len cap, .int .i64 0, .int .i64 (m : Int)] w fun e w' => e = .returned (.slice (some ⟨g, 0, none⟩) m m) ∧ w' = w := by
  have hcut := run_cutM3 (some ⟨g, 0, none⟩) len cap hlc 0 m m (Nat.le_refl _) (by omega) 0 (m : Int) (m : Int) rfl (by omega) (by omega)
  have e : (if 0 + m = 0 then (some ⟨g, 0, none⟩ : Option Addr) else (some ⟨g, 0, none⟩ : Option Addr).map (·.add (0 * 4))) = some ⟨g, 0, none⟩ := by
    split
    · rfl
    · simp [Addr.add]
  rw [e] at hcut
  go_enter Tryz.func39, Tryz.ntmps39
  go_wp2
  go_ret
  exact ⟨rfl, rfl⟩

theorem copyE_at (B : Nat) (a : Option Addr) (len cap : Nat) (ms : List MEnt) (w : World) (hB : w.heap.size = B) (h : IsMs (fun _ => False) w a len cap ms) (hbig : len ≤ 1000000) (hd : ∀ m ∈ ms, m.n ≤ 1000000) :
    Calls Tryz.prog 41 #[.slice a len cap] w fun e w' => ∃ b n c ms', e = .returned (.slice b n c) ∧ ms'.map MEnt.e = ms.map MEnt.e ∧ RowM w' B (.slice b n c) ms' ∧ (∀ m ∈ ms', m.ok (fun k => k < B ∨ (Value.slice b n c).ownBlock = some k) w') ∧ Below B w w' := by
  subst hB
  exact copyE_any a len cap ms w h hbig hd

set_option maxHeartbeats 1000000 in
theorem app_any (X : Nat → Prop) (base p : Nat) (L : LogS) (a : Option Addr) (len cap : Nat) (ms : List MEnt) (w : World) (h : IsL X w base p L) (hG : L.Good) (hE : IsMs (fun k => k = p) w a len cap ms) (ha : len = 0 ∨ ∀ y, a = some y → y.block ≠ p) (hl : len ≤ 10000) (hd : ∀ m ∈ ms, m.n ≤ 100000) (hL : L.es.length ≤ 50000) (hXlt : ∀ k, X k → k < w.heap.size) (hbase : base ≤ w.heap.size) :
    Calls Tryz.prog 13 #[.pointer (some ⟨p, 0, none⟩), .slice a len cap] w fun e w' => e = .returned (.int .i64 (appL L (ms.map MEnt.e)).1) ∧ IsL (fun k => X k ∨ SB 4 w' p k) w' base p (appL L (ms.map MEnt.e)).2 ∧ SPost 4 w p w' := by
  have H := hide h
  have HE := hide hE
  have hplt := h.at
  have hSX : Hid (∀ k, SB 4 w p k → X k) := fun k hk => (h.lt hk).2.2
  obtain ⟨ma, mn, mc, da, dn, dc, ea, en, ec, es, c0, c1, c2, c3, c4, c5, c6, hf, hm, hd', hr, he, ho, hp, hn, hx, hx4⟩ := h
  have hen := hr.len.1
  have hel : L.es.length = en := by rw [← he, List.length_map, hen]
  have i0 := hG.i0
  have i1 := hG.i1
  have hlen := hE.1
  by_cases hl0 : len = 0
  · subst hl0
    have hms : ms = [] := List.length_eq_zero_iff.1 hlen
    subst hms
    rw [List.map_nil, appL_nil]
    have HL := hide (H.out.more (Y := fun k => X k ∨ SB 4 w p k) (fun k hk => hk.elim .inl (fun h => .inl (hSX.out k h))) (fun k hk => .inr hk))
    clear hm hd' hr he ho hn hx hx4 hf hlen hE ha
    go_enter Tryz.func13, Tryz.ntmps13
    go_wp2
    go_ret
    exact ⟨rfl, HL.out, SPost.refl _ _ _⟩
  have hl0' : 0 < len := by omega
  have HNe := hide (es_ne hlen hl0')
  by_cases hF : Fits L (ms.map MEnt.e)
  · have hlz : ((len : Int) == 0) = false := by simp; omega
    have HFt := hide (fit_yes p L ea en ec _ a len cap ms w c0 c4 i0 i1 hel (by omega) HE.out hl0' (by omega) hF)
    obtain ⟨g0, off0, ha0, hg0, hC0⟩ := hE.at hl0'
    subst ha0
    obtain ⟨q0, -, -, -⟩ := hC0 0 (by omega)
    rw [Nat.zero_mul, Nat.add_zero] at q0
    have hgp : g0 ≠ p := by
      rcases ha with ha | ha
      · omega
      · exact ha _ rfl
    have HApp := hide (appL_yes HNe.out hF)
    have f1 := hF.1
    have f2 := hF.2.1
    rw [getD_map_e] at f1 f2
    rw [getD_map_e] at HApp
    generalize hv0 : (ms.getD 0 ment0).e.i = f at *
    obtain ⟨k0, hk0⟩ : ∃ k0 : Nat, f = L.s.i + 1 + k0 := ⟨(f - (L.s.i + 1)).toNat, by omega⟩
    have hkn : (f - (L.s.i + 1)).toNat = k0 := by omega
    rw [hkn] at HApp
    have hke : k0 ≤ en := by omega
    have HEW : Hid (∀ W, Keeps (fun k => k = p) w W → IsMs (fun _ => False) W (some ⟨g0, off0, none⟩) len cap ms) := fun W hk => (HE.out.lies hk (fun _ h => h) ha).more (fun k hk => hk.elim)
    have HDM : Hid (∀ m ∈ ms, m.n ≤ 1000000) := fun m hm => by have := hd m hm; omega
    have HAt := hide (fun (W : World) (hW : W.cell? ⟨p, 0, none⟩ = some (.int .u64 L.s.i)) => at_any p L.s.i f k0 W hW i0 i1 (by omega) hk0)
    have HF := hide hf
    have HM := hide hm
    have HD := hide hd'
    have HR := hide hr
    have HO := hide ho
    have HN := hide hn
    have HX4 := hide hx4
    have HEs := hide he
    have hf4 := hf 4
    have hf5 := hf 5
    have HK0 := hide hk0
    have HLn := hide hlen
    have HEl := hide hel
    have HEn := hide hen
    clear hm hd' hr ho hn hx4 hf hlen hE ha hC0 hd hv0 he hF hkn f1 f2
    by_cases hlt : k0 < en
    · obtain ⟨g, hga, hg1, hg2, hcell, hfr⟩ := HR.out.row (by omega)
      subst hga
      have HHas := hide (fun (W : World) (h1 : W.cell? ⟨p, 0, none⟩ = some (.int .u64 L.s.i)) (h2 : W.cell? ⟨p, 4, none⟩ = some (.slice (some ⟨g, 0, none⟩) en ec)) => has_in p L.s.i f (some ⟨g, 0, none⟩) en ec true W h1 h2 i0 i1 (by omega) (by omega) (decide_eq_true (by omega)))
      have HCut := hide (fun (W : World) => cut0_any g en ec k0 W HR.out.len.2.1 hke)
      have HCells : Hid (∀ W, Keeps (fun k => k = p) w W → CellsM W g 0 (es.take k0)) := by
        intro W hk i hi
        rw [List.length_take] at hi
        have h3 := (hcell i (by omega)).same (hk.block g hg2 (fun e => HN.out (by rw [← e]; rfl)))
        rw [Nat.zero_add]
        have e3 : (es.take k0).getD i ment0 = es.getD i ment0 := by simp [List.getD, show i < k0 by omega]
        rw [e3]
        exact h3
      have HTl : Hid ((es.take k0).length = k0) := by show _ = _; rw [List.length_take, hen]; omega
      have HK4 : Hid (Keeps (fun k => k = p) w (w.setCell ⟨p, 4, none⟩ (.slice (some ⟨g, 0, none⟩) k0 k0))) := keeps_cell _
      have H74 : Hid (Cells7 (w.setCell ⟨p, 4, none⟩ (.slice (some ⟨g, 0, none⟩) k0 k0)) p _ _ _ _ _ _ _) := Cells7.set4 ⟨c0, c1, c2, c3, c4, c5, c6, HF.out⟩ _
      obtain ⟨z, y, hz, hy⟩ : ∃ z y : Bool, (L.dirty == 0) = z ∧ decide (f < L.dirty) = y := ⟨_, _, rfl, rfl⟩
      have hen5 : en ≤ 50000 := by omega
      clear hcell hfr hk0 hel hen
      go_enter Tryz.func13, Tryz.ntmps13
      go_wp2_with (first
        | (go_at_call 36; refine (orE_any p _).mono ?_; rintro e w' ⟨rfl, hw⟩; have hw := hw.symm; subst hw)
        | (go_at_call 37; refine HFt.out.mono ?_; rintro e w' ⟨rfl, hw⟩; have hw := hw.symm; subst hw)
        | (go_at_call 38; go_must (refine (HHas.out _ (by exact c0) (by exact c4)).mono ?_); rintro e w' ⟨rfl, hw⟩; have hw := hw.symm; subst hw))
      go_region_with (first
        | (go_at_call 40; refine (HAt.out _ (by exact c0)).mono ?_; rintro e w' ⟨rfl, hw⟩; have hw := hw.symm; subst hw)
        | (go_at_call 39; refine (HCut.out _).mono ?_; rintro e w' ⟨rfl, hw⟩; have hw := hw.symm; subst hw))
      all_goals
        go_wp2_with fail
        go_region_law (first
          | (refine step_growM _ (by rfl) (.tmp 37) (.tmp 39) (by rfl) g 0 k0 (es.take k0) (by rfl) HTl.out HC2.out b2 n2 c2 ms2 (by rfl) HS2.out hn2 HBg.out ?_; intro v3 w3 hrow3 hg3; obtain ⟨a3, n3, d3, rfl⟩ := hrow3.any3; have HR3 := hide hrow3; have HG3 := hide hg3; have H73 := hide (H72.out.same (hg3.block p (Nat.lt_of_lt_of_le hplt HKW2.out.size) (by intro h; cases h))); obtain ⟨x0, x1, x2, x3, c43, c53, x6, xf⟩ := H73.out; have f43 := xf 4; have f53 := xf 5; clear hrow3 hg3 x0 x1 x2 x3 x6 xf)
          | (go_simp; go_at_call 41; go_must (refine (copyE_at w.heap.size (some ⟨g0, off0, none⟩) len cap ms _ (by simp [World.setCell]) (HEW.out _ (by exact HK4.out.drw.drw.drw.drw)) (by omega) HDM.out).mono ?_); rintro e w2 ⟨b2, n2, c2, ms2, rfl, hE2, hrow2, hok2, hb2⟩; have HE2 := hide hE2; have HR2 := hide hrow2; have HO2 := hide hok2; have hl2 := hrow2.len.1; have hn2 : 0 < n2 := (by rw [← hl2, len_of_map hE2 HLn.out]; exact hl0'); have HS2 := hide (hrow2.is hok2).src; have HKW2 := hide (HK4.out.drw.drw.drw.drw.thenB (Nat.le_refl _) hb2); have HC2 := hide (HCells.out _ HKW2.out); have H72 := hide ((H74.out.same (w' := (w.setCell ⟨p, 4, none⟩ (.slice (some ⟨g, 0, none⟩) k0 k0)).drew.drew.drew.drew) rfl).same (hb2.block p hplt)); have HBg : Hid ((es.take k0).length + ms2.length ≤ 1000000000) := (by show _ ≤ _; rw [HTl.out, len_of_map hE2 HLn.out]; omega); have c42 := H72.out.2.2.2.2.1; clear hE2 hrow2 hok2 hb2 hl2))
        all_goals
          have hat3 : ∀ k, (Value.slice a3 n3 d3).ownBlock = some k → w.heap.size ≤ k := fun k hk => Nat.le_trans HKW2.out.size (HR3.out.lt k hk).1
          have hb3 : Below w2.heap.size w2 w3 := below_none HG3.out
          have hkw3 : Keeps (fun k => k = p) w w3 := HKW2.out.thenB HKW2.out.size hb3
          have hok3 : ∀ m ∈ es.take k0 ++ ms2, m.ok (fun k => X k ∨ (Value.slice a3 n3 d3).ownBlock = some k) w3 := by
            intro m hm
            rcases List.mem_append.1 hm with hm | hm
            · refine MEnt.ok.keep (MEnt.ok.more (X := X) ((HO.out m (List.mem_of_mem_take hm)).lies HKW2.out (fun k e => by rw [e]; exact hx)) ?_) hb3
              rintro k (hk | hk)
              · exact .inl hk
              · exact .inr (HR3.out.lt k hk).1
            · refine MEnt.ok.keep (MEnt.ok.more (HO2.out m hm) ?_) hb3
              rintro k (hk | hk)
              · exact .inl (.inl (hXlt k hk))
              · exact .inr (HR3.out.lt k hk).1
          obtain ⟨x0, x1, x2, x3, x4, x5, x6, xf⟩ := H73.out
          have HP := hide (isL_set4 (X := X) (w := w) (w1 := w3) (base := base) (L := L) (hkw3.weaken (fun k e => by rw [e]; exact SB.at)) hSX.out hplt hp x0 x1 x2 x3 x4 x5 x6 xf HM.out HD.out (HR3.out.mono (Nat.le_trans hbase HKW2.out.size)) hok3 (fun k hk => .inr (hat3 k hk)))
          have HQ := hide (isL_set5 HP.out.1 f)
          have HEq : Hid ((es.take k0 ++ ms2).map MEnt.e = L.es.take k0 ++ ms.map MEnt.e) := by show _ = _; rw [List.map_append, HE2.out, List.map_take, HEs.out]
          clear hok3 hb3 hkw3 x0 x1 x2 x3 x4 x5 x6 xf
          cases z
          · cases y
            · have hdo := dirty_old (y := L.dirty) (f := f) (by simp at hz; exact hz) (by simp at hy; exact hy)
              have HL := hide (app_fin0 HP.out.1 HEq.out hdo)
              clear hdo
              go_wp2
              go_ret
              rw [HApp.out]
              exact ⟨rfl, HL.out, HP.out.2⟩
            · have hdo := dirty_new (y := L.dirty) (f := f) (by simp at hy; exact .inr hy)
              have HL := hide (app_fin1 HP.out.1 HEq.out hdo)
              clear hdo
              go_wp2
              go_ret
              rw [HApp.out]
              exact ⟨rfl, HL.out, HP.out.2.trans HQ.out.2⟩
          · have hdo := dirty_new (y := L.dirty) (f := f) (by simp at hz; exact .inl hz)
            have HL := hide (app_fin1 HP.out.1 HEq.out hdo)
            clear hdo
            go_wp2
            go_ret
            rw [HApp.out]
            exact ⟨rfl, HL.out, HP.out.2.trans HQ.out.2⟩
    · have hke2 : k0 = en := by omega
      have HHas := hide (fun (W : World) (h1 : W.cell? ⟨p, 0, none⟩ = some (.int .u64 L.s.i)) (h2 : W.cell? ⟨p, 4, none⟩ = some (.slice ea en ec)) => has_in p L.s.i f ea en ec false W h1 h2 i0 i1 (by omega) (by omega) (decide_eq_false (by omega)))
      have H70 : Hid (Cells7 w p _ _ _ _ _ _ _) := ⟨c0, c1, c2, c3, c4, c5, c6, HF.out⟩
      have HTk : Hid (L.es.take k0 = L.es) := List.take_of_length_le (by omega)
      obtain ⟨z, y, hz, hy⟩ : ∃ z y : Bool, (L.dirty == 0) = z ∧ decide (f < L.dirty) = y := ⟨_, _, rfl, rfl⟩
      have hen5 : en ≤ 50000 := by omega
      have HB0 : Hid (Below w.heap.size w w.drew.drew.drew) := (((Below.refl _ _).drew).drew).drew
      clear hk0 hel hen hke2 hlt hke
      go_enter Tryz.func13, Tryz.ntmps13
      go_wp2_with (first
        | (go_at_call 36; refine (orE_any p _).mono ?_; rintro e w' ⟨rfl, hw⟩; have hw := hw.symm; subst hw)
        | (go_at_call 37; refine HFt.out.mono ?_; rintro e w' ⟨rfl, hw⟩; have hw := hw.symm; subst hw)
        | (go_at_call 38; go_must (refine (HHas.out _ (by exact c0) (by exact c4)).mono ?_); rintro e w' ⟨rfl, hw⟩; have hw := hw.symm; subst hw))
      go_region_law (first
        | (refine step_joinM _ (by rfl) (.tmp 37) (.tmp 39) (by rfl) base _ es (by rfl) HRw2.out b2 n2 c2 ms2 (by rfl) HS2.out HBg.out HBs.out ?_; intro v3 w3 hrow3 hg3 hat3; obtain ⟨a3, n3, d3, rfl⟩ := hrow3.any3; have HR3 := hide hrow3; have HG3 := hide hg3; have HA3 := hide hat3; have H73 := hide (H72.out.same (hg3.block p (Nat.lt_of_lt_of_le hplt HBW2.out.size) HN.out)); obtain ⟨x0, x1, x2, x3, c43, c53, x6, xf⟩ := H73.out; have f43 := xf 4; have f53 := xf 5; clear hrow3 hg3 hat3 x0 x1 x2 x3 x6 xf)
        | (go_simp; go_at_call 41; go_must (refine (copyE_at w.heap.size (some ⟨g0, off0, none⟩) len cap ms _ (by rfl) (HEW.out _ (by exact (Keeps.self _ w).drw.drw.drw)) (by omega) HDM.out).mono ?_); rintro e w2 ⟨b2, n2, c2, ms2, rfl, hE2, hrow2, hok2, hb2⟩; have HE2 := hide hE2; have HR2 := hide hrow2; have HO2 := hide hok2; have hl2 := hrow2.len.1; have HS2 := hide (hrow2.is hok2).src; have HBW2 := hide (HB0.out.trans hb2); have HRw2 := hide (HR.out.keep HBW2.out); have HBs := hide (Nat.le_trans hbase HBW2.out.size); have H72 := hide (H70.out.same (HBW2.out.block p hplt)); have HBg : Hid (es.length + ms2.length ≤ 1000000000) := (by show _ ≤ _; rw [HEn.out, len_of_map hE2 HLn.out]; omega); have c42 := H72.out.2.2.2.2.1; clear hE2 hrow2 hok2 hb2 hl2))
      all_goals
          have hSBe : ∀ k, (Value.slice ea en ec).ownBlock = some k → SB 4 w p k := fun k hk => .inr ⟨_, c4, hk⟩
          have hoff : ∀ k, (Value.slice ea en ec).ownBlock = some k → k < w.heap.size := fun k hk => (HR.out.lt k hk).2
          have hat4 : ∀ k, (Value.slice a3 n3 d3).ownBlock = some k → (Value.slice ea en ec).ownBlock = some k ∨ w2.heap.size ≤ k := by
            intro k hk
            rcases HA3.out with h | ⟨g', h, hle⟩
            · rw [h] at hk; exact .inl hk
            · rw [h] at hk; cases hk; exact .inr hle
          have hk23 : Keeps (fun k => (Value.slice ea en ec).ownBlock = some k) w2 w3 := ⟨HG3.out.os, HG3.out.tape, HG3.out.output, HG3.out.size, fun k hk hn => HG3.out.block k hk (fun e => hn e.symm)⟩
          have hkw3 : Keeps (SB 4 w p) w w3 := ⟨hk23.os.trans HBW2.out.os, hk23.tape.trans HBW2.out.tape, hk23.output.trans HBW2.out.output, Nat.le_trans HBW2.out.size hk23.size, fun k hk hn => (hk23.block k (Nat.lt_of_lt_of_le hk HBW2.out.size) (fun e => hn (hSBe k e))).trans (HBW2.out.block k hk)⟩
          have hok3 : ∀ m ∈ es ++ ms2, m.ok (fun k => X k ∨ (Value.slice a3 n3 d3).ownBlock = some k) w3 := by
            intro m hm
            rcases List.mem_append.1 hm with hm | hm
            · refine MEnt.ok.lies (MEnt.ok.more (X := X) ((HO.out m hm).keep HBW2.out) ?_) hk23 (fun k hk => .inl (HX4.out k hk))
              rintro k (hk | hk)
              · exact .inl hk
              · exact (hat4 k hk).imp (fun h => HX4.out k h) id
            · refine MEnt.ok.lies (MEnt.ok.more (HO2.out m hm) ?_) hk23 (fun k hk => .inl (HX4.out k hk))
              rintro k (hk | hk)
              · exact .inl (.inl (hXlt k hk))
              · exact (hat4 k hk).imp (fun h => .inl (hoff k h)) id
          obtain ⟨x0, x1, x2, x3, x4, x5, x6, xf⟩ := H73.out
          have HP := hide (isL_set4 (X := X) (w := w) (w1 := w3) (base := base) (L := L) hkw3 hSX.out hplt hp x0 x1 x2 x3 x4 x5 x6 xf HM.out HD.out HR3.out hok3 (fun k hk => (hat4 k hk).imp (fun h => ⟨hSBe k h, fun e => HN.out (by rw [← e]; exact h.symm)⟩) (fun h => Nat.le_trans HBW2.out.size h)))
          have HQ := hide (isL_set5 HP.out.1 f)
          have HEq : Hid ((es ++ ms2).map MEnt.e = L.es.take k0 ++ ms.map MEnt.e) := by show _ = _; rw [List.map_append, HE2.out, HEs.out, HTk.out]
          clear hok3 hk23 hkw3 hat4 hoff hSBe x0 x1 x2 x3 x4 x5 x6 xf
          cases z
          · cases y
            · have hdo := dirty_old (y := L.dirty) (f := f) (by simp at hz; exact hz) (by simp at hy; exact hy)
              have HL := hide (app_fin0 HP.out.1 HEq.out hdo)
              clear hdo
              go_wp2
              go_ret
              rw [HApp.out]
              exact ⟨rfl, HL.out, HP.out.2⟩
            · have hdo := dirty_new (y := L.dirty) (f := f) (by simp at hy; exact .inr hy)
              have HL := hide (app_fin1 HP.out.1 HEq.out hdo)
              clear hdo
              go_wp2
              go_ret
              rw [HApp.out]
              exact ⟨rfl, HL.out, HP.out.2.trans HQ.out.2⟩
          · have hdo := dirty_new (y := L.dirty) (f := f) (by simp at hz; exact .inl hz)
            have HL := hide (app_fin1 HP.out.1 HEq.out hdo)
            clear hdo
            go_wp2
            go_ret
            rw [HApp.out]
            exact ⟨rfl, HL.out, HP.out.2.trans HQ.out.2⟩
  · rw [appL_no HNe.out hF]
    have HF := hide (fit_no p L ea en ec _ a len cap ms w c0 c4 i0 i1 hel (by omega) HE.out hl0' (by omega) hF)
    have hlz : ((len : Int) == 0) = false := by simp; omega
    clear hm hd' hr he ho hn hx hx4 hf hlen hE ha hF
    go_enter Tryz.func13, Tryz.ntmps13
    go_wp2_with (first
      | (go_at_call 36; refine (orE_any p _).mono ?_; rintro e w' ⟨rfl, hw⟩; have hw := hw.symm; subst hw)
      | (go_at_call 37; refine HF.out.mono ?_; rintro e w1 ⟨rfl, hb1⟩))
    go_ret
    refine ⟨rfl, (H.out.keep hb1).more (fun k hk => hk.elim .inl (fun h => .inl (hSX.out k (h.same (hb1.block p hplt))))) (fun k hk => .inr hk), SPost.of_below hplt hb1⟩

end Go.Proofs.YtodmieehdleohaaGreat

namespace Go.Proofs.YtodmieehdleohaaGreat
open Go.RowKit NumMath
set_option linter.unusedVariables false
set_option maxRecDepth 100000

/-- what Entries tells -/
def entsL (L : LogS) (x : Int) (most : Int) : List Ent := if x < L.s.i + 1 ∨ L.s.i + L.es.length < x ∨ most < 1 then [] else (L.es.drop (x - (L.s.i + 1)).toNat).take most.toNat

theorem entsL_no {L : LogS} {x most : Int} (h : x < L.s.i + 1 ∨ L.s.i + L.es.length < x ∨ most < 1) : entsL L x most = [] := by unfold entsL; rw [if_pos h]
theorem entsL_yes {L : LogS} {x most : Int} (h : ¬ (x < L.s.i + 1 ∨ L.s.i + L.es.length < x ∨ most < 1)) : entsL L x most = (L.es.drop (x - (L.s.i + 1)).toNat).take most.toNat := by unfold entsL; rw [if_neg h]

theorem cutE_at (X : Nat → Prop) (a : Option Addr) (len cap : Nat) (ms : List MEnt) (l n : Nat) (x : Int) (w : World) (h : IsMs X w a len cap ms) (hm : l + n ≤ len) (hx : x = ((l + n : Nat) : Int)) :
    Calls Tryz.prog 39 #[.slice a len cap, .int .i64 (l : Int), .int .i64 x] w fun e w' => ∃ b, e = .returned (.slice b n n) ∧ IsMs X w b n n ((ms.drop l).take n) ∧ w' = w := by
  subst hx
  refine (cutE_any X a len cap ms l (l + n) w h (by omega) hm).mono ?_
  rintro e w' ⟨b, rfl, hI, -, rfl⟩
  rw [Nat.add_sub_cancel_left] at hI ⊢
  exact ⟨b, rfl, hI, rfl⟩

/-- what a list of entries that a call hands out is -/
def OutE (w : World) (E : List Ent) (e : Ending) (w' : World) : Prop := ∃ b n c ms', e = .returned (.slice b n c) ∧ ms'.map MEnt.e = E ∧ RowM w' w.heap.size (.slice b n c) ms' ∧ (∀ m ∈ ms', m.ok (fun k => k < w.heap.size ∨ (Value.slice b n c).ownBlock = some k) w') ∧ Below w.heap.size w w'

theorem outE_nil {w w' : World} (hb : Below w.heap.size w w') : OutE w [] (.returned (.slice none 0 0)) w' := ⟨none, 0, 0, [], rfl, rfl, rowM_nil _ _, by simp, hb⟩

set_option maxHeartbeats 2000000 in
theorem ents_any (X : Nat → Prop) (base p : Nat) (L : LogS) (x most : Int) (w : World) (h : IsL X w base p L) (hG : L.Good) (hx0 : 0 ≤ x) (hm1 : -9223372036854775808 ≤ most) (hm2 : most ≤ 9223372036854775807) :
    Calls Tryz.prog 32 #[.pointer (some ⟨p, 0, none⟩), .int .u64 x, .int .i64 most] w fun e w' => OutE w (entsL L x most) e w' := by
  have hplt := h.at
  obtain ⟨ma, mn, mc, da, dn, dc, ea, en, ec, es, c0, c1, c2, c3, c4, c5, c6, hf, hm, hd', hr, he, ho, hp, hn, hx, hx4⟩ := h
  have hen := hr.len.1
  have hel : L.es.length = en := by rw [← he, List.length_map, hen]
  have i0 := hG.i0
  have i1 := hG.i1
  have hn5 : en ≤ 100000 := by have := hG.n; omega
  have HI := hide (hr.is ho)
  have HEs := hide he
  have HOk := hide hG.ok
  clear hm hd' hr he ho hn hx hx4 hf hp c1 c2 c3 c5 c6 hG
  by_cases g1 : x < L.s.i + 1
  · rw [entsL_no (.inl g1)]
    go_enter Tryz.func32, Tryz.ntmps32
    go_wp2_with (first
      | (go_at_call 36; refine (orE_any p _).mono ?_; rintro e w' ⟨rfl, hw⟩; have hw := hw.symm; subst hw)
      | (go_at_call 38; go_must (refine (has_low p L.s.i x _ c0 i0 i1 g1).mono ?_); rintro e w' ⟨rfl, hw⟩; have hw := hw.symm; subst hw))
    go_ret
    exact outE_nil (Below.refl _ _)
  by_cases g2 : L.s.i + L.es.length < x
  · rw [entsL_no (.inr (.inl g2))]
    have HH := hide (has_in p L.s.i x ea en ec false w c0 c4 i0 i1 hn5 (by omega) (decide_eq_false (by omega)))
    clear hel
    go_enter Tryz.func32, Tryz.ntmps32
    go_wp2_with (first
      | (go_at_call 36; refine (orE_any p _).mono ?_; rintro e w' ⟨rfl, hw⟩; have hw := hw.symm; subst hw)
      | (go_at_call 38; go_must (refine HH.out.mono ?_); rintro e w' ⟨rfl, hw⟩; have hw := hw.symm; subst hw))
    go_ret
    exact outE_nil (Below.refl _ _).drew
  have HH := hide (has_in p L.s.i x ea en ec true w c0 c4 i0 i1 hn5 (by omega) (decide_eq_true (by omega)))
  by_cases g3 : most < 1
  · rw [entsL_no (.inr (.inr g3))]
    clear hel
    go_enter Tryz.func32, Tryz.ntmps32
    go_wp2_with (first
      | (go_at_call 36; refine (orE_any p _).mono ?_; rintro e w' ⟨rfl, hw⟩; have hw := hw.symm; subst hw)
      | (go_at_call 38; go_must (refine HH.out.mono ?_); rintro e w' ⟨rfl, hw⟩; have hw := hw.symm; subst hw))
    go_ret
    exact outE_nil (Below.refl _ _).drew
  have HEnt := hide (entsL_yes (L := L) (x := x) (most := most) (by omega))
  obtain ⟨k, hk⟩ : ∃ k : Nat, x = L.s.i + 1 + k := ⟨(x - (L.s.i + 1)).toNat, by omega⟩
  have hkn : (x - (L.s.i + 1)).toNat = k := by omega
  rw [hkn] at HEnt
  have hke : k < en := by omega
  have HAt := hide (fun (W : World) (hW : W.cell? ⟨p, 0, none⟩ = some (.int .u64 L.s.i)) => at_any p L.s.i x k W hW i0 i1 (by omega) hk)
  obtain ⟨q, hq⟩ : ∃ q : Nat, most = (q : Int) := ⟨most.toNat, by omega⟩
  subst hq
  rw [Int.toNat_natCast] at HEnt
  have hdk : ((k : Int) ≤ en) := by omega
  have HDs : Hid (∀ (j : Nat) m, m ∈ (es.drop k).take j → m.n ≤ 1000000) := fun j m hm => by
    have h1 : m ∈ es := List.mem_of_mem_drop (List.mem_of_mem_take hm)
    have h2 := (HOk.out m.e (by rw [← HEs.out]; exact List.mem_map_of_mem h1)).2
    have h3 := (HI.out.2.2.2.1 m h1).2.1.1
    omega
  have w1 : IntKind.i64.wrap ((en : Int) - (k : Int)) = (en : Int) - (k : Int) := by simp [IntKind.wrap, IntKind.bits, IntKind.signed]; omega
  obtain ⟨j, hj⟩ : ∃ j, j = min (en - k) q := ⟨_, rfl⟩
  have HTk : Hid (((es.drop k).take j).map MEnt.e = (L.es.drop k).take q) := by
    show _ = _
    rw [List.map_take, List.map_drop, HEs.out, hj]
    by_cases g4 : q ≤ en - k
    · rw [Nat.min_eq_right g4]
    · rw [Nat.min_eq_left (by omega), List.take_of_length_le (by rw [List.length_drop, hel]; omega), List.take_of_length_le (by rw [List.length_drop, hel]; omega)]
  have hj5 : j ≤ 100000 := by omega
  by_cases g4 : (en : Int) - (k : Int) < (q : Int)
  · have hA : (IntKind.i64.wrap ((en : Int) - (k : Int)) < (q : Int)) = True := by rw [w1]; exact eq_true g4
    have w2 : IntKind.i64.wrap ((k : Int) + IntKind.i64.wrap ((en : Int) - (k : Int))) = ((k + j : Nat) : Int) := by
      rw [w1]
      simp [IntKind.wrap, IntKind.bits, IntKind.signed]; omega
    have HCut := hide (fun (W : World) (hW : Below w.heap.size w W) => cutE_at X ea en ec es k j _ W (HI.out.keep hW) (by omega) w2)
    clear hel hen hk hkn hm1 g1 g2 w1 w2 hj g4
    go_enter Tryz.func32, Tryz.ntmps32
    go_wp2_with (first
      | (go_at_call 36; refine (orE_any p _).mono ?_; rintro e w' ⟨rfl, hw⟩; have hw := hw.symm; subst hw)
      | (go_at_call 40; refine (HAt.out _ (by exact c0)).mono ?_; rintro e w' ⟨rfl, hw⟩; have hw := hw.symm; subst hw)
      | (go_at_call 38; go_must (refine HH.out.mono ?_); rintro e w' ⟨rfl, hw⟩; have hw := hw.symm; subst hw))
    go_region_held (fun w' => w'.cell? ⟨p, 4, none⟩ = some (.slice ea en ec)) (first | go_keep | exact c4 | exact c47) (first
      | (go_at_call 41; go_must (refine (copyE_at w.heap.size b6 j j _ _ (by rfl) (HI6.out.more (fun k hk => hk.elim)) (by omega) (HDs.out _)).mono ?_); rintro e w7 ⟨b7, n7, c7, ms7, rfl, hE7, hrow7, hok7, hb7⟩; have c47 := (hb7.cell (p := ⟨p, 4, none⟩) hplt).trans c4; have HE7 := hide hE7; have HR7 := hide hrow7; have HO7 := hide hok7; have HB7 := hide hb7; clear hE7 hrow7 hok7 hb7)
      | (go_at_call 39; go_must (refine (HCut.out _ (by exact ((Below.refl _ w).drew).drew)).mono ?_); rintro e w6 ⟨b6, rfl, hI6, hw⟩; have hw := hw.symm; subst hw; have HI6 := hide hI6; clear hI6))
    all_goals
      go_wp2
      go_ret
      rw [HEnt.out]
      exact ⟨b7, n7, c7, ms7, rfl, HE7.out.trans HTk.out, HR7.out, HO7.out, (((Below.refl _ w).drew).drew).trans HB7.out⟩
  · have hA : (IntKind.i64.wrap ((en : Int) - (k : Int)) < (q : Int)) = False := by rw [w1]; exact eq_false g4
    have w2 : IntKind.i64.wrap ((k : Int) + (q : Int)) = ((k + j : Nat) : Int) := by
      simp [IntKind.wrap, IntKind.bits, IntKind.signed]; omega
    have HCut := hide (fun (W : World) (hW : Below w.heap.size w W) => cutE_at X ea en ec es k j _ W (HI.out.keep hW) (by omega) w2)
    clear hel hen hk hkn hm1 g1 g2 w1 w2 hj g4
    go_enter Tryz.func32, Tryz.ntmps32
    go_wp2_with (first
      | (go_at_call 36; refine (orE_any p _).mono ?_; rintro e w' ⟨rfl, hw⟩; have hw := hw.symm; subst hw)
      | (go_at_call 40; refine (HAt.out _ (by exact c0)).mono ?_; rintro e w' ⟨rfl, hw⟩; have hw := hw.symm; subst hw)
      | (go_at_call 38; go_must (refine HH.out.mono ?_); rintro e w' ⟨rfl, hw⟩; have hw := hw.symm; subst hw))
    go_region_held (fun w' => w'.cell? ⟨p, 4, none⟩ = some (.slice ea en ec)) (first | go_keep | exact c4 | exact c47) (first
      | (go_at_call 41; go_must (refine (copyE_at w.heap.size b6 j j _ _ (by rfl) (HI6.out.more (fun k hk => hk.elim)) (by omega) (HDs.out _)).mono ?_); rintro e w7 ⟨b7, n7, c7, ms7, rfl, hE7, hrow7, hok7, hb7⟩; have c47 := (hb7.cell (p := ⟨p, 4, none⟩) hplt).trans c4; have HE7 := hide hE7; have HR7 := hide hrow7; have HO7 := hide hok7; have HB7 := hide hb7; clear hE7 hrow7 hok7 hb7)
      | (go_at_call 39; go_must (refine (HCut.out _ (by exact ((Below.refl _ w).drew).drew)).mono ?_); rintro e w6 ⟨b6, rfl, hI6, hw⟩; have hw := hw.symm; subst hw; have HI6 := hide hI6; clear hI6))
    all_goals
      go_wp2
      go_ret
      rw [HEnt.out]
      exact ⟨b7, n7, c7, ms7, rfl, HE7.out.trans HTk.out, HR7.out, HO7.out, (((Below.refl _ w).drew).drew).trans HB7.out⟩

end Go.Proofs.YtodmieehdleohaaGreat

namespace Go.Proofs.YtodmieehdleohaaGreat
open Go.RowKit NumMath
set_option linter.unusedVariables false
set_option maxRecDepth 100000

def SmallM (len : Nat) (ms : List MEnt) : Prop := len ≤ 12 ∧ ∀ m ∈ ms, m.n ≤ 100

set_option maxHeartbeats 1000000 in
theorem small_any (X : Nat → Prop) (a : Option Addr) (len cap : Nat) (ms : List MEnt) (w : World) (h : IsMs X w a len cap ms) :
    Calls Tryz.prog 10 #[.slice a len cap] w fun e w' => ∃ b, e = .returned (.bool b) ∧ Tells b (SmallM len ms) ∧ Below w.heap.size w w' := by
  have H := hide h
  have hlen := h.1
  have hm1 : (len : Int) ≤ 9223372036854775807 := by have := h.2.1; have := h.2.2.1; unfold maxLen at this; omega
  clear h
  go_enter Tryz.func10, Tryz.ntmps10
  go_wp2
  go_loopw [7] (fun i wr => ∃ k : Nat, k ≤ len ∧ i = .int .i64 k ∧ (∀ j, j < k → (ms.getD j ment0).n ≤ 100) ∧ Below w.heap.size w wr) (fun i _ => len - (intOf i).toNat)
  case atStart => exact ⟨0, Nat.zero_le _, rfl, by intro j hj; omega, Below.refl _ _⟩
  case round =>
    obtain ⟨k, hk, rfl, hdone, hb⟩ := hrel
    have HDn := hide hdone
    clear hdone
    by_cases hlt : k < len
    · obtain ⟨g, off, rfl, hg, hC⟩ := H.out.at hlt
      obtain ⟨q0, q1, q2, q3⟩ := (hC k (by omega)).same (hb.block g hg)
      have HMem := hide (ment_mem ms k (by omega))
      generalize hm : ms.getD k ment0 = m at *
      have HM := hide hm
      clear hm hC
      obtain ⟨⟨mi, mt, mk, md⟩, mb, mn, mc⟩ := m
      dsimp only at q0 q1 q2 q3
      by_cases hgt : 100 < (mn : Int)
      · have hgt' : 100 < mn := by omega
        go_wp2
        go_ret
        exact ⟨false, rfl, tells_no (fun h => by have := h.2 _ HMem.out; dsimp only at this; omega), hb.trans ((new_below _ _).mono hb.size)⟩
      · have hgt' : mn ≤ 100 := by omega
        go_wp2
        go_roundw
        case rel => exact ⟨k + 1, by omega, by go_num, fun j hj => (by by_cases hjk : j = k; (subst hjk; rw [HM.out]; exact hgt'); exact HDn.out j (by omega)), hb.trans ((new_below _ _).mono hb.size)⟩
        case measure => simp [intOf]; omega
    · have hkl : k = len := by omega
      subst hkl
      have HAll : Hid (∀ m ∈ ms, m.n ≤ 100) := all_of_getD ms (fun j hj => HDn.out j (by omega))
      by_cases hs : k ≤ 12
      · have hs' : (k : Int) ≤ 12 := by omega
        go_wp2
        go_ret
        first | exact ⟨true, rfl, tells_yes ⟨hs, HAll.out⟩, hb⟩ | exact .inr ⟨rfl, tells_yes ⟨hs, HAll.out⟩, hb⟩
      · have hs' : ¬ (k : Int) ≤ 12 := by omega
        go_wp2
        go_ret
        exact .inl ⟨rfl, tells_no (fun h => hs h.1), hb⟩

theorem small_yes (X : Nat → Prop) (a : Option Addr) (len cap : Nat) (ms : List MEnt) (w : World) (h : IsMs X w a len cap ms) (hS : SmallM len ms) :
    Calls Tryz.prog 10 #[.slice a len cap] w fun e w' => e = .returned (.bool true) ∧ Below w.heap.size w w' := by
  refine (small_any X a len cap ms w h).mono ?_
  rintro e w' ⟨b, rfl, ht, hb⟩
  have : b = true := ht.2 hS
  subst this
  exact ⟨rfl, hb⟩

theorem small_no (X : Nat → Prop) (a : Option Addr) (len cap : Nat) (ms : List MEnt) (w : World) (h : IsMs X w a len cap ms) (hS : ¬ SmallM len ms) :
    Calls Tryz.prog 10 #[.slice a len cap] w fun e w' => e = .returned (.bool false) ∧ Below w.heap.size w w' := by
  refine (small_any X a len cap ms w h).mono ?_
  rintro e w' ⟨b, rfl, ht, hb⟩
  have hb' : b = false := by
    cases b with
    | false => rfl
    | true => exact absurd (ht.1 rfl) hS
  subst hb'
  exact ⟨rfl, hb⟩

theorem smallS_yes (i t : Int) (ma : Option Addr) (mn mc : Nat) (da : Option Addr) (dn dc : Nat) (w : World) (h1 : (mn : Int) ≤ 9) (h2 : (dn : Int) ≤ 200) :
    Calls Tryz.prog 9 #[.agg #[.int .u64 i, .int .u64 t, .slice ma mn mc, .slice da dn dc]] w fun e w' => e = .returned (.bool true) ∧ Below w.heap.size w w' := by
  go_enter Tryz.func9, Tryz.ntmps9
  go_wp2
  go_ret
  exact ⟨rfl, new_below _ _⟩

theorem smallS_no (i t : Int) (ma : Option Addr) (mn mc : Nat) (da : Option Addr) (dn dc : Nat) (w : World) (h1 : ¬ ((mn : Int) ≤ 9 ∧ (dn : Int) ≤ 200)) :
    Calls Tryz.prog 9 #[.agg #[.int .u64 i, .int .u64 t, .slice ma mn mc, .slice da dn dc]] w fun e w' => e = .returned (.bool false) ∧ Below w.heap.size w w' := by
  by_cases g : (mn : Int) ≤ 9
  · have g2 : ¬ (dn : Int) ≤ 200 := fun h => h1 ⟨g, h⟩
    clear h1
    go_enter Tryz.func9, Tryz.ntmps9
    go_wp2
    go_ret
    exact ⟨rfl, new_below _ _⟩
  · clear h1
    go_enter Tryz.func9, Tryz.ntmps9
    go_wp2
    go_ret
    exact ⟨rfl, new_below _ _⟩

set_option maxHeartbeats 1000000 in
theorem snap_any (X : Nat → Prop) (base p : Nat) (L : LogS) (w : World) (h : IsL X w base p L) (hG : L.Good) :
    Calls Tryz.prog 73 #[.pointer (some ⟨p, 0, none⟩)] w fun e w' => ∃ a1 n1 c1 a2 n2 c2, e = .returned (.agg #[.int .u64 L.s.i, .int .u64 L.s.t, .slice a1 n1 c1, .slice a2 n2 c2]) ∧ IsNums w' a1 n1 c1 L.s.m ∧ (∀ y, a1 = some y → w.heap.size ≤ y.block) ∧ IsBytes w' a2 n2 c2 L.s.d ∧ (∀ y, a2 = some y → w.heap.size ≤ y.block) ∧ Below w.heap.size w w' := by
  have hplt := h.at
  obtain ⟨ma, mn, mc, da, dn, dc, ea, en, ec, es, c0, c1, c2, c3, c4, c5, c6, hf, hm, hd', hr, he, ho, hp, hn, hx, hx4⟩ := h
  have HC := hide (fun (W : World) (hW : Below w.heap.size w W) => copyS_any L.s.i L.s.t ma mn mc L.s.m da dn dc L.s.d W (hm.1.keep hW) (hd'.1.keep hW) (by have := hG.m1; have := hm.1.1; omega) (by have := hG.d1; have := hd'.1.1; omega))
  have HB := hide (box4_new w (.int .u64 0) (.int .u64 0) (.slice none 0 0) (.slice none 0 0) 28 _ rfl)
  clear hm hd' hr he ho hn hx hx4 hf hp hG
  go_enter Tryz.func73, Tryz.ntmps73
  go_wp2_with (first
    | (go_at_call 36; refine (orE_any p _).mono ?_; rintro e w' ⟨rfl, hw⟩; have hw := hw.symm; subst hw)
    | (go_at_call 35; go_must (refine (HC.out _ (by exact new_below _ _)).mono ?_); rintro e w2 ⟨a1, n1, d1, a2, n2, d2, rfl, hI1, hy1, hI2, hy2, hb2⟩; have HI1 := hide hI1; have HY1 := hide hy1; have HI2 := hide hI2; have HY2 := hide hy2; have HB2 := hide hb2; have HP2 := hide (HB.out.keep hb2 (by simp)); obtain ⟨p0, p1, p2, p3, pf⟩ := HP2.out; have pf0 := pf 0; have pf1 := pf 1; have pf2 := pf 2; have pf3 := pf 3; clear pf hI1 hy1 hI2 hy2 hb2))
  have B0 := HP2.out.set0 (.int .u64 L.s.i)
  have B1 := B0.set1 (.int .u64 L.s.t)
  have B2 := B1.set2 (.slice a1 n1 d1)
  have B3 := B2.set3 (.slice a2 n2 d2)
  have t0 := B0.1
  have t1 := B1.2.1
  have t2 := B2.2.2.1
  have t3 := B3.2.2.2.1
  have hk : Keeps (fun k => k = w.heap.size) w2 ((((w2.setCell ⟨w.heap.size, 0, none⟩ (.int .u64 L.s.i)).setCell ⟨w.heap.size, 1, none⟩ (.int .u64 L.s.t)).setCell ⟨w.heap.size, 2, none⟩ (.slice a1 n1 d1)).setCell ⟨w.heap.size, 3, none⟩ (.slice a2 n2 d2)) := ((((Keeps.self _ w2).also _).also _).also _).also _
  have hk0 : Keeps (fun k => k = w.heap.size) w ((((w2.setCell ⟨w.heap.size, 0, none⟩ (.int .u64 L.s.i)).setCell ⟨w.heap.size, 1, none⟩ (.int .u64 L.s.t)).setCell ⟨w.heap.size, 2, none⟩ (.slice a1 n1 d1)).setCell ⟨w.heap.size, 3, none⟩ (.slice a2 n2 d2)) := (((((Below.keeps (new_below _ _) _).thenBelow HB2.out).also _).also _).also _).also _
  have hy1 := HY1.out
  have hy2 := HY2.out
  simp only [World.size_alloc] at hy1 hy2
  refine bodyPost_ret (v := .agg #[.int .u64 L.s.i, .int .u64 L.s.t, .slice a1 n1 d1, .slice a2 n2 d2]) (by simp [results, Tryz.results73, go_sem, t0, t1, t2, t3]) rfl ⟨a1, n1, d1, a2, n2, d2, rfl, ?_, ?_, ?_, ?_, ?_⟩
  · exact HI1.out.lies hk (.inr (fun y hy e => by have := hy1 y hy; omega))
  · intro y hy
    have := hy1 y hy
    omega
  · exact isB_liesX HI2.out hk (.inr (fun y hy e => by have := hy2 y hy; omega))
  · intro y hy
    have := hy2 y hy
    omega
  · exact hk0.below (Nat.le_refl _) (fun k hk => by omega)

def log0 : LogS := ⟨⟨0, 0, [], []⟩, [], 0, false⟩

theorem good_new {i t : Int} {m d : List Int} (h0 : 0 ≤ i) (h1 : 0 ≤ t) (h2 : t ≤ 18446744073709551615) (hm : ∀ c ∈ m, 0 ≤ c ∧ c ≤ 18446744073709551615) (hm1 : m.length ≤ 1000) (hd : d.length ≤ 100000) : LogS.Good ⟨⟨capI i, t, m, d⟩, [], 0, false⟩ := by
  constructor <;> first | (show 0 ≤ capI i; unfold capI; split <;> omega) | (show capI i ≤ _; unfold capI; split <;> omega) | assumption | (intro j hj; simp at hj) | decide | simp

theorem good_log0 : log0.Good := good_new (i := 0) (t := 0) (m := []) (d := []) (by decide) (by decide) (by decide) (by simp) (by simp) (by simp)

theorem isMs_one (X : Nat → Prop) (w : World) (g : Nat) (m : MEnt) (hg : g < w.heap.size) (h : CellM w g 0 m) (hok : m.ok X w) : IsMs X w (some ⟨g, 0, none⟩) 1 1 [m] :=
  ⟨rfl, Nat.le_refl _, by unfold maxLen; omega, by intro x hx; rw [List.mem_singleton.1 hx]; exact hok, .inr ⟨g, 0, rfl, hg, fun i hi => by
    match i, hi with
    | 0, _ => exact h⟩⟩

theorem cellM_new (w : World) (e : Ent) (b : Option Addr) (n c g : Nat) (ty : TypeId) (hg : w.heap.size = g) : CellM (w.alloc (.cells #[.int .u64 e.i, .int .u64 e.t, .int .i64 e.k, .slice b n c] ty)) g 0 ⟨e, b, n, c⟩ := by
  subst hg
  exact ⟨by simp, by simp, by simp, by simp⟩

theorem dat_nil (X : Nat → Prop) (w : World) : DatB X w none 0 0 [] := ⟨⟨rfl, Nat.le_refl _, Nat.zero_le _, by simp, .inl rfl⟩, .inl rfl⟩

end Go.Proofs.YtodmieehdleohaaGreat
