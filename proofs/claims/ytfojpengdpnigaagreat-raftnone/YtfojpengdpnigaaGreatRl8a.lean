/- The log's Compact. -/
import Derived.Test.YtfojpengdpnigaaGreatRl7
namespace Go.Proofs.YtfojpengdpnigaaGreat
open Go.RowKit NumMath
set_option linter.unusedVariables false
set_option maxRecDepth 100000

theorem cutE_at2 (X : Nat → Prop) (a : Option Addr) (len cap : Nat) (ms : List MEnt) (l n : Nat) (xl xh : Int) (w : World) (h : IsMs X w a len cap ms) (hm : l + n ≤ len) (hl : xl = ((l : Nat) : Int)) (hx : xh = ((l + n : Nat) : Int)) :
    Calls Tryz.prog 39 #[.slice a len cap, .int .i64 xl, .int .i64 xh] w fun e w' => ∃ b, e = .returned (.slice b n n) ∧ IsMs X w b n n ((ms.drop l).take n) ∧ w' = w := by
  subst hl
  exact cutE_at X a len cap ms l n xh w h hm hx

theorem isMs_take {X : Nat → Prop} {w : World} {base g n c : Nat} {ms : List MEnt} (h : RowM w base (.slice (some ⟨g, 0, none⟩) n c) ms) (ho : ∀ m ∈ ms, m.ok X w) (k : Nat) (hk : k ≤ n) : IsMs X w (some ⟨g, 0, none⟩) k k (ms.take k) := by
  have hi := h.is ho
  have hl := h.len
  refine ⟨by rw [List.length_take]; omega, Nat.le_refl _, by omega, fun m hm => ho m (List.mem_of_mem_take hm), ?_⟩
  by_cases k0 : k = 0
  · exact .inl k0
  · obtain ⟨g', off, e, hg, hC⟩ := hi.at (k := 0) (by omega)
    cases e
    refine .inr ⟨g, 0, rfl, hg, fun i hi => ?_⟩
    rw [List.length_take] at hi
    have e3 : (ms.take k).getD i ment0 = ms.getD i ment0 := by simp [List.getD, show i < k by omega]
    rw [e3]
    exact hC i (by omega)

theorem Cells7.set0 {w : World} {p : Nat} {v0 v1 v2 v3 v4 v5 v6 : Value} (h : Cells7 w p v0 v1 v2 v3 v4 v5 v6) (u : Value) : Cells7 (w.setCell ⟨p, 0, none⟩ u) p u v1 v2 v3 v4 v5 v6 := by
  obtain ⟨h0, h1, h2, h3, h4, h5, h6, hf⟩ := h
  exact ⟨World.cell?_setCell_same _ _ _ h0, (cell_set_off _ _ _ _ _ (by decide)).trans h1, (cell_set_off _ _ _ _ _ (by decide)).trans h2, (cell_set_off _ _ _ _ _ (by decide)).trans h3, (cell_set_off _ _ _ _ _ (by decide)).trans h4, (cell_set_off _ _ _ _ _ (by decide)).trans h5, (cell_set_off _ _ _ _ _ (by decide)).trans h6, fun i => by simp [hf]⟩

theorem Cells7.set1 {w : World} {p : Nat} {v0 v1 v2 v3 v4 v5 v6 : Value} (h : Cells7 w p v0 v1 v2 v3 v4 v5 v6) (u : Value) : Cells7 (w.setCell ⟨p, 1, none⟩ u) p v0 u v2 v3 v4 v5 v6 := by
  obtain ⟨h0, h1, h2, h3, h4, h5, h6, hf⟩ := h
  exact ⟨(cell_set_off _ _ _ _ _ (by decide)).trans h0, World.cell?_setCell_same _ _ _ h1, (cell_set_off _ _ _ _ _ (by decide)).trans h2, (cell_set_off _ _ _ _ _ (by decide)).trans h3, (cell_set_off _ _ _ _ _ (by decide)).trans h4, (cell_set_off _ _ _ _ _ (by decide)).trans h5, (cell_set_off _ _ _ _ _ (by decide)).trans h6, fun i => by simp [hf]⟩

theorem Cells7.set2 {w : World} {p : Nat} {v0 v1 v2 v3 v4 v5 v6 : Value} (h : Cells7 w p v0 v1 v2 v3 v4 v5 v6) (u : Value) : Cells7 (w.setCell ⟨p, 2, none⟩ u) p v0 v1 u v3 v4 v5 v6 := by
  obtain ⟨h0, h1, h2, h3, h4, h5, h6, hf⟩ := h
  exact ⟨(cell_set_off _ _ _ _ _ (by decide)).trans h0, (cell_set_off _ _ _ _ _ (by decide)).trans h1, World.cell?_setCell_same _ _ _ h2, (cell_set_off _ _ _ _ _ (by decide)).trans h3, (cell_set_off _ _ _ _ _ (by decide)).trans h4, (cell_set_off _ _ _ _ _ (by decide)).trans h5, (cell_set_off _ _ _ _ _ (by decide)).trans h6, fun i => by simp [hf]⟩

theorem Cells7.set3 {w : World} {p : Nat} {v0 v1 v2 v3 v4 v5 v6 : Value} (h : Cells7 w p v0 v1 v2 v3 v4 v5 v6) (u : Value) : Cells7 (w.setCell ⟨p, 3, none⟩ u) p v0 v1 v2 u v4 v5 v6 := by
  obtain ⟨h0, h1, h2, h3, h4, h5, h6, hf⟩ := h
  exact ⟨(cell_set_off _ _ _ _ _ (by decide)).trans h0, (cell_set_off _ _ _ _ _ (by decide)).trans h1, (cell_set_off _ _ _ _ _ (by decide)).trans h2, World.cell?_setCell_same _ _ _ h3, (cell_set_off _ _ _ _ _ (by decide)).trans h4, (cell_set_off _ _ _ _ _ (by decide)).trans h5, (cell_set_off _ _ _ _ _ (by decide)).trans h6, fun i => by simp [hf]⟩

theorem Cells7.set6 {w : World} {p : Nat} {v0 v1 v2 v3 v4 v5 v6 : Value} (h : Cells7 w p v0 v1 v2 v3 v4 v5 v6) (u : Value) : Cells7 (w.setCell ⟨p, 6, none⟩ u) p v0 v1 v2 v3 v4 v5 u := by
  obtain ⟨h0, h1, h2, h3, h4, h5, h6, hf⟩ := h
  exact ⟨(cell_set_off _ _ _ _ _ (by decide)).trans h0, (cell_set_off _ _ _ _ _ (by decide)).trans h1, (cell_set_off _ _ _ _ _ (by decide)).trans h2, (cell_set_off _ _ _ _ _ (by decide)).trans h3, (cell_set_off _ _ _ _ _ (by decide)).trans h4, (cell_set_off _ _ _ _ _ (by decide)).trans h5, World.cell?_setCell_same _ _ _ h6, fun i => by simp [hf]⟩

/-- a log of these cells -/
theorem isL_of7 {X : Nat → Prop} {w : World} {base p : Nat} {L : LogS} {ma : Option Addr} {mn mc : Nat} {da : Option Addr} {dn dc : Nat} {ea : Option Addr} {en ec : Nat} {ms : List MEnt} (h : Cells7 w p (.int .u64 L.s.i) (.int .u64 L.s.t) (.slice ma mn mc) (.slice da dn dc) (.slice ea en ec) (.int .u64 L.dirty) (.bool L.fresh))
    (hm : NumX X w ma mn mc L.s.m) (hd : DatB X w da dn dc L.s.d) (hr : RowM w base (.slice ea en ec) ms) (he : ms.map MEnt.e = L.es) (ho : ∀ m ∈ ms, m.ok X w) (hp : base ≤ p) (hn : some p ≠ (Value.slice ea en ec).ownBlock) (hx : X p) (hx4 : ∀ k, (Value.slice ea en ec).ownBlock = some k → X k) : IsL X w base p L :=
  ⟨ma, mn, mc, da, dn, dc, ea, en, ec, ms, h.1, h.2.1, h.2.2.1, h.2.2.2.1, h.2.2.2.2.1, h.2.2.2.2.2.1, h.2.2.2.2.2.2.1, h.2.2.2.2.2.2.2, hm, hd, hr, he, ho, hp, hn, hx, hx4⟩

theorem SB.of7 {w : World} {p k : Nat} {v0 v1 v2 v3 v4 v5 v6 : Value} (h : Cells7 w p v0 v1 v2 v3 v4 v5 v6) : SB 4 w p k ↔ k = p ∨ v4.ownBlock = some k := by
  constructor
  · rintro (h1 | ⟨v, hv, hb⟩)
    · exact .inl h1
    · rw [h.2.2.2.2.1] at hv
      cases hv
      exact .inr hb
  · rintro (h1 | h1)
    · exact .inl h1
    · exact .inr ⟨_, h.2.2.2.2.1, h1⟩

theorem far4 {w : World} {p g i : Nat} {v0 v1 v2 v3 u : Value} (hgp : g ≠ p) (h : w.cell? ⟨g, i, none⟩ = some u) : ((((w.setCell ⟨p, 0, none⟩ v0).setCell ⟨p, 1, none⟩ v1).setCell ⟨p, 2, none⟩ v2).setCell ⟨p, 3, none⟩ v3).cell? ⟨g, i, none⟩ = some u := by
  have e : ∀ (W : World) j v, (W.setCell ⟨p, j, none⟩ v).cell? ⟨g, i, none⟩ = W.cell? ⟨g, i, none⟩ := fun W j v => World.cell?_of_block (a := ⟨g, i, none⟩) (Below.heap_setCell _ _ _ _ hgp)
  rw [e, e, e, e]
  exact h

theorem comp_fin {X : Nat → Prop} {w w3 w5 w7 : World} {base p : Nat} {x tk : Int} {tm data : List Int} {y : Int} {v0 v1 v2 v3 v6 : Value} {b3 a5 a7 : Option Addr} {n3 d3 n5 d5 n7 d7 : Nat} {es : List MEnt} {E : List Ent}
    (hO3 : OwnU w3 w.heap.size (.slice b3 n3 d3) tm) (hR3 : ∀ z ∈ tm, 0 ≤ z ∧ z ≤ 18446744073709551615) (hB3 : Below w.heap.size w w3) (hR5 : RowM w5 w3.heap.size (.slice a5 n5 d5) es) (hB5 : Below w3.heap.size w3 w5)
    (hI7 : IsBytes w7 a7 n7 d7 data) (hY7 : ∀ z, a7 = some z → w5.heap.size ≤ z.block) (hB7 : Below w5.heap.size (w5.setCell ⟨p, 4, none⟩ (.slice a5 n5 d5)) w7)
    (h7 : Cells7 w7 p v0 v1 v2 v3 (.slice a5 n5 d5) (.int .u64 y) v6) (hO : ∀ m ∈ es, m.ok X w) (hE : es.map MEnt.e = E) (hXlt : ∀ k, X k → k < w.heap.size) (hplt : p < w.heap.size) (hxp : X p) (hp : base ≤ p) (hbase : base ≤ w.heap.size) (V : World)
    (hV : V = ((((w7.setCell ⟨p, 0, none⟩ (.int .u64 x)).setCell ⟨p, 1, none⟩ (.int .u64 tk)).setCell ⟨p, 2, none⟩ (.slice b3 n3 d3)).setCell ⟨p, 3, none⟩ (.slice a7 n7 d7)).setCell ⟨p, 6, none⟩ (.bool true)) :
    IsL (fun k => X k ∨ SB 4 V p k) V base p ⟨⟨x, tk, tm, data⟩, E, y, true⟩ ∧ SPost 4 w p V := by
  have hC : Cells7 V p (.int .u64 x) (.int .u64 tk) (.slice b3 n3 d3) (.slice a7 n7 d7) (.slice a5 n5 d5) (.int .u64 y) (.bool true) := by
    rw [hV]; exact ((((h7.set0 _).set1 _).set2 _).set3 _).set6 _
  have hs3 := hB3.size
  have hs5 := hB5.size
  have k7 : Keeps (fun k => k = p) w7 V := by
    rw [hV]; exact ((((Keeps.self _ w7).also _).also _).also _).also _ |>.also _
  have k57 : Keeps (fun k => k = p) w5 w7 := ((Keeps.self _ w5).also (i := 4) (.slice a5 n5 d5)).thenB (Nat.le_refl _) hB7
  have k5 : Keeps (fun k => k = p) w5 V := k57.trans k7
  have k3 : Keeps (fun k => k = p) w3 V := (Below.keeps hB5 _).trans k5
  have k0 : Keeps (fun k => k = p) w V := (Below.keeps hB3 _).trans k3
  have hl5 := hR5.lt
  have hl3 := hO3.lt
  have hSB : ∀ k, SB 4 V p k → k = p ∨ (Value.slice a5 n5 d5).ownBlock = some k := fun k hk => (SB.of7 hC).1 hk
  have hY : ∀ k, (X k ∨ SB 4 V p k) → X k ∨ w.heap.size ≤ k := by
    rintro k (h | h)
    · exact .inl h
    · rcases hSB k h with rfl | h
      · exact .inl hxp
      · have := (hl5 k h).1
        exact .inr (by omega)
  have hM : ∀ k, k = p → (X k ∨ SB 4 V p k) := by rintro k rfl; exact .inl hxp
  have hn5 : some p ≠ (Value.slice a5 n5 d5).ownBlock := by
    intro e
    have := (hl5 p e.symm).1
    omega
  refine ⟨isL_of7 (L := ⟨⟨x, tk, tm, data⟩, E, y, true⟩) hC ?_ ?_ ?_ hE (fun m hm => ((hO m hm).more hY).lies k0 hM) hp hn5 (.inl hxp) (fun k hk => .inr ((SB.of7 hC).2 (.inr hk))), k0.weaken (fun k hk => by subst hk; exact SB.at), fun k hk => (hSB k hk).elim (fun e => .inl (by subst e; exact SB.at)) (fun h => .inr (by have := (hl5 k h).1; omega))⟩
  · obtain ⟨a, n, c, e, hI, hy⟩ := hO3.is hR3
    cases e
    refine ⟨hI.lies k3 (.inr (fun z hz e => by have := (hy z hz).1; omega)), .inr (fun z hz hk => ?_)⟩
    have h1 := (hy z hz).1
    have h2 := (hl3 _ (hy z hz).2).2
    rcases hk with h | h
    · have := hXlt _ h; omega
    · rcases hSB _ h with h | h
      · omega
      · have := (hl5 _ h).1; omega
  · refine ⟨isB_liesX hI7 k7 (.inr (fun z hz e => by have := hY7 z hz; omega)), .inr (fun z hz hk => ?_)⟩
    have h1 := hY7 z hz
    rcases hk with h | h
    · have := hXlt _ h; omega
    · rcases hSB _ h with h | h
      · omega
      · have := (hl5 _ h).2; omega
  · refine (hR5.lies (fun g hg => k5.block g (hl5 g hg).2 (fun e => ?_))).mono (by omega)
    have := (hl5 g hg).1
    omega

end Go.Proofs.YtfojpengdpnigaaGreat
