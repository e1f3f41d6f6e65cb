/- The log's Append. -/
import Derived.Test.YtfojpengdpnigaaGreatRl2
import Derived.Deep.RegionLaw
namespace Go.Proofs.YtfojpengdpnigaaGreat
open Go.RowKit NumMath
set_option linter.unusedVariables false
set_option maxRecDepth 100000

open Classical in
/-- what Append answers, and what the log is then -/
noncomputable def appL (L : LogS) (es : List Ent) : Int × LogS :=
  if es = [] then (0, L) else if Fits L es then (0, ⟨L.s, L.es.take ((es.getD 0 ent0).i - (L.s.i + 1)).toNat ++ es, if L.dirty = 0 ∨ (es.getD 0 ent0).i < L.dirty then (es.getD 0 ent0).i else L.dirty, L.fresh⟩) else (80, L)

theorem appL_nil (L : LogS) : appL L [] = (0, L) := by unfold appL; rw [if_pos rfl]
theorem appL_no {L : LogS} {es : List Ent} (h0 : es ≠ []) (h : ¬ Fits L es) : appL L es = (80, L) := by unfold appL; rw [if_neg h0, if_neg h]
theorem appL_yes {L : LogS} {es : List Ent} (h0 : es ≠ []) (h : Fits L es) : appL L es = (0, ⟨L.s, L.es.take ((es.getD 0 ent0).i - (L.s.i + 1)).toNat ++ es, if L.dirty = 0 ∨ (es.getD 0 ent0).i < L.dirty then (es.getD 0 ent0).i else L.dirty, L.fresh⟩) := by unfold appL; rw [if_neg h0, if_pos h]

/-- a new list of entries, stored into the log -/
theorem isL_set4 {X : Nat → Prop} {w w1 : World} {base p : Nat} {L : LogS} {ma : Option Addr} {mn mc : Nat} {da : Option Addr} {dn dc : Nat} {v4 : Value} {a' : Option Addr} {n' c' : Nat} {ms' : List MEnt} (hk : Keeps (SB 4 w p) w w1) (hSX : ∀ k, SB 4 w p k → X k) (hlt : p < w.heap.size) (hp : base ≤ p)
    (c0 : w1.cell? ⟨p, 0, none⟩ = some (.int .u64 L.s.i)) (c1 : w1.cell? ⟨p, 1, none⟩ = some (.int .u64 L.s.t)) (c2 : w1.cell? ⟨p, 2, none⟩ = some (.slice ma mn mc)) (c3 : w1.cell? ⟨p, 3, none⟩ = some (.slice da dn dc)) (c4 : w1.cell? ⟨p, 4, none⟩ = some v4) (c5 : w1.cell? ⟨p, 5, none⟩ = some (.int .u64 L.dirty)) (c6 : w1.cell? ⟨p, 6, none⟩ = some (.bool L.fresh)) (hf : ∀ i, w1.frozen? ⟨p, i, none⟩ = false)
    (hm : NumX X w ma mn mc L.s.m) (hd : DatB X w da dn dc L.s.d) (hr : RowM w1 base (.slice a' n' c') ms') (hok : ∀ m ∈ ms', m.ok (fun k => X k ∨ (Value.slice a' n' c').ownBlock = some k) w1) (hat : ∀ k, (Value.slice a' n' c').ownBlock = some k → (SB 4 w p k ∧ k ≠ p) ∨ w.heap.size ≤ k) :
    IsL (fun k => X k ∨ SB 4 (w1.setCell ⟨p, 4, none⟩ (.slice a' n' c')) p k) (w1.setCell ⟨p, 4, none⟩ (.slice a' n' c')) base p ⟨L.s, ms'.map MEnt.e, L.dirty, L.fresh⟩ ∧ SPost 4 w p (w1.setCell ⟨p, 4, none⟩ (.slice a' n' c')) := by
  have hcell : (w1.setCell ⟨p, 4, none⟩ (.slice a' n' c')).cell? ⟨p, 4, none⟩ = some (.slice a' n' c') := World.cell?_setCell_same _ _ _ c4
  have hne : some p ≠ (Value.slice a' n' c').ownBlock := by
    intro e
    rcases hat p e.symm with h | h
    · exact h.2 rfl
    · omega
  have hSB : ∀ k, SB 4 (w1.setCell ⟨p, 4, none⟩ (.slice a' n' c')) p k ↔ k = p ∨ (Value.slice a' n' c').ownBlock = some k := by
    intro k
    constructor
    · rintro (h | ⟨v, hv, hb⟩)
      · exact .inl h
      · rw [hcell] at hv
        cases hv
        exact .inr hb
    · rintro (h | h)
      · exact .inl h
      · exact .inr ⟨_, hcell, h⟩
  have hk1 : Keeps (SB 4 w p) w (w1.setCell ⟨p, 4, none⟩ (.slice a' n' c')) := hk.thenSet SB.at _
  have hY : ∀ k, (X k ∨ SB 4 (w1.setCell ⟨p, 4, none⟩ (.slice a' n' c')) p k) → X k ∨ w.heap.size ≤ k := by
    rintro k (h | h)
    · exact .inl h
    · rcases (hSB k).1 h with rfl | h
      · exact .inl (hSX _ SB.at)
      · rcases hat k h with h | h
        · exact .inl (hSX _ h.1)
        · exact .inr h
  refine ⟨⟨ma, mn, mc, da, dn, dc, a', n', c', ms', (cell_set_off _ _ _ _ _ (by decide)).trans c0, (cell_set_off _ _ _ _ _ (by decide)).trans c1, (cell_set_off _ _ _ _ _ (by decide)).trans c2, (cell_set_off _ _ _ _ _ (by decide)).trans c3, hcell, (cell_set_off _ _ _ _ _ (by decide)).trans c5, (cell_set_off _ _ _ _ _ (by decide)).trans c6, fun i => by simp [hf], ?_, ?_, hr.lies ?_, rfl, ?_, hp, hne, .inr SB.at, fun k hk => .inr ((hSB k).2 (.inr hk))⟩, hk1, ?_⟩
  · exact (hm.more hY).lies hk1 (fun k h => .inl (hSX k h))
  · exact (hd.more hY).lies hk1 (fun k h => .inl (hSX k h))
  · intro g hg
    exact Below.heap_setCell _ _ _ _ (by intro e; subst e; exact hne hg.symm)
  · intro m hm
    have h1 : m.ok (fun k => X k ∨ SB 4 (w1.setCell ⟨p, 4, none⟩ (.slice a' n' c')) p k) w1 := (hok m hm).more (by
      rintro k (h | h)
      · exact .inl (.inl h)
      · rcases (hSB k).1 h with rfl | h
        · exact .inl (.inl (hSX _ SB.at))
        · exact .inl (.inr h))
    exact h1.lies (keeps_cell (g := p) (i := 4) (.slice a' n' c')) (fun k e => .inr (by rw [e]; exact SB.at))
  · intro k hk
    rcases (hSB k).1 hk with rfl | h
    · exact .inl SB.at
    · rcases hat k h with h | h
      · exact .inl h.1
      · exact .inr h

/-- from where on entries are new, stored -/
theorem isL_set5 {X : Nat → Prop} {w : World} {base p : Nat} {L : LogS} (h : IsL X w base p L) (y : Int) : IsL X (w.setCell ⟨p, 5, none⟩ (.int .u64 y)) base p ⟨L.s, L.es, y, L.fresh⟩ ∧ SPost 4 w p (w.setCell ⟨p, 5, none⟩ (.int .u64 y)) := by
  obtain ⟨ma, mn, mc, da, dn, dc, ea, en, ec, ms, c0, c1, c2, c3, c4, c5, c6, hf, hm, hd, hr, he, ho, hp, hn, hx, hx4⟩ := h
  exact ⟨isL_again (L' := ⟨L.s, L.es, y, L.fresh⟩) (keeps_cell _) ((cell_set_off _ _ _ _ _ (by decide)).trans c0) ((cell_set_off _ _ _ _ _ (by decide)).trans c1) ((cell_set_off _ _ _ _ _ (by decide)).trans c2) ((cell_set_off _ _ _ _ _ (by decide)).trans c3) ((cell_set_off _ _ _ _ _ (by decide)).trans c4) (World.cell?_setCell_same _ _ _ c5) ((cell_set_off _ _ _ _ _ (by decide)).trans c6) (fun i => by simp [hf]) hm hd hr he ho hp hn hx hx4, spost_set (by decide) _⟩

theorem sb_set5 {w : World} {p k : Nat} (v : Value) (h : SB 4 (w.setCell ⟨p, 5, none⟩ v) p k) : SB 4 w p k := by
  rcases h with rfl | ⟨u, hu, hb⟩
  · exact .inl rfl
  · rw [cell_set_off _ _ _ _ _ (by decide)] at hu
    exact .inr ⟨u, hu, hb⟩

theorem sb_set5' {w : World} {p k : Nat} (v : Value) (h : SB 4 w p k) : SB 4 (w.setCell ⟨p, 5, none⟩ v) p k := by
  rcases h with rfl | ⟨u, hu, hb⟩
  · exact .inl rfl
  · exact .inr ⟨u, (cell_set_off _ _ _ _ _ (by decide)).trans hu, hb⟩

theorem fit_yes (p : Nat) (L : LogS) (a' : Option Addr) (n' c' : Nat) (X : Nat → Prop) (a : Option Addr) (len cap : Nat) (ms : List MEnt) (w : World) (c0 : w.cell? ⟨p, 0, none⟩ = some (.int .u64 L.s.i)) (c4 : w.cell? ⟨p, 4, none⟩ = some (.slice a' n' c')) (h0 : 0 ≤ L.s.i) (h1 : L.s.i ≤ 9000000000000000000) (hn : L.es.length = n') (hn' : n' ≤ 100000) (h : IsMs X w a len cap ms) (hl0 : 0 < len) (hl : len ≤ 100000) (hF : Fits L (ms.map MEnt.e)) :
    Calls Tryz.prog 37 #[.pointer (some ⟨p, 0, none⟩), .slice a len cap] w fun e w' => e = .returned (.bool true) ∧ w' = w.drew := by
  refine (fit_any p L a' n' c' X a len cap ms w c0 c4 h0 h1 hn hn' h hl0 hl).mono ?_
  rintro e w' ⟨b, rfl, ht, hc, hd⟩
  have : b = true := ht.2 hF
  subst this
  exact ⟨rfl, hd rfl⟩

theorem fit_no (p : Nat) (L : LogS) (a' : Option Addr) (n' c' : Nat) (X : Nat → Prop) (a : Option Addr) (len cap : Nat) (ms : List MEnt) (w : World) (c0 : w.cell? ⟨p, 0, none⟩ = some (.int .u64 L.s.i)) (c4 : w.cell? ⟨p, 4, none⟩ = some (.slice a' n' c')) (h0 : 0 ≤ L.s.i) (h1 : L.s.i ≤ 9000000000000000000) (hn : L.es.length = n') (hn' : n' ≤ 100000) (h : IsMs X w a len cap ms) (hl0 : 0 < len) (hl : len ≤ 100000) (hF : ¬ Fits L (ms.map MEnt.e)) :
    Calls Tryz.prog 37 #[.pointer (some ⟨p, 0, none⟩), .slice a len cap] w fun e w' => e = .returned (.bool false) ∧ Below w.heap.size w w' := by
  refine (fit_any p L a' n' c' X a len cap ms w c0 c4 h0 h1 hn hn' h hl0 hl).mono ?_
  rintro e w' ⟨b, rfl, ht, hc, hd⟩
  have hb : b = false := by
    cases b with
    | false => rfl
    | true => exact absurd (ht.1 rfl) hF
  subst hb
  refine ⟨rfl, ?_⟩
  rcases hc with rfl | rfl
  · exact Below.refl _ _
  · exact (Below.refl _ _).drew

theorem app_fin1 {X : Nat → Prop} {w : World} {base p : Nat} {s : Snp} {E1 E2 : List Ent} {y d f : Int} {b : Bool} (h : IsL (fun k => X k ∨ SB 4 w p k) w base p ⟨s, E1, y, b⟩) (hE : E1 = E2) (hd : d = f) :
    IsL (fun k => X k ∨ SB 4 (w.setCell ⟨p, 5, none⟩ (.int .u64 f)) p k) (w.setCell ⟨p, 5, none⟩ (.int .u64 f)) base p ⟨s, E2, d, b⟩ := by
  subst hE hd
  exact (isL_set5 h d).1.more (fun k hk => .inl (hk.imp id (fun x => sb_set5 _ x))) (fun k hk => .inr hk)

theorem app_fin0 {X : Nat → Prop} {w : World} {base p : Nat} {s : Snp} {E1 E2 : List Ent} {y d : Int} {b : Bool} (h : IsL (fun k => X k ∨ SB 4 w p k) w base p ⟨s, E1, y, b⟩) (hE : E1 = E2) (hd : d = y) :
    IsL (fun k => X k ∨ SB 4 w p k) w base p ⟨s, E2, d, b⟩ := by
  subst hE hd
  exact h

theorem dirty_new {y f : Int} (h : y = 0 ∨ f < y) : (if y = 0 ∨ f < y then f else y) = f := if_pos h
theorem dirty_old {y f : Int} (h : y ≠ 0) (h' : y ≤ f) : (if y = 0 ∨ f < y then f else y) = y := if_neg (fun x => x.elim h (fun x => by omega))

theorem es_ne {ms : List MEnt} {len : Nat} (h : ms.length = len) (h0 : 0 < len) : ms.map MEnt.e ≠ [] := by
  intro e
  have := congrArg List.length e
  simp at this
  subst this
  simp at h
  omega

theorem Keeps.drw {M : Nat → Prop} {w w1 : World} (h : Keeps M w w1) : Keeps M w w1.drew := ⟨h.os, h.tape, h.output, h.size, h.block⟩

theorem Keeps.thenB {M : Nat → Prop} {w w1 w2 : World} {B : Nat} (h : Keeps M w w1) (hB : w.heap.size ≤ B) (hb : Below B w1 w2) : Keeps M w w2 :=
  ⟨hb.os.trans h.os, hb.tape.trans h.tape, hb.output.trans h.output, Nat.le_trans h.size hb.size, fun k hk hn => (hb.block k (Nat.lt_of_lt_of_le hk hB)).trans (h.block k hk hn)⟩

theorem Keeps.weaken {M N : Nat → Prop} {w w1 : World} (h : Keeps M w w1) (hMN : ∀ k, M k → N k) : Keeps N w w1 :=
  ⟨h.os, h.tape, h.output, h.size, fun k hk hn => h.block k hk (fun x => hn (hMN k x))⟩

theorem len_of_map {ms ms2 : List MEnt} {n : Nat} (h : ms2.map MEnt.e = ms.map MEnt.e) (hl : ms.length = n) : ms2.length = n := by
  have := congrArg List.length h
  simp at this
  omega

theorem below_none {w w' : World} (h : w.grownBy w' none) : Below w.heap.size w w' := (Below.refl _ _).grown h (Nat.le_refl _) (by intro k hk; cases hk)

/-- seven cells of a log -/
def Cells7 (w : World) (p : Nat) (v0 v1 v2 v3 v4 v5 v6 : Value) : Prop := w.cell? ⟨p, 0, none⟩ = some v0 ∧ w.cell? ⟨p, 1, none⟩ = some v1 ∧ w.cell? ⟨p, 2, none⟩ = some v2 ∧ w.cell? ⟨p, 3, none⟩ = some v3 ∧ w.cell? ⟨p, 4, none⟩ = some v4 ∧ w.cell? ⟨p, 5, none⟩ = some v5 ∧ w.cell? ⟨p, 6, none⟩ = some v6 ∧ ∀ i, w.frozen? ⟨p, i, none⟩ = false

theorem Cells7.same {w w' : World} {p : Nat} {v0 v1 v2 v3 v4 v5 v6 : Value} (h : Cells7 w p v0 v1 v2 v3 v4 v5 v6) (e : w'.heap[p]? = w.heap[p]?) : Cells7 w' p v0 v1 v2 v3 v4 v5 v6 := by
  have ce : ∀ i, w'.cell? ⟨p, i, none⟩ = w.cell? ⟨p, i, none⟩ := fun i => World.cell?_of_block (a := ⟨p, i, none⟩) e
  obtain ⟨h0, h1, h2, h3, h4, h5, h6, hf⟩ := h
  exact ⟨(ce 0).trans h0, (ce 1).trans h1, (ce 2).trans h2, (ce 3).trans h3, (ce 4).trans h4, (ce 5).trans h5, (ce 6).trans h6, fun i => (World.frozen?_of_block (a := ⟨p, i, none⟩) e).trans (hf i)⟩

theorem Cells7.set4 {w : World} {p : Nat} {v0 v1 v2 v3 v4 v5 v6 : Value} (h : Cells7 w p v0 v1 v2 v3 v4 v5 v6) (u : Value) : Cells7 (w.setCell ⟨p, 4, none⟩ u) p v0 v1 v2 v3 u v5 v6 := by
  obtain ⟨h0, h1, h2, h3, h4, h5, h6, hf⟩ := h
  exact ⟨(cell_set_off _ _ _ _ _ (by decide)).trans h0, (cell_set_off _ _ _ _ _ (by decide)).trans h1, (cell_set_off _ _ _ _ _ (by decide)).trans h2, (cell_set_off _ _ _ _ _ (by decide)).trans h3, World.cell?_setCell_same _ _ _ h4, (cell_set_off _ _ _ _ _ (by decide)).trans h5, (cell_set_off _ _ _ _ _ (by decide)).trans h6, fun i => by simp [hf]⟩

/-- the first ones -/
theorem cut0_any (g len cap m : Nat) (w : World) (hlc : len ≤ cap) (hm : m ≤ len) :
    Calls Tryz.prog 39 #[.slice (some ⟨g, 0, none⟩) len cap, .int .i64 0, .int .i64 (m : Int)] w fun e w' => e = .returned (.slice (some ⟨g, 0, none⟩) m m) ∧ w' = w := by
  have hcut := run_cutM3 (some ⟨g, 0, none⟩) len cap hlc 0 m m (Nat.le_refl _) (by omega) 0 (m : Int) (m : Int) rfl (by omega) (by omega)
  have e : (if 0 + m = 0 then (some ⟨g, 0, none⟩ : Option Addr) else (some ⟨g, 0, none⟩ : Option Addr).map (·.add (0 * 4))) = some ⟨g, 0, none⟩ := by
    split
    · rfl
    · simp [Addr.add]
  rw [e] at hcut
  go_enter Tryz.func39, Tryz.ntmps39
  go_wp2
  go_ret
  exact ⟨rfl, rfl⟩

theorem copyE_at (B : Nat) (a : Option Addr) (len cap : Nat) (ms : List MEnt) (w : World) (hB : w.heap.size = B) (h : IsMs (fun _ => False) w a len cap ms) (hbig : len ≤ 1000000) (hd : ∀ m ∈ ms, m.n ≤ 1000000) :
    Calls Tryz.prog 41 #[.slice a len cap] w fun e w' => ∃ b n c ms', e = .returned (.slice b n c) ∧ ms'.map MEnt.e = ms.map MEnt.e ∧ RowM w' B (.slice b n c) ms' ∧ (∀ m ∈ ms', m.ok (fun k => k < B ∨ (Value.slice b n c).ownBlock = some k) w') ∧ Below B w w' := by
  subst hB
  exact copyE_any a len cap ms w h hbig hd

set_option maxHeartbeats 1000000 in
theorem app_any (X : Nat → Prop) (base p : Nat) (L : LogS) (a : Option Addr) (len cap : Nat) (ms : List MEnt) (w : World) (h : IsL X w base p L) (hG : L.Good) (hE : IsMs (fun k => k = p) w a len cap ms) (ha : len = 0 ∨ ∀ y, a = some y → y.block ≠ p) (hl : len ≤ 10000) (hd : ∀ m ∈ ms, m.n ≤ 100000) (hL : L.es.length ≤ 50000) (hXlt : ∀ k, X k → k < w.heap.size) (hbase : base ≤ w.heap.size) :
    Calls Tryz.prog 13 #[.pointer (some ⟨p, 0, none⟩), .slice a len cap] w fun e w' => e = .returned (.int .i64 (appL L (ms.map MEnt.e)).1) ∧ IsL (fun k => X k ∨ SB 4 w' p k) w' base p (appL L (ms.map MEnt.e)).2 ∧ SPost 4 w p w' := by
  have H := hide h
  have HE := hide hE
  have hplt := h.at
  have hSX : Hid (∀ k, SB 4 w p k → X k) := fun k hk => (h.lt hk).2.2
  obtain ⟨ma, mn, mc, da, dn, dc, ea, en, ec, es, c0, c1, c2, c3, c4, c5, c6, hf, hm, hd', hr, he, ho, hp, hn, hx, hx4⟩ := h
  have hen := hr.len.1
  have hel : L.es.length = en := by rw [← he, List.length_map, hen]
  have i0 := hG.i0
  have i1 := hG.i1
  have hlen := hE.1
  by_cases hl0 : len = 0
  · subst hl0
    have hms : ms = [] := List.length_eq_zero_iff.1 hlen
    subst hms
    rw [List.map_nil, appL_nil]
    have HL := hide (H.out.more (Y := fun k => X k ∨ SB 4 w p k) (fun k hk => hk.elim .inl (fun h => .inl (hSX.out k h))) (fun k hk => .inr hk))
    clear hm hd' hr he ho hn hx hx4 hf hlen hE ha
    go_enter Tryz.func13, Tryz.ntmps13
    go_wp2
    go_ret
    exact ⟨rfl, HL.out, SPost.refl _ _ _⟩
  have hl0' : 0 < len := by omega
  have HNe := hide (es_ne hlen hl0')
  by_cases hF : Fits L (ms.map MEnt.e)
  · have hlz : ((len : Int) == 0) = false := by simp; omega
    have HFt := hide (fit_yes p L ea en ec _ a len cap ms w c0 c4 i0 i1 hel (by omega) HE.out hl0' (by omega) hF)
    obtain ⟨g0, off0, ha0, hg0, hC0⟩ := hE.at hl0'
    subst ha0
    obtain ⟨q0, -, -, -⟩ := hC0 0 (by omega)
    rw [Nat.zero_mul, Nat.add_zero] at q0
    have hgp : g0 ≠ p := by
      rcases ha with ha | ha
      · omega
      · exact ha _ rfl
    have HApp := hide (appL_yes HNe.out hF)
    have f1 := hF.1
    have f2 := hF.2.1
    rw [getD_map_e] at f1 f2
    rw [getD_map_e] at HApp
    generalize hv0 : (ms.getD 0 ment0).e.i = f at *
    obtain ⟨k0, hk0⟩ : ∃ k0 : Nat, f = L.s.i + 1 + k0 := ⟨(f - (L.s.i + 1)).toNat, by omega⟩
    have hkn : (f - (L.s.i + 1)).toNat = k0 := by omega
    rw [hkn] at HApp
    have hke : k0 ≤ en := by omega
    have HEW : Hid (∀ W, Keeps (fun k => k = p) w W → IsMs (fun _ => False) W (some ⟨g0, off0, none⟩) len cap ms) := fun W hk => (HE.out.lies hk (fun _ h => h) ha).more (fun k hk => hk.elim)
    have HDM : Hid (∀ m ∈ ms, m.n ≤ 1000000) := fun m hm => by have := hd m hm; omega
    have HAt := hide (fun (W : World) (hW : W.cell? ⟨p, 0, none⟩ = some (.int .u64 L.s.i)) => at_any p L.s.i f k0 W hW i0 i1 (by omega) hk0)
    have HF := hide hf
    have HM := hide hm
    have HD := hide hd'
    have HR := hide hr
    have HO := hide ho
    have HN := hide hn
    have HX4 := hide hx4
    have HEs := hide he
    have hf4 := hf 4
    have hf5 := hf 5
    have HK0 := hide hk0
    have HLn := hide hlen
    have HEl := hide hel
    have HEn := hide hen
    clear hm hd' hr ho hn hx4 hf hlen hE ha hC0 hd hv0 he hF hkn f1 f2
    by_cases hlt : k0 < en
    · obtain ⟨g, hga, hg1, hg2, hcell, hfr⟩ := HR.out.row (by omega)
      subst hga
      have HHas := hide (fun (W : World) (h1 : W.cell? ⟨p, 0, none⟩ = some (.int .u64 L.s.i)) (h2 : W.cell? ⟨p, 4, none⟩ = some (.slice (some ⟨g, 0, none⟩) en ec)) => has_in p L.s.i f (some ⟨g, 0, none⟩) en ec true W h1 h2 i0 i1 (by omega) (by omega) (decide_eq_true (by omega)))
      have HCut := hide (fun (W : World) => cut0_any g en ec k0 W HR.out.len.2.1 hke)
      have HCells : Hid (∀ W, Keeps (fun k => k = p) w W → CellsM W g 0 (es.take k0)) := by
        intro W hk i hi
        rw [List.length_take] at hi
        have h3 := (hcell i (by omega)).same (hk.block g hg2 (fun e => HN.out (by rw [← e]; rfl)))
        rw [Nat.zero_add]
        have e3 : (es.take k0).getD i ment0 = es.getD i ment0 := by simp [List.getD, show i < k0 by omega]
        rw [e3]
        exact h3
      have HTl : Hid ((es.take k0).length = k0) := by show _ = _; rw [List.length_take, hen]; omega
      have HK4 : Hid (Keeps (fun k => k = p) w (w.setCell ⟨p, 4, none⟩ (.slice (some ⟨g, 0, none⟩) k0 k0))) := keeps_cell _
      have H74 : Hid (Cells7 (w.setCell ⟨p, 4, none⟩ (.slice (some ⟨g, 0, none⟩) k0 k0)) p _ _ _ _ _ _ _) := Cells7.set4 ⟨c0, c1, c2, c3, c4, c5, c6, HF.out⟩ _
      obtain ⟨z, y, hz, hy⟩ : ∃ z y : Bool, (L.dirty == 0) = z ∧ decide (f < L.dirty) = y := ⟨_, _, rfl, rfl⟩
      have hen5 : en ≤ 50000 := by omega
      clear hcell hfr hk0 hel hen
      go_enter Tryz.func13, Tryz.ntmps13
      go_wp2_with (first
        | (go_at_call 36; refine (orE_any p _).mono ?_; rintro e w' ⟨rfl, hw⟩; have hw := hw.symm; subst hw)
        | (go_at_call 37; refine HFt.out.mono ?_; rintro e w' ⟨rfl, hw⟩; have hw := hw.symm; subst hw)
        | (go_at_call 38; go_must (refine (HHas.out _ (by exact c0) (by exact c4)).mono ?_); rintro e w' ⟨rfl, hw⟩; have hw := hw.symm; subst hw))
      go_region_with (first
        | (go_at_call 40; refine (HAt.out _ (by exact c0)).mono ?_; rintro e w' ⟨rfl, hw⟩; have hw := hw.symm; subst hw)
        | (go_at_call 39; refine (HCut.out _).mono ?_; rintro e w' ⟨rfl, hw⟩; have hw := hw.symm; subst hw))
      all_goals
        go_wp2_with fail
        go_region_law (first
          | (refine step_growM _ (by rfl) (.tmp 37) (.tmp 39) (by rfl) g 0 k0 (es.take k0) (by rfl) HTl.out HC2.out b2 n2 c2 ms2 (by rfl) HS2.out hn2 HBg.out ?_; intro v3 w3 hrow3 hg3; obtain ⟨a3, n3, d3, rfl⟩ := hrow3.any3; have HR3 := hide hrow3; have HG3 := hide hg3; have H73 := hide (H72.out.same (hg3.block p (Nat.lt_of_lt_of_le hplt HKW2.out.size) (by intro h; cases h))); obtain ⟨x0, x1, x2, x3, c43, c53, x6, xf⟩ := H73.out; have f43 := xf 4; have f53 := xf 5; clear hrow3 hg3 x0 x1 x2 x3 x6 xf)
          | (go_simp; go_at_call 41; go_must (refine (copyE_at w.heap.size (some ⟨g0, off0, none⟩) len cap ms _ (by simp [World.setCell]) (HEW.out _ (by exact HK4.out.drw.drw.drw.drw)) (by omega) HDM.out).mono ?_); rintro e w2 ⟨b2, n2, c2, ms2, rfl, hE2, hrow2, hok2, hb2⟩; have HE2 := hide hE2; have HR2 := hide hrow2; have HO2 := hide hok2; have hl2 := hrow2.len.1; have hn2 : 0 < n2 := (by rw [← hl2, len_of_map hE2 HLn.out]; exact hl0'); have HS2 := hide (hrow2.is hok2).src; have HKW2 := hide (HK4.out.drw.drw.drw.drw.thenB (Nat.le_refl _) hb2); have HC2 := hide (HCells.out _ HKW2.out); have H72 := hide ((H74.out.same (w' := (w.setCell ⟨p, 4, none⟩ (.slice (some ⟨g, 0, none⟩) k0 k0)).drew.drew.drew.drew) rfl).same (hb2.block p hplt)); have HBg : Hid ((es.take k0).length + ms2.length ≤ 1000000000) := (by show _ ≤ _; rw [HTl.out, len_of_map hE2 HLn.out]; omega); have c42 := H72.out.2.2.2.2.1; clear hE2 hrow2 hok2 hb2 hl2))
        all_goals
          have hat3 : ∀ k, (Value.slice a3 n3 d3).ownBlock = some k → w.heap.size ≤ k := fun k hk => Nat.le_trans HKW2.out.size (HR3.out.lt k hk).1
          have hb3 : Below w2.heap.size w2 w3 := below_none HG3.out
          have hkw3 : Keeps (fun k => k = p) w w3 := HKW2.out.thenB HKW2.out.size hb3
          have hok3 : ∀ m ∈ es.take k0 ++ ms2, m.ok (fun k => X k ∨ (Value.slice a3 n3 d3).ownBlock = some k) w3 := by
            intro m hm
            rcases List.mem_append.1 hm with hm | hm
            · refine MEnt.ok.keep (MEnt.ok.more (X := X) ((HO.out m (List.mem_of_mem_take hm)).lies HKW2.out (fun k e => by rw [e]; exact hx)) ?_) hb3
              rintro k (hk | hk)
              · exact .inl hk
              · exact .inr (HR3.out.lt k hk).1
            · refine MEnt.ok.keep (MEnt.ok.more (HO2.out m hm) ?_) hb3
              rintro k (hk | hk)
              · exact .inl (.inl (hXlt k hk))
              · exact .inr (HR3.out.lt k hk).1
          obtain ⟨x0, x1, x2, x3, x4, x5, x6, xf⟩ := H73.out
          have HP := hide (isL_set4 (X := X) (w := w) (w1 := w3) (base := base) (L := L) (hkw3.weaken (fun k e => by rw [e]; exact SB.at)) hSX.out hplt hp x0 x1 x2 x3 x4 x5 x6 xf HM.out HD.out (HR3.out.mono (Nat.le_trans hbase HKW2.out.size)) hok3 (fun k hk => .inr (hat3 k hk)))
          have HQ := hide (isL_set5 HP.out.1 f)
          have HEq : Hid ((es.take k0 ++ ms2).map MEnt.e = L.es.take k0 ++ ms.map MEnt.e) := by show _ = _; rw [List.map_append, HE2.out, List.map_take, HEs.out]
          clear hok3 hb3 hkw3 x0 x1 x2 x3 x4 x5 x6 xf
          cases z
          · cases y
            · have hdo := dirty_old (y := L.dirty) (f := f) (by simp at hz; exact hz) (by simp at hy; exact hy)
              have HL := hide (app_fin0 HP.out.1 HEq.out hdo)
              clear hdo
              go_wp2
              go_ret
              rw [HApp.out]
              exact ⟨rfl, HL.out, HP.out.2⟩
            · have hdo := dirty_new (y := L.dirty) (f := f) (by simp at hy; exact .inr hy)
              have HL := hide (app_fin1 HP.out.1 HEq.out hdo)
              clear hdo
              go_wp2
              go_ret
              rw [HApp.out]
              exact ⟨rfl, HL.out, HP.out.2.trans HQ.out.2⟩
          · have hdo := dirty_new (y := L.dirty) (f := f) (by simp at hz; exact .inl hz)
            have HL := hide (app_fin1 HP.out.1 HEq.out hdo)
            clear hdo
            go_wp2
            go_ret
            rw [HApp.out]
            exact ⟨rfl, HL.out, HP.out.2.trans HQ.out.2⟩
    · have hke2 : k0 = en := by omega
      have HHas := hide (fun (W : World) (h1 : W.cell? ⟨p, 0, none⟩ = some (.int .u64 L.s.i)) (h2 : W.cell? ⟨p, 4, none⟩ = some (.slice ea en ec)) => has_in p L.s.i f ea en ec false W h1 h2 i0 i1 (by omega) (by omega) (decide_eq_false (by omega)))
      have H70 : Hid (Cells7 w p _ _ _ _ _ _ _) := ⟨c0, c1, c2, c3, c4, c5, c6, HF.out⟩
      have HTk : Hid (L.es.take k0 = L.es) := List.take_of_length_le (by omega)
      obtain ⟨z, y, hz, hy⟩ : ∃ z y : Bool, (L.dirty == 0) = z ∧ decide (f < L.dirty) = y := ⟨_, _, rfl, rfl⟩
      have hen5 : en ≤ 50000 := by omega
      have HB0 : Hid (Below w.heap.size w w.drew.drew.drew) := (((Below.refl _ _).drew).drew).drew
      clear hk0 hel hen hke2 hlt hke
      go_enter Tryz.func13, Tryz.ntmps13
      go_wp2_with (first
        | (go_at_call 36; refine (orE_any p _).mono ?_; rintro e w' ⟨rfl, hw⟩; have hw := hw.symm; subst hw)
        | (go_at_call 37; refine HFt.out.mono ?_; rintro e w' ⟨rfl, hw⟩; have hw := hw.symm; subst hw)
        | (go_at_call 38; go_must (refine (HHas.out _ (by exact c0) (by exact c4)).mono ?_); rintro e w' ⟨rfl, hw⟩; have hw := hw.symm; subst hw))
      go_region_law (first
        | (refine step_joinM _ (by rfl) (.tmp 37) (.tmp 39) (by rfl) base _ es (by rfl) HRw2.out b2 n2 c2 ms2 (by rfl) HS2.out HBg.out HBs.out ?_; intro v3 w3 hrow3 hg3 hat3; obtain ⟨a3, n3, d3, rfl⟩ := hrow3.any3; have HR3 := hide hrow3; have HG3 := hide hg3; have HA3 := hide hat3; have H73 := hide (H72.out.same (hg3.block p (Nat.lt_of_lt_of_le hplt HBW2.out.size) HN.out)); obtain ⟨x0, x1, x2, x3, c43, c53, x6, xf⟩ := H73.out; have f43 := xf 4; have f53 := xf 5; clear hrow3 hg3 hat3 x0 x1 x2 x3 x6 xf)
        | (go_simp; go_at_call 41; go_must (refine (copyE_at w.heap.size (some ⟨g0, off0, none⟩) len cap ms _ (by rfl) (HEW.out _ (by exact (Keeps.self _ w).drw.drw.drw)) (by omega) HDM.out).mono ?_); rintro e w2 ⟨b2, n2, c2, ms2, rfl, hE2, hrow2, hok2, hb2⟩; have HE2 := hide hE2; have HR2 := hide hrow2; have HO2 := hide hok2; have hl2 := hrow2.len.1; have HS2 := hide (hrow2.is hok2).src; have HBW2 := hide (HB0.out.trans hb2); have HRw2 := hide (HR.out.keep HBW2.out); have HBs := hide (Nat.le_trans hbase HBW2.out.size); have H72 := hide (H70.out.same (HBW2.out.block p hplt)); have HBg : Hid (es.length + ms2.length ≤ 1000000000) := (by show _ ≤ _; rw [HEn.out, len_of_map hE2 HLn.out]; omega); have c42 := H72.out.2.2.2.2.1; clear hE2 hrow2 hok2 hb2 hl2))
      all_goals
          have hSBe : ∀ k, (Value.slice ea en ec).ownBlock = some k → SB 4 w p k := fun k hk => .inr ⟨_, c4, hk⟩
          have hoff : ∀ k, (Value.slice ea en ec).ownBlock = some k → k < w.heap.size := fun k hk => (HR.out.lt k hk).2
          have hat4 : ∀ k, (Value.slice a3 n3 d3).ownBlock = some k → (Value.slice ea en ec).ownBlock = some k ∨ w2.heap.size ≤ k := by
            intro k hk
            rcases HA3.out with h | ⟨g', h, hle⟩
            · rw [h] at hk; exact .inl hk
            · rw [h] at hk; cases hk; exact .inr hle
          have hk23 : Keeps (fun k => (Value.slice ea en ec).ownBlock = some k) w2 w3 := ⟨HG3.out.os, HG3.out.tape, HG3.out.output, HG3.out.size, fun k hk hn => HG3.out.block k hk (fun e => hn e.symm)⟩
          have hkw3 : Keeps (SB 4 w p) w w3 := ⟨hk23.os.trans HBW2.out.os, hk23.tape.trans HBW2.out.tape, hk23.output.trans HBW2.out.output, Nat.le_trans HBW2.out.size hk23.size, fun k hk hn => (hk23.block k (Nat.lt_of_lt_of_le hk HBW2.out.size) (fun e => hn (hSBe k e))).trans (HBW2.out.block k hk)⟩
          have hok3 : ∀ m ∈ es ++ ms2, m.ok (fun k => X k ∨ (Value.slice a3 n3 d3).ownBlock = some k) w3 := by
            intro m hm
            rcases List.mem_append.1 hm with hm | hm
            · refine MEnt.ok.lies (MEnt.ok.more (X := X) ((HO.out m hm).keep HBW2.out) ?_) hk23 (fun k hk => .inl (HX4.out k hk))
              rintro k (hk | hk)
              · exact .inl hk
              · exact (hat4 k hk).imp (fun h => HX4.out k h) id
            · refine MEnt.ok.lies (MEnt.ok.more (HO2.out m hm) ?_) hk23 (fun k hk => .inl (HX4.out k hk))
              rintro k (hk | hk)
              · exact .inl (.inl (hXlt k hk))
              · exact (hat4 k hk).imp (fun h => .inl (hoff k h)) id
          obtain ⟨x0, x1, x2, x3, x4, x5, x6, xf⟩ := H73.out
          have HP := hide (isL_set4 (X := X) (w := w) (w1 := w3) (base := base) (L := L) hkw3 hSX.out hplt hp x0 x1 x2 x3 x4 x5 x6 xf HM.out HD.out HR3.out hok3 (fun k hk => (hat4 k hk).imp (fun h => ⟨hSBe k h, fun e => HN.out (by rw [← e]; exact h.symm)⟩) (fun h => Nat.le_trans HBW2.out.size h)))
          have HQ := hide (isL_set5 HP.out.1 f)
          have HEq : Hid ((es ++ ms2).map MEnt.e = L.es.take k0 ++ ms.map MEnt.e) := by show _ = _; rw [List.map_append, HE2.out, HEs.out, HTk.out]
          clear hok3 hk23 hkw3 hat4 hoff hSBe x0 x1 x2 x3 x4 x5 x6 xf
          cases z
          · cases y
            · have hdo := dirty_old (y := L.dirty) (f := f) (by simp at hz; exact hz) (by simp at hy; exact hy)
              have HL := hide (app_fin0 HP.out.1 HEq.out hdo)
              clear hdo
              go_wp2
              go_ret
              rw [HApp.out]
              exact ⟨rfl, HL.out, HP.out.2⟩
            · have hdo := dirty_new (y := L.dirty) (f := f) (by simp at hy; exact .inr hy)
              have HL := hide (app_fin1 HP.out.1 HEq.out hdo)
              clear hdo
              go_wp2
              go_ret
              rw [HApp.out]
              exact ⟨rfl, HL.out, HP.out.2.trans HQ.out.2⟩
          · have hdo := dirty_new (y := L.dirty) (f := f) (by simp at hz; exact .inl hz)
            have HL := hide (app_fin1 HP.out.1 HEq.out hdo)
            clear hdo
            go_wp2
            go_ret
            rw [HApp.out]
            exact ⟨rfl, HL.out, HP.out.2.trans HQ.out.2⟩
  · rw [appL_no HNe.out hF]
    have HF := hide (fit_no p L ea en ec _ a len cap ms w c0 c4 i0 i1 hel (by omega) HE.out hl0' (by omega) hF)
    have hlz : ((len : Int) == 0) = false := by simp; omega
    clear hm hd' hr he ho hn hx hx4 hf hlen hE ha hF
    go_enter Tryz.func13, Tryz.ntmps13
    go_wp2_with (first
      | (go_at_call 36; refine (orE_any p _).mono ?_; rintro e w' ⟨rfl, hw⟩; have hw := hw.symm; subst hw)
      | (go_at_call 37; refine HF.out.mono ?_; rintro e w1 ⟨rfl, hb1⟩))
    go_ret
    refine ⟨rfl, (H.out.keep hb1).more (fun k hk => hk.elim .inl (fun h => .inl (hSX.out k (h.same (hb1.block p hplt))))) (fun k hk => .inr hk), SPost.of_below hplt hb1⟩

end Go.Proofs.YtfojpengdpnigaaGreat
