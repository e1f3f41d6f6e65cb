/- The terms that a log tells. A log under a snapshot. The reference's Install. -/
import Derived.Test.YtodmieehdleohaaGreatRpA
import Derived.Test.YtodmieehdleohaaGreatRrA
namespace Go.Proofs.YtodmieehdleohaaGreat
open Go.RowKit NumMath
set_option linter.unusedVariables false
set_option maxRecDepth 100000

theorem termL_snap {L : LogS} {x : Int} (h : x = L.s.i) : termL L x = (L.s.t, true) := by unfold termL; rw [if_pos h]
theorem termL_no {L : LogS} {x : Int} (h0 : ¬ x = L.s.i) (h : x < L.s.i + 1 ∨ L.s.i + L.es.length < x) : termL L x = (0, false) := by unfold termL; rw [if_neg h0, if_pos h]

set_option maxHeartbeats 400000 in
theorem term_any (X : Nat → Prop) (base p : Nat) (L : LogS) (x : Int) (w : World) (h : IsL X w base p L) (hG : L.Good) (hx : 0 ≤ x) :
    Calls Tryz.prog 112 #[.pointer (some ⟨p, 0, none⟩), .int .u64 x] w fun e w' => e = .returned (.tuple #[.int .u64 (termL L x).1, .bool (termL L x).2]) ∧ Below w.heap.size w w' := by
  obtain ⟨ma, mn, mc, da, dn, dc, ea, en, ec, es, c0, c1, c2, c3, c4, c5, c6, hf, hm, hd', hr, he, ho, hp, hn, hxp, hx4⟩ := h
  have hen := hr.len.1
  have hel : L.es.length = en := by rw [← he, List.length_map, hen]
  have hn5 : en ≤ 100000 := by have := hG.n; omega
  have i0 := hG.i0
  have i1 := hG.i1
  by_cases g0 : x = L.s.i
  · rw [termL_snap g0]
    have hq : (x == L.s.i) = true := by simp [g0]
    clear hm hd' hr he ho hn hxp hx4 hf hel hen hG g0
    go_enter Tryz.func112, Tryz.ntmps112
    go_wp2_with (first
      | (go_at_call 36; refine (orE_any p _).mono ?_; rintro e w' ⟨rfl, hw⟩; have hw := hw.symm; subst hw))
    go_ret2
    exact ⟨rfl, Below.refl _ _⟩
  have hq : (x == L.s.i) = false := by simp [g0]
  by_cases g1 : x < L.s.i + 1
  · rw [termL_no g0 (.inl g1)]
    clear hm hd' hr he ho hn hxp hx4 hf hel hen hG g0
    go_enter Tryz.func112, Tryz.ntmps112
    go_wp2_with (first
      | (go_at_call 36; refine (orE_any p _).mono ?_; rintro e w' ⟨rfl, hw⟩; have hw := hw.symm; subst hw)
      | (go_at_call 38; go_must (refine (has_low p L.s.i x _ c0 i0 i1 g1).mono ?_); rintro e w' ⟨rfl, hw⟩; have hw := hw.symm; subst hw))
    go_ret2
    exact ⟨rfl, Below.refl _ _⟩
  by_cases g2 : L.s.i + L.es.length < x
  · rw [termL_no g0 (.inr g2)]
    have HH := hide (has_in p L.s.i x ea en ec false w c0 c4 i0 i1 hn5 (by omega) (decide_eq_false (by omega)))
    clear hm hd' hr he ho hn hxp hx4 hf hel hen hG g0
    go_enter Tryz.func112, Tryz.ntmps112
    go_wp2_with (first
      | (go_at_call 36; refine (orE_any p _).mono ?_; rintro e w' ⟨rfl, hw⟩; have hw := hw.symm; subst hw)
      | (go_at_call 38; go_must (refine HH.out.mono ?_); rintro e w' ⟨rfl, hw⟩; have hw := hw.symm; subst hw))
    go_ret2
    exact ⟨rfl, (Below.refl _ _).drew⟩
  obtain ⟨k, hk⟩ : ∃ k : Nat, x = L.s.i + 1 + k := ⟨(x - (L.s.i + 1)).toNat, by omega⟩
  have hkl : k < L.es.length := by omega
  rw [termL_at k hk hkl]
  have hke : k < en := by omega
  have HH := hide (has_in p L.s.i x ea en ec true w c0 c4 i0 i1 hn5 (by omega) (decide_eq_true (by omega)))
  have HAt := hide (fun (W : World) (hW : W.cell? ⟨p, 0, none⟩ = some (.int .u64 L.s.i)) => at_any p L.s.i x k W hW i0 i1 (by omega) hk)
  obtain ⟨g, hga, hg1, hg2, hcell, hfr⟩ := hr.row (by omega)
  subst hga
  have hgT := (hcell k hke).2.1
  have HTe : Hid ((es.getD k ment0).e.t = (L.es.getD k ent0).t) := by show _ = _; rw [← he, getD_map_e]
  rw [HTe.out] at hgT
  clear hm hd' hr he ho hn hxp hx4 hf hel hen hG g0 hcell hfr hk hkl g1 g2 HTe
  generalize (L.es.getD k ent0).t = tk at *
  go_enter Tryz.func112, Tryz.ntmps112
  go_wp2_with (first
    | (go_at_call 36; refine (orE_any p _).mono ?_; rintro e w' ⟨rfl, hw⟩; have hw := hw.symm; subst hw)
    | (go_at_call 38; go_must (refine HH.out.mono ?_); rintro e w' ⟨rfl, hw⟩; have hw := hw.symm; subst hw))
  go_region_held3 (fun W => W.cell? ⟨p, 4, none⟩ = some (.slice (some ⟨g, 0, none⟩) en ec) ∧ W.cell? ⟨g, k * 4 + 1, none⟩ = some (.int .u64 tk)) (first | go_keep) (first
    | (go_at_call 40; refine (HAt.out _ (by exact c0)).mono ?_; rintro e w' ⟨rfl, hw⟩; have hw := hw.symm; subst hw))
  all_goals
    go_wp2
    go_ret2
    exact ⟨rfl, ((Below.refl _ w).drew).drew⟩

set_option maxHeartbeats 400000 in
theorem xterm_any (X : Nat → Prop) (base p : Nat) (L : LogS) (x : Int) (w : World) (h : IsL X w base p L) (hG : L.Good) :
    Calls Tryz.prog 87 #[.pointer (some ⟨p, 0, none⟩), .int .u64 x] w fun e w' => e = .returned (.tuple #[.int .u64 (termL L x).1, .bool (termL L x).2]) ∧ Below w.heap.size w w' := by
  by_cases g0 : x = L.s.i
  · rw [termL_snap g0]
    obtain ⟨ma, mn, mc, da, dn, dc, ea, en, ec, es, c0, c1, c2, c3, c4, -⟩ := h
    have hq : (x == L.s.i) = true := by simp [g0]
    clear g0 hG
    go_enter Tryz.func87, Tryz.ntmps87
    go_wp2
    go_ret2
    exact ⟨rfl, Below.refl _ _⟩
  by_cases g1 : x < L.s.i + 1 ∨ L.s.i + L.es.length < x
  · rw [termL_no g0 g1]
    obtain ⟨ma, mn, mc, da, dn, dc, ea, en, ec, es, c0, c1, c2, c3, c4, c5, c6, hf, hm, hd', hr, he, ho, -⟩ := h
    have hq : (x == L.s.i) = false := by simp [g0]
    have hen := hr.len.1
    have hel : L.es.length = en := by rw [← he, List.length_map, hen]
    have HI := hide (hr.is ho)
    have HAt : Hid (∀ j, j < en → ((es.getD j ment0).e.i == x) = false) := fun j hj => by
      have e1 : (es.getD j ment0).e.i = L.s.i + 1 + j := by rw [← getD_map_e, he]; exact hG.at_ j (by omega)
      rw [e1]
      simp
      omega
    have HE := hide hen
    have hn5 : en ≤ 100000 := by have := hG.n; omega
    clear hm hd' hr he ho hf hel hen hG g1 g0
    go_enter Tryz.func87, Tryz.ntmps87
    go_wp2
    go_loopw [25] (fun i wr => ∃ j : Nat, j ≤ en ∧ i = .int .i64 j ∧ Below w.heap.size w wr) (fun i _ => en - (intOf i).toNat)
    case atStart => exact ⟨0, Nat.zero_le _, rfl, Below.refl _ _⟩
    case round =>
      obtain ⟨j, hj, rfl, hb⟩ := hrel
      by_cases hlt : j < en
      · obtain ⟨g, off, rfl, hg, hC⟩ := HI.out.at hlt
        obtain ⟨q0, q1, q2, q3⟩ := (hC j (by have := HE.out; omega)).same (hb.block g hg)
        have hq2 := HAt.out j hlt
        generalize es.getD j ment0 = m at *
        obtain ⟨⟨mi, mt, mk, md⟩, mb, mn', mc'⟩ := m
        dsimp only at q0 q1 q2 q3 hq2
        clear hC
        go_wp2
        go_roundw
        case rel => exact ⟨j + 1, by omega, by go_num, hb.trans ((new_below _ _).mono hb.size)⟩
        case measure => simp [intOf]; omega
      · have hjn : j = en := by omega
        subst hjn
        go_wp2
        go_ret2
        exact ⟨rfl, hb⟩
  obtain ⟨k, hk⟩ : ∃ k : Nat, x = L.s.i + 1 + k := ⟨(x - (L.s.i + 1)).toNat, by omega⟩
  have hkl : k < L.es.length := by omega
  rw [termL_at k hk hkl]
  exact xterm_at X base p L x k w h hG hk hkl

end Go.Proofs.YtodmieehdleohaaGreat

namespace Go.Proofs.YtodmieehdleohaaGreat
open Go.RowKit NumMath
set_option linter.unusedVariables false
set_option maxRecDepth 100000

/-- the snapshot as a log keeps it -/
def capS (s : Snp) : Snp := ⟨capI s.i, s.t, s.m, s.d⟩

/-- what of the log stands behind the snapshot -/
def restL (L : LogS) (s : Snp) : List Ent := if (termL L (capI s.i)).2 = true ∧ (termL L (capI s.i)).1 = s.t then entsL L (capI s.i + 1) m63 else []

theorem restL_yes {L : LogS} {s : Snp} (h : (termL L (capI s.i)).2 = true ∧ (termL L (capI s.i)).1 = s.t) : restL L s = entsL L (capI s.i + 1) m63 := if_pos h
theorem restL_no {L : LogS} {s : Snp} (h : ¬ ((termL L (capI s.i)).2 = true ∧ (termL L (capI s.i)).1 = s.t)) : restL L s = [] := if_neg h

theorem capI_rng {i : Int} (h : 0 ≤ i) : 0 ≤ capI i ∧ capI i ≤ 4611686018427387904 := by unfold capI; split <;> omega

theorem under_fin {w w1 w2 w3 : World} {B0 B g : Nat} {s : Snp} {el : List Ent} {a3 : Option Addr} {n3 d3 : Nat} {ms3 : List MEnt} (hL : IsL (fun k => k < B ∨ k = g) w1 B g ⟨s, [], 0, false⟩) (hb0 : Below B0 w w1) (hB : B0 ≤ B) (hb2 : Below w1.heap.size w1 w2) (hb3 : Below w2.heap.size w2 w3)
    (hE : ms3.map MEnt.e = el) (hr : RowM w3 w2.heap.size (.slice a3 n3 d3) ms3) (ho : ∀ m ∈ ms3, m.ok (fun k => k < w2.heap.size ∨ (Value.slice a3 n3 d3).ownBlock = some k) w3) (hB1 : B ≤ w1.heap.size) :
    IsL (fun k => k < B0 ∨ SB 4 (w3.setCell ⟨g, 4, none⟩ (.slice a3 n3 d3)) g k) (w3.setCell ⟨g, 4, none⟩ (.slice a3 n3 d3)) B0 g ⟨s, el, 0, false⟩ ∧ Below B0 w (w3.setCell ⟨g, 4, none⟩ (.slice a3 n3 d3)) := by
  have hg := hL.at
  have hSX : ∀ k, SB 4 w1 g k → (k < B ∨ k = g) := fun k hk => (hL.lt hk).2.2
  have hb13 : Below w1.heap.size w1 w3 := hb2.trans (hb3.mono hb2.size)
  have hs2 := hb2.size
  have h3 := hL.keep hb13
  obtain ⟨ma, mn, mc, da, dn, dc, ea, en, ec, es, c0, c1, c2, c3, c4, c5, c6, hf, hm, hd', hr', he, ho', hp, hn, hx, hx4⟩ := hL
  have e : ∀ i, w3.cell? ⟨g, i, none⟩ = w1.cell? ⟨g, i, none⟩ := fun i => hb13.cell (p := ⟨g, i, none⟩) hg
  obtain ⟨h4, hS⟩ := isL_set4 (X := fun k => k < B ∨ k = g) (w := w1) (w1 := w3) (base := B) (L := ⟨s, [], 0, false⟩) (Below.keeps hb13 _) hSX hg hp ((e 0).trans c0) ((e 1).trans c1) ((e 2).trans c2) ((e 3).trans c3) ((e 4).trans c4) ((e 5).trans c5) ((e 6).trans c6) (fun i => (hb13.frozen (p := ⟨g, i, none⟩) hg).trans (hf i)) hm hd' (hr.mono (Nat.le_trans hB1 hs2)) (fun m hm => (ho m hm).more (fun k hk => by
    rcases hk with (hk | hk) | hk
    · exact .inl (.inl (by omega))
    · exact .inl (.inl (by omega))
    · exact .inl (.inr hk))) (fun k hk => .inr (by have := (hr.lt k hk).1; omega))
  rw [hE] at h4
  refine ⟨(h4.more (fun k hk => .inl ?_) (fun k hk => .inr hk)).mono hB, hb0.trans (hS.below (Nat.le_trans hB hB1) (fun k hk => ?_))⟩
  · rcases hk with hk | hk
    · exact .inl (.inl (by omega))
    · exact .inr hk
  · rcases hk with rfl | ⟨v, hv, hk⟩
    · omega
    · rw [c4] at hv
      cases hv
      have := (hr'.lt k hk).1
      omega

set_option maxHeartbeats 400000 in
theorem under_any (X : Nat → Prop) (base p : Nat) (L : LogS) (s : Snp) (ma : Option Addr) (mn mc : Nat) (da : Option Addr) (dn dc : Nat) (w : World) (h : IsL X w base p L) (hG : L.Good) (hi : 0 ≤ s.i) (hm : IsNums w ma mn mc s.m) (hd : IsBytes w da dn dc s.d) (h1 : mn ≤ 100000) (h2 : dn ≤ 100000) :
    Calls Tryz.prog 168 #[.pointer (some ⟨p, 0, none⟩), .agg #[.int .u64 s.i, .int .u64 s.t, .slice ma mn mc, .slice da dn dc]] w fun e w' => ∃ g, e = .returned (.pointer (some ⟨g, 0, none⟩)) ∧ IsL (fun k => k < w.heap.size ∨ SB 4 w' g k) w' w.heap.size g ⟨capS s, restL L s, 0, false⟩ ∧ Below w.heap.size w w' := by
  have hp := h.at
  have hc := capI_rng hi
  have c0g := hc.1
  have c1g : capI s.i ≤ 9000000000000000000 := by omega
  have HBx := hide (box4_new w (.int .u64 s.i) (.int .u64 s.t) (.slice ma mn mc) (.slice da dn dc) 28 _ rfl)
  have HW := hide (new_below w (.cells #[.int .u64 s.i, .int .u64 s.t, .slice ma mn mc, .slice da dn dc] 28))
  have HNew := hide (fun (W : World) (hW : Below w.heap.size w W) => new_any (fun k => k < W.heap.size) s.i s.t ma mn mc s.m da dn dc s.d W (fun _ h => h) (hm.keep hW) (hd.keep hW) h1 (by omega))
  have HTm := hide (fun (W : World) (hW : Below w.heap.size w W) => term_any X base p L (capI s.i) W (h.keep hW) hG hc.1)
  have HEn := hide (fun (W : World) (hW : Below w.heap.size w W) => ents_any X base p L (capI s.i + 1) m63 W (h.keep hW) hG (by omega) (by decide) (by decide))
  have HY := hide (@restL_yes L s)
  have HN := hide (@restL_no L s)
  have hcs : Hid (capS s = ⟨capI s.i, s.t, s.m, s.d⟩) := rfl
  clear h hG hm hd hi hc
  generalize termL L (capI s.i) = tt at *
  obtain ⟨tv, tb⟩ := tt
  dsimp only at *
  generalize restL L s = rl at *
  generalize entsL L (capI s.i + 1) m63 = el at *
  by_cases hcnd : tb = true ∧ tv = s.t
  · obtain ⟨rfl, rfl⟩ := hcnd
    have hrl := HY.out ⟨rfl, rfl⟩
    subst hrl
    go_enter Tryz.func168, Tryz.ntmps168
    go_wp2_with (first
      | (go_at_call 11; go_must (refine (HNew.out _ (by exact HW.out)).mono ?_); rintro e w1 ⟨g, rfl, hg, hL1, hb1⟩; have HL1 := hide hL1; have HB1 : Hid (Below w.heap.size w w1) := HW.out.trans (hb1.mono HW.out.size); obtain ⟨-, -, -, -, -, -, -, -, -, -, y0, -⟩ := hL1; obtain ⟨-, z1, -⟩ := HBx.out.keep hb1 (by simp); have hgw := hide (show w.heap.size < g from (by have := hg; simp at this; omega)); have HBB := hide hb1; clear hg hb1)
      | (go_at_call 112; go_must (refine (HTm.out _ (by exact HB1.out)).mono ?_); rintro e w2 ⟨rfl, hb2⟩; have HB2 := hide hb2; obtain ⟨-, z1', -⟩ := (HBx.out.keep HBB.out (by simp)).keep hb2 (Nat.lt_of_lt_of_le (by simp) HBB.out.size); clear hb2)
      | (go_at_call 33; go_must (refine (first_any g (capI s.i) _ (by exact (HB2.out.cell (p := ⟨g, 0, none⟩) HL1.out.at).trans y0) c0g c1g).mono ?_); rintro e w' ⟨rfl, hw⟩; have hw := hw.symm; subst hw)
      | (go_at_call 32; go_must (refine (HEn.out _ (by exact HB1.out.trans (HB2.out.mono HB1.out.size))).mono ?_); rintro e w3 ⟨a3, n3, d3, ms3, rfl, hE3, hr3, ho3, hb3⟩; have HE3 := hide hE3; have HR3 := hide hr3; have HO3 := hide ho3; have HB3 : Hid (Below w1.heap.size w1 w3) := HB2.out.trans (hb3.mono HB2.out.size); have hHL := HL1.out.keep HB3.out; have HB23 := hide hb3; obtain ⟨-, -, -, -, -, -, ea, en, ec, -, -, -, -, -, y4, -, -, yf, -⟩ := hHL; have yf4 := yf 4; clear hE3 hr3 ho3 hb3 yf))
    go_ret
    rw [hcs.out]
    obtain ⟨hF, hFb⟩ := under_fin (B0 := w.heap.size) HL1.out HB1.out HW.out.size HB2.out HB23.out HE3.out HR3.out HO3.out HBB.out.size
    exact ⟨g, rfl, hF, hFb⟩
  · have hrl := HN.out hcnd
    subst hrl
    have hcs2 : (tb && (tv == s.t)) = false := by
      cases tb
      · rfl
      · have : ¬ tv = s.t := fun e => hcnd ⟨rfl, e⟩
        simp [this]
    obtain ⟨y, hy⟩ : ∃ y : Bool, (tv == s.t) = y := ⟨_, rfl⟩
    rw [hy] at hcs2
    have hlast : tb = false ∨ (tb = true ∧ y = false) := by cases tb <;> simp_all
    clear hcs2 hcnd
    rcases hlast with rfl | ⟨rfl, rfl⟩
    all_goals
      go_enter Tryz.func168, Tryz.ntmps168
      go_wp2_with (first
        | (go_at_call 11; go_must (refine (HNew.out _ (by exact HW.out)).mono ?_); rintro e w1 ⟨g, rfl, hg, hL1, hb1⟩; have HL1 := hide hL1; have HB1 : Hid (Below w.heap.size w w1) := HW.out.trans (hb1.mono HW.out.size); obtain ⟨-, -, -, -, -, -, -, -, -, -, y0, -⟩ := hL1; obtain ⟨-, z1, -⟩ := HBx.out.keep hb1 (by simp); have HBB := hide hb1; clear hg hb1)
        | (go_at_call 112; go_must (refine (HTm.out _ (by exact HB1.out)).mono ?_); rintro e w2 ⟨rfl, hb2⟩; have HB2 := hide hb2; obtain ⟨-, z1', -⟩ := (HBx.out.keep HBB.out (by simp)).keep hb2 (Nat.lt_of_lt_of_le (by simp) HBB.out.size); clear hb2))
      go_ret
      rw [hcs.out]
      have hL2 := HL1.out.keep HB2.out
      refine ⟨g, rfl, (hL2.more (fun k hk => .inl ?_) (fun k hk => .inr hk)).mono HW.out.size, HB1.out.trans (HB2.out.mono HB1.out.size)⟩
      rcases hk with hk | hk
      · exact .inl (Nat.lt_of_lt_of_le hk HW.out.size)
      · exact (hL2.lt hk).2.2

end Go.Proofs.YtodmieehdleohaaGreat

namespace Go.Proofs.YtodmieehdleohaaGreat
open Go.RowKit NumMath
set_option linter.unusedVariables false
set_option maxRecDepth 100000

theorem entsL_drop {L : LogS} {x : Int} (k : Nat) (hk : x = L.s.i + 1 + k) (h : k ≤ L.es.length) (hn : L.es.length ≤ 100000) : entsL L x m63 = L.es.drop k := by
  by_cases h0 : k = L.es.length
  · rw [entsL_no (.inr (.inl (by omega))), List.drop_of_length_le (by omega)]
  · rw [entsL_yes (by show ¬ (_ ∨ _ ∨ (9223372036854775807 : Int) < 1); omega), show (x - (L.s.i + 1)).toNat = k by omega, List.take_of_length_le (by rw [List.length_drop]; show _ ≤ (9223372036854775807 : Int).toNat; omega)]

theorem termL_in {L : LogS} {x : Int} (h : (termL L x).2 = true) : L.s.i ≤ x ∧ x ≤ L.s.i + L.es.length := by
  unfold termL at h
  split at h
  · omega
  · split at h
    · cases h
    · omega

set_option maxHeartbeats 1600000 in
theorem xinst_any (X : Nat → Prop) (base p : Nat) (L : LogS) (s : Snp) (ma : Option Addr) (mn mc : Nat) (da : Option Addr) (dn dc : Nat) (w : World) (h : IsL X w base p L) (hG : L.Good) (hi : 0 ≤ s.i) (hm : NumX X w ma mn mc s.m) (hd : DatB X w da dn dc s.d) (hXlt : ∀ k, X k → k < w.heap.size) (hbase : base ≤ w.heap.size) :
    Calls Tryz.prog 128 #[.pointer (some ⟨p, 0, none⟩), .agg #[.int .u64 s.i, .int .u64 s.t, .slice ma mn mc, .slice da dn dc]] w fun e w' => e = .returned (.tuple #[]) ∧ ∃ y, (0 ≤ y ∧ y ≤ 18446744073709551615) ∧ IsL (fun k => X k ∨ SB 4 w' p k) w' base p ⟨capS s, restL L s, y, true⟩ ∧ SPost 4 w p w' := by
  have hplt := h.at
  have hc := capI_rng hi
  have c0g := hc.1
  have c1g : capI s.i ≤ 9000000000000000000 := by omega
  have hwx : IntKind.u64.wrap (capI s.i + 1) = capI s.i + 1 := kwrap_u64 _ (by omega) (by omega)
  have HBx := hide (box4_new w (.int .u64 (capI s.i)) (.int .u64 s.t) (.slice ma mn mc) (.slice da dn dc) 28 _ rfl)
  have HW := hide (new_below w (.cells #[.int .u64 (capI s.i), .int .u64 s.t, .slice ma mn mc, .slice da dn dc] 28))
  have HTm := hide (fun (W : World) (hW : Below w.heap.size w W) => xterm_any X base p L (capI s.i) W (h.keep hW) hG)
  have HTi := hide (@termL_in L (capI s.i))
  have HY := hide (@restL_yes L s)
  have HN := hide (@restL_no L s)
  have hcs : Hid (capS s = ⟨capI s.i, s.t, s.m, s.d⟩) := rfl
  obtain ⟨ma', mn', mc', da', dn', dc', ea, en, ec, es, c0, c1, c2, c3, c4, c5, c6, hf, hm', hd', hr, he, ho, hp, hn, hxp, hx4⟩ := h
  have hen := hr.len.1
  have hel : L.es.length = en := by rw [← he, List.length_map, hen]
  have hn5 : en ≤ 100000 := by have := hG.n; omega
  have HEl := hide hel
  have HEn := hide (fun (W : World) (hW : Below w.heap.size w W) (k : Nat) (hk : capI s.i + 1 = L.s.i + 1 + k) => xents_any X base p L es (capI s.i + 1) k en W ea en ec ((hW.cell (p := ⟨p, 0, none⟩) hplt).trans c0) ((hW.cell (p := ⟨p, 4, none⟩) hplt).trans c4) ((hr.is ho).keep hW) he hG hk (by omega) (by omega))
  have HDr := hide (fun (k : Nat) (hk : capI s.i + 1 = L.s.i + 1 + k) (h : k ≤ L.es.length) => entsL_drop (L := L) k hk h (by omega))
  have HO := hide ho
  have HEs := hide he
  have HNm := hide hm
  have HDt := hide hd
  have H70 : Hid (Cells7 w p _ _ _ _ _ _ _) := ⟨c0, c1, c2, c3, c4, c5, c6, hf⟩
  have hyr := hide (And.intro hG.y0 hG.y1)
  have hc1 : (4611686018427387904 < s.i ∧ capI s.i = 4611686018427387904) ∨ (¬ 4611686018427387904 < s.i ∧ capI s.i = s.i) := by
    unfold capI
    by_cases h : 4611686018427387904 < s.i
    · exact .inl ⟨h, if_pos h⟩
    · exact .inr ⟨h, if_neg h⟩
  have hwx2 : IntKind.u64.wrap 4611686018427387905 = 4611686018427387905 := kwrap_u64 _ (by decide) (by decide)
  clear hm hd hi hc hm' hd' hr he ho hf hn hx4 hel hen hG
  generalize termL L (capI s.i) = tt at *
  obtain ⟨tv, tb⟩ := tt
  dsimp only at *
  obtain ⟨z, hz⟩ : ∃ z : Bool, (L.dirty == 0) = z := ⟨_, rfl⟩
  by_cases hcnd : tb = true ∧ tv = s.t
  · obtain ⟨rfl, rfl⟩ := hcnd
    have hrl := HY.out ⟨rfl, rfl⟩
    obtain ⟨t1, t2⟩ := HTi.out rfl
    obtain ⟨k, hk⟩ : ∃ k : Nat, capI s.i + 1 = L.s.i + 1 + k := ⟨(capI s.i - L.s.i).toNat, by omega⟩
    have hdr := HDr.out k hk (by omega)
    have HRl := hide (hrl.trans hdr)
    have HEk := hide (fun (W : World) (hW : Below w.heap.size w W) => HEn.out W hW k hk)
    clear hrl hdr t1 t2 HY HN HTi HDr HEn hk
    generalize restL L s = rl at *
    generalize capI s.i = cj at *
    rcases hc1 with ⟨hc1, rfl⟩ | ⟨hc1, rfl⟩
    · go_enter Tryz.func128, Tryz.ntmps128
      go_wp2_with (first
        | (go_at_call 87; go_must (refine (HTm.out _ (by exact HW.out)).mono ?_); rintro e w2 ⟨rfl, hb2⟩; have HB2 : Hid (Below w.heap.size w w2) := HW.out.trans (hb2.mono HW.out.size); obtain ⟨z0, z1, z2, z3, zf⟩ := HBx.out.keep hb2 (by simp); have HZ := hide (show Box4 w2 w.heap.size _ _ _ _ from ⟨z0, z1, z2, z3, zf⟩); have H72 := hide (H70.out.same (HB2.out.block p hplt)); have y4 := H72.out.2.2.2.2.1; clear hb2 zf HW HBx HTm))
      generalize hgen : (4611686018427387904 : Int) = ci at *; have HGEN := hide hgen; clear hgen hc1 hwx2
      have hbE : Hid (w2.drew.cell? ⟨w.heap.size, 0, none⟩ = some (.int .u64 ci) ∧ w2.drew.cell? ⟨p, 4, none⟩ = some (.slice ea en ec)) := ⟨z0, y4⟩
      go_region_held3 (fun W => W.cell? ⟨w.heap.size, 0, none⟩ = some (.int .u64 ci) ∧ W.cell? ⟨p, 4, none⟩ = some (.slice ea en ec)) (first | with_reducible exact hbE.out) (first
        | (go_at_call 133; refine (HEk.out _ (by exact HB2.out.drew)).mono ?_; rintro e w5 ⟨a5, n5, d5, rfl, hr5, ho5, hb5⟩; have hb5' : Below w2.heap.size w2 w5 := ⟨hb5.os, hb5.tape, hb5.output, hb5.size, hb5.block⟩; have HB5 := hide hb5'; have HR5 := hide hr5; obtain ⟨z0, z1, z2, z3, -⟩ := HZ.out.keep hb5' (World.block_lt_of_cell? _ ⟨w.heap.size, 0, none⟩ z0); have H75 := hide (H72.out.same (hb5'.block p (Nat.lt_of_lt_of_le hplt HB2.out.size))); have hbE : Hid (w5.cell? ⟨w.heap.size, 0, none⟩ = some (.int .u64 ci) ∧ w5.cell? ⟨p, 4, none⟩ = some (.slice ea en ec)) := ⟨z0, H75.out.2.2.2.2.1⟩; obtain ⟨s0, s1, s2, s3, s4, s5, s6, sf⟩ := H75.out; have u0 := sf 0; have u1 := sf 1; have u2 := sf 2; have u3 := sf 3; have u4 := sf 4; have u5 := sf 5; have u6 := sf 6; clear sf; clear hr5 ho5 hb5 hb5'))
      all_goals
        have HF := hide (xcomp_fin (w := w) (X := X) (base := base) (E := L.es.drop k) (x := ci) (tk := s.t) (HNm.out.keep HB2.out) HB2.out HR5.out HB5.out HDt.out H75.out (fun m hm => HO.out m (List.mem_of_mem_drop hm)) (by rw [List.map_drop, HEs.out]) hplt hxp hp hbase _ rfl)
        have HK := hide (((((((Keeps.self (fun k => k = p) w5).also (i := 0) (.int .u64 ci)).also (i := 1) (.int .u64 s.t)).also (i := 2) (.slice ma mn mc)).also (i := 3) (.slice da dn dc)).also (i := 4) (.slice a5 n5 d5)).also (i := 6) (.bool true))
        have hne : ¬ w.heap.size = p := by omega
        have hne2 : ¬ p = w.heap.size := by omega
        have HQ := hide (isL_set5 HF.out.1 (ci + 1))
        cases z
        · have HL2 := hide (app_fin1 (f := ci + 1) HF.out.1 rfl rfl)
          go_wp2
          go_end0
          rw [hcs.out, HRl.out]
          exact ⟨rfl, ci + 1, by omega, HL2.out, HF.out.2.trans HQ.out.2⟩
        · go_wp2
          go_end0
          rw [hcs.out, HRl.out]
          exact ⟨rfl, L.dirty, hyr.out, HF.out.1, HF.out.2⟩
    · go_enter Tryz.func128, Tryz.ntmps128
      go_wp2_with (first
        | (go_at_call 87; go_must (refine (HTm.out _ (by exact HW.out)).mono ?_); rintro e w2 ⟨rfl, hb2⟩; have HB2 : Hid (Below w.heap.size w w2) := HW.out.trans (hb2.mono HW.out.size); obtain ⟨z0, z1, z2, z3, zf⟩ := HBx.out.keep hb2 (by simp); have HZ := hide (show Box4 w2 w.heap.size _ _ _ _ from ⟨z0, z1, z2, z3, zf⟩); have H72 := hide (H70.out.same (HB2.out.block p hplt)); have y4 := H72.out.2.2.2.2.1; clear hb2 zf HW HBx HTm))
      generalize hgen : s.i = ci at *; have HGEN := hide hgen; clear hgen hc1 hwx2
      have hbE : Hid (w2.drew.cell? ⟨w.heap.size, 0, none⟩ = some (.int .u64 ci) ∧ w2.drew.cell? ⟨p, 4, none⟩ = some (.slice ea en ec)) := ⟨z0, y4⟩
      go_region_held3 (fun W => W.cell? ⟨w.heap.size, 0, none⟩ = some (.int .u64 ci) ∧ W.cell? ⟨p, 4, none⟩ = some (.slice ea en ec)) (first | with_reducible exact hbE.out) (first
        | (go_at_call 133; refine (HEk.out _ (by exact HB2.out.drew)).mono ?_; rintro e w5 ⟨a5, n5, d5, rfl, hr5, ho5, hb5⟩; have hb5' : Below w2.heap.size w2 w5 := ⟨hb5.os, hb5.tape, hb5.output, hb5.size, hb5.block⟩; have HB5 := hide hb5'; have HR5 := hide hr5; obtain ⟨z0, z1, z2, z3, -⟩ := HZ.out.keep hb5' (World.block_lt_of_cell? _ ⟨w.heap.size, 0, none⟩ z0); have H75 := hide (H72.out.same (hb5'.block p (Nat.lt_of_lt_of_le hplt HB2.out.size))); have hbE : Hid (w5.cell? ⟨w.heap.size, 0, none⟩ = some (.int .u64 ci) ∧ w5.cell? ⟨p, 4, none⟩ = some (.slice ea en ec)) := ⟨z0, H75.out.2.2.2.2.1⟩; obtain ⟨s0, s1, s2, s3, s4, s5, s6, sf⟩ := H75.out; have u0 := sf 0; have u1 := sf 1; have u2 := sf 2; have u3 := sf 3; have u4 := sf 4; have u5 := sf 5; have u6 := sf 6; clear sf; clear hr5 ho5 hb5 hb5'))
      all_goals
        have HF := hide (xcomp_fin (w := w) (X := X) (base := base) (E := L.es.drop k) (x := ci) (tk := s.t) (HNm.out.keep HB2.out) HB2.out HR5.out HB5.out HDt.out H75.out (fun m hm => HO.out m (List.mem_of_mem_drop hm)) (by rw [List.map_drop, HEs.out]) hplt hxp hp hbase _ rfl)
        have HK := hide (((((((Keeps.self (fun k => k = p) w5).also (i := 0) (.int .u64 ci)).also (i := 1) (.int .u64 s.t)).also (i := 2) (.slice ma mn mc)).also (i := 3) (.slice da dn dc)).also (i := 4) (.slice a5 n5 d5)).also (i := 6) (.bool true))
        have hne : ¬ w.heap.size = p := by omega
        have hne2 : ¬ p = w.heap.size := by omega
        have HQ := hide (isL_set5 HF.out.1 (ci + 1))
        cases z
        · have HL2 := hide (app_fin1 (f := ci + 1) HF.out.1 rfl rfl)
          go_wp2
          go_end0
          rw [hcs.out, HRl.out]
          exact ⟨rfl, ci + 1, by omega, HL2.out, HF.out.2.trans HQ.out.2⟩
        · go_wp2
          go_end0
          rw [hcs.out, HRl.out]
          exact ⟨rfl, L.dirty, hyr.out, HF.out.1, HF.out.2⟩
  · have hrl := HN.out hcnd
    have HRl := hide hrl
    obtain ⟨y, hy⟩ : ∃ y : Bool, (tv == s.t) = y := ⟨_, rfl⟩
    have hlast : tb = false ∨ (tb = true ∧ y = false) := by
      cases tb
      · exact .inl rfl
      · refine .inr ⟨rfl, ?_⟩
        rw [← hy]
        have : ¬ tv = s.t := fun e => hcnd ⟨rfl, e⟩
        simp [this]
    clear hrl hcnd HY HN HTi HDr HEn
    generalize restL L s = rl at *
    generalize capI s.i = cj at *
    rcases hlast with rfl | ⟨rfl, rfl⟩ <;> cases z <;> rcases hc1 with ⟨hc1, rfl⟩ | ⟨hc1, rfl⟩
    · go_enter Tryz.func128, Tryz.ntmps128
      go_wp2_with (first
        | (go_at_call 87; go_must (refine (HTm.out _ (by exact HW.out)).mono ?_); rintro e w2 ⟨rfl, hb2⟩; have HB2 : Hid (Below w.heap.size w w2) := HW.out.trans (hb2.mono HW.out.size); obtain ⟨z0, z1, z2, z3, zf⟩ := HBx.out.keep hb2 (by simp); have HZ := hide (show Box4 w2 w.heap.size _ _ _ _ from ⟨z0, z1, z2, z3, zf⟩); have H72 := hide (H70.out.same (HB2.out.block p hplt)); have y4 := H72.out.2.2.2.2.1; (generalize hgen : (4611686018427387904 : Int) = ci at *; have HGEN := hide hgen; clear hgen hc1 hwx2); obtain ⟨s0, s1, s2, s3, s4, s5, s6, sf⟩ := H72.out; have u0 := sf 0; have u1 := sf 1; have u2 := sf 2; have u3 := sf 3; have u4 := sf 4; have u5 := sf 5; have u6 := sf 6; clear sf; have HF := hide (xcomp_fin (w := w) (X := X) (base := base) (E := []) (x := ci) (tk := s.t) (es := []) (HNm.out.keep HB2.out) HB2.out (rowM_nil w2 w2.heap.size) (Below.refl _ w2) HDt.out H72.out (by simp) rfl hplt hxp hp hbase _ rfl); have HK := hide (((((((Keeps.self (fun k => k = p) w2).also (i := 0) (.int .u64 ci)).also (i := 1) (.int .u64 s.t)).also (i := 2) (.slice ma mn mc)).also (i := 3) (.slice da dn dc)).also (i := 4) (.slice none 0 0)).also (i := 6) (.bool true)); have hne : ¬ w.heap.size = p := (by omega); have hne2 : ¬ p = w.heap.size := (by omega); have HQ := hide (isL_set5 HF.out.1 (ci + 1)); have HL2 := hide (app_fin1 (f := ci + 1) HF.out.1 rfl rfl); clear hb2 zf HW HBx HTm))
      go_end0
      rw [hcs.out, HRl.out]
      exact ⟨rfl, ci + 1, by omega, HL2.out, HF.out.2.trans HQ.out.2⟩
    · go_enter Tryz.func128, Tryz.ntmps128
      go_wp2_with (first
        | (go_at_call 87; go_must (refine (HTm.out _ (by exact HW.out)).mono ?_); rintro e w2 ⟨rfl, hb2⟩; have HB2 : Hid (Below w.heap.size w w2) := HW.out.trans (hb2.mono HW.out.size); obtain ⟨z0, z1, z2, z3, zf⟩ := HBx.out.keep hb2 (by simp); have HZ := hide (show Box4 w2 w.heap.size _ _ _ _ from ⟨z0, z1, z2, z3, zf⟩); have H72 := hide (H70.out.same (HB2.out.block p hplt)); have y4 := H72.out.2.2.2.2.1; (generalize hgen : s.i = ci at *; have HGEN := hide hgen; clear hgen hc1 hwx2); obtain ⟨s0, s1, s2, s3, s4, s5, s6, sf⟩ := H72.out; have u0 := sf 0; have u1 := sf 1; have u2 := sf 2; have u3 := sf 3; have u4 := sf 4; have u5 := sf 5; have u6 := sf 6; clear sf; have HF := hide (xcomp_fin (w := w) (X := X) (base := base) (E := []) (x := ci) (tk := s.t) (es := []) (HNm.out.keep HB2.out) HB2.out (rowM_nil w2 w2.heap.size) (Below.refl _ w2) HDt.out H72.out (by simp) rfl hplt hxp hp hbase _ rfl); have HK := hide (((((((Keeps.self (fun k => k = p) w2).also (i := 0) (.int .u64 ci)).also (i := 1) (.int .u64 s.t)).also (i := 2) (.slice ma mn mc)).also (i := 3) (.slice da dn dc)).also (i := 4) (.slice none 0 0)).also (i := 6) (.bool true)); have hne : ¬ w.heap.size = p := (by omega); have hne2 : ¬ p = w.heap.size := (by omega); have HQ := hide (isL_set5 HF.out.1 (ci + 1)); have HL2 := hide (app_fin1 (f := ci + 1) HF.out.1 rfl rfl); clear hb2 zf HW HBx HTm))
      go_end0
      rw [hcs.out, HRl.out]
      exact ⟨rfl, ci + 1, by omega, HL2.out, HF.out.2.trans HQ.out.2⟩
    · go_enter Tryz.func128, Tryz.ntmps128
      go_wp2_with (first
        | (go_at_call 87; go_must (refine (HTm.out _ (by exact HW.out)).mono ?_); rintro e w2 ⟨rfl, hb2⟩; have HB2 : Hid (Below w.heap.size w w2) := HW.out.trans (hb2.mono HW.out.size); obtain ⟨z0, z1, z2, z3, zf⟩ := HBx.out.keep hb2 (by simp); have HZ := hide (show Box4 w2 w.heap.size _ _ _ _ from ⟨z0, z1, z2, z3, zf⟩); have H72 := hide (H70.out.same (HB2.out.block p hplt)); have y4 := H72.out.2.2.2.2.1; (generalize hgen : (4611686018427387904 : Int) = ci at *; have HGEN := hide hgen; clear hgen hc1 hwx2); obtain ⟨s0, s1, s2, s3, s4, s5, s6, sf⟩ := H72.out; have u0 := sf 0; have u1 := sf 1; have u2 := sf 2; have u3 := sf 3; have u4 := sf 4; have u5 := sf 5; have u6 := sf 6; clear sf; have HF := hide (xcomp_fin (w := w) (X := X) (base := base) (E := []) (x := ci) (tk := s.t) (es := []) (HNm.out.keep HB2.out) HB2.out (rowM_nil w2 w2.heap.size) (Below.refl _ w2) HDt.out H72.out (by simp) rfl hplt hxp hp hbase _ rfl); have HK := hide (((((((Keeps.self (fun k => k = p) w2).also (i := 0) (.int .u64 ci)).also (i := 1) (.int .u64 s.t)).also (i := 2) (.slice ma mn mc)).also (i := 3) (.slice da dn dc)).also (i := 4) (.slice none 0 0)).also (i := 6) (.bool true)); have hne : ¬ w.heap.size = p := (by omega); have hne2 : ¬ p = w.heap.size := (by omega); have HQ := hide (isL_set5 HF.out.1 (ci + 1)); have HL2 := hide (app_fin1 (f := ci + 1) HF.out.1 rfl rfl); clear hb2 zf HW HBx HTm))
      go_end0
      rw [hcs.out, HRl.out]
      exact ⟨rfl, L.dirty, hyr.out, HF.out.1, HF.out.2⟩
    · go_enter Tryz.func128, Tryz.ntmps128
      go_wp2_with (first
        | (go_at_call 87; go_must (refine (HTm.out _ (by exact HW.out)).mono ?_); rintro e w2 ⟨rfl, hb2⟩; have HB2 : Hid (Below w.heap.size w w2) := HW.out.trans (hb2.mono HW.out.size); obtain ⟨z0, z1, z2, z3, zf⟩ := HBx.out.keep hb2 (by simp); have HZ := hide (show Box4 w2 w.heap.size _ _ _ _ from ⟨z0, z1, z2, z3, zf⟩); have H72 := hide (H70.out.same (HB2.out.block p hplt)); have y4 := H72.out.2.2.2.2.1; (generalize hgen : s.i = ci at *; have HGEN := hide hgen; clear hgen hc1 hwx2); obtain ⟨s0, s1, s2, s3, s4, s5, s6, sf⟩ := H72.out; have u0 := sf 0; have u1 := sf 1; have u2 := sf 2; have u3 := sf 3; have u4 := sf 4; have u5 := sf 5; have u6 := sf 6; clear sf; have HF := hide (xcomp_fin (w := w) (X := X) (base := base) (E := []) (x := ci) (tk := s.t) (es := []) (HNm.out.keep HB2.out) HB2.out (rowM_nil w2 w2.heap.size) (Below.refl _ w2) HDt.out H72.out (by simp) rfl hplt hxp hp hbase _ rfl); have HK := hide (((((((Keeps.self (fun k => k = p) w2).also (i := 0) (.int .u64 ci)).also (i := 1) (.int .u64 s.t)).also (i := 2) (.slice ma mn mc)).also (i := 3) (.slice da dn dc)).also (i := 4) (.slice none 0 0)).also (i := 6) (.bool true)); have hne : ¬ w.heap.size = p := (by omega); have hne2 : ¬ p = w.heap.size := (by omega); have HQ := hide (isL_set5 HF.out.1 (ci + 1)); have HL2 := hide (app_fin1 (f := ci + 1) HF.out.1 rfl rfl); clear hb2 zf HW HBx HTm))
      go_end0
      rw [hcs.out, HRl.out]
      exact ⟨rfl, L.dirty, hyr.out, HF.out.1, HF.out.2⟩
    · go_enter Tryz.func128, Tryz.ntmps128
      go_wp2_with (first
        | (go_at_call 87; go_must (refine (HTm.out _ (by exact HW.out)).mono ?_); rintro e w2 ⟨rfl, hb2⟩; have HB2 : Hid (Below w.heap.size w w2) := HW.out.trans (hb2.mono HW.out.size); obtain ⟨z0, z1, z2, z3, zf⟩ := HBx.out.keep hb2 (by simp); have HZ := hide (show Box4 w2 w.heap.size _ _ _ _ from ⟨z0, z1, z2, z3, zf⟩); have H72 := hide (H70.out.same (HB2.out.block p hplt)); have y4 := H72.out.2.2.2.2.1; (generalize hgen : (4611686018427387904 : Int) = ci at *; have HGEN := hide hgen; clear hgen hc1 hwx2); obtain ⟨s0, s1, s2, s3, s4, s5, s6, sf⟩ := H72.out; have u0 := sf 0; have u1 := sf 1; have u2 := sf 2; have u3 := sf 3; have u4 := sf 4; have u5 := sf 5; have u6 := sf 6; clear sf; have HF := hide (xcomp_fin (w := w) (X := X) (base := base) (E := []) (x := ci) (tk := s.t) (es := []) (HNm.out.keep HB2.out) HB2.out (rowM_nil w2 w2.heap.size) (Below.refl _ w2) HDt.out H72.out (by simp) rfl hplt hxp hp hbase _ rfl); have HK := hide (((((((Keeps.self (fun k => k = p) w2).also (i := 0) (.int .u64 ci)).also (i := 1) (.int .u64 s.t)).also (i := 2) (.slice ma mn mc)).also (i := 3) (.slice da dn dc)).also (i := 4) (.slice none 0 0)).also (i := 6) (.bool true)); have hne : ¬ w.heap.size = p := (by omega); have hne2 : ¬ p = w.heap.size := (by omega); have HQ := hide (isL_set5 HF.out.1 (ci + 1)); have HL2 := hide (app_fin1 (f := ci + 1) HF.out.1 rfl rfl); clear hb2 zf HW HBx HTm))
      go_end0
      rw [hcs.out, HRl.out]
      exact ⟨rfl, ci + 1, by omega, HL2.out, HF.out.2.trans HQ.out.2⟩
    · go_enter Tryz.func128, Tryz.ntmps128
      go_wp2_with (first
        | (go_at_call 87; go_must (refine (HTm.out _ (by exact HW.out)).mono ?_); rintro e w2 ⟨rfl, hb2⟩; have HB2 : Hid (Below w.heap.size w w2) := HW.out.trans (hb2.mono HW.out.size); obtain ⟨z0, z1, z2, z3, zf⟩ := HBx.out.keep hb2 (by simp); have HZ := hide (show Box4 w2 w.heap.size _ _ _ _ from ⟨z0, z1, z2, z3, zf⟩); have H72 := hide (H70.out.same (HB2.out.block p hplt)); have y4 := H72.out.2.2.2.2.1; (generalize hgen : s.i = ci at *; have HGEN := hide hgen; clear hgen hc1 hwx2); obtain ⟨s0, s1, s2, s3, s4, s5, s6, sf⟩ := H72.out; have u0 := sf 0; have u1 := sf 1; have u2 := sf 2; have u3 := sf 3; have u4 := sf 4; have u5 := sf 5; have u6 := sf 6; clear sf; have HF := hide (xcomp_fin (w := w) (X := X) (base := base) (E := []) (x := ci) (tk := s.t) (es := []) (HNm.out.keep HB2.out) HB2.out (rowM_nil w2 w2.heap.size) (Below.refl _ w2) HDt.out H72.out (by simp) rfl hplt hxp hp hbase _ rfl); have HK := hide (((((((Keeps.self (fun k => k = p) w2).also (i := 0) (.int .u64 ci)).also (i := 1) (.int .u64 s.t)).also (i := 2) (.slice ma mn mc)).also (i := 3) (.slice da dn dc)).also (i := 4) (.slice none 0 0)).also (i := 6) (.bool true)); have hne : ¬ w.heap.size = p := (by omega); have hne2 : ¬ p = w.heap.size := (by omega); have HQ := hide (isL_set5 HF.out.1 (ci + 1)); have HL2 := hide (app_fin1 (f := ci + 1) HF.out.1 rfl rfl); clear hb2 zf HW HBx HTm))
      go_end0
      rw [hcs.out, HRl.out]
      exact ⟨rfl, ci + 1, by omega, HL2.out, HF.out.2.trans HQ.out.2⟩
    · go_enter Tryz.func128, Tryz.ntmps128
      go_wp2_with (first
        | (go_at_call 87; go_must (refine (HTm.out _ (by exact HW.out)).mono ?_); rintro e w2 ⟨rfl, hb2⟩; have HB2 : Hid (Below w.heap.size w w2) := HW.out.trans (hb2.mono HW.out.size); obtain ⟨z0, z1, z2, z3, zf⟩ := HBx.out.keep hb2 (by simp); have HZ := hide (show Box4 w2 w.heap.size _ _ _ _ from ⟨z0, z1, z2, z3, zf⟩); have H72 := hide (H70.out.same (HB2.out.block p hplt)); have y4 := H72.out.2.2.2.2.1; (generalize hgen : (4611686018427387904 : Int) = ci at *; have HGEN := hide hgen; clear hgen hc1 hwx2); obtain ⟨s0, s1, s2, s3, s4, s5, s6, sf⟩ := H72.out; have u0 := sf 0; have u1 := sf 1; have u2 := sf 2; have u3 := sf 3; have u4 := sf 4; have u5 := sf 5; have u6 := sf 6; clear sf; have HF := hide (xcomp_fin (w := w) (X := X) (base := base) (E := []) (x := ci) (tk := s.t) (es := []) (HNm.out.keep HB2.out) HB2.out (rowM_nil w2 w2.heap.size) (Below.refl _ w2) HDt.out H72.out (by simp) rfl hplt hxp hp hbase _ rfl); have HK := hide (((((((Keeps.self (fun k => k = p) w2).also (i := 0) (.int .u64 ci)).also (i := 1) (.int .u64 s.t)).also (i := 2) (.slice ma mn mc)).also (i := 3) (.slice da dn dc)).also (i := 4) (.slice none 0 0)).also (i := 6) (.bool true)); have hne : ¬ w.heap.size = p := (by omega); have hne2 : ¬ p = w.heap.size := (by omega); have HQ := hide (isL_set5 HF.out.1 (ci + 1)); have HL2 := hide (app_fin1 (f := ci + 1) HF.out.1 rfl rfl); clear hb2 zf HW HBx HTm))
      go_end0
      rw [hcs.out, HRl.out]
      exact ⟨rfl, L.dirty, hyr.out, HF.out.1, HF.out.2⟩
    · go_enter Tryz.func128, Tryz.ntmps128
      go_wp2_with (first
        | (go_at_call 87; go_must (refine (HTm.out _ (by exact HW.out)).mono ?_); rintro e w2 ⟨rfl, hb2⟩; have HB2 : Hid (Below w.heap.size w w2) := HW.out.trans (hb2.mono HW.out.size); obtain ⟨z0, z1, z2, z3, zf⟩ := HBx.out.keep hb2 (by simp); have HZ := hide (show Box4 w2 w.heap.size _ _ _ _ from ⟨z0, z1, z2, z3, zf⟩); have H72 := hide (H70.out.same (HB2.out.block p hplt)); have y4 := H72.out.2.2.2.2.1; (generalize hgen : s.i = ci at *; have HGEN := hide hgen; clear hgen hc1 hwx2); obtain ⟨s0, s1, s2, s3, s4, s5, s6, sf⟩ := H72.out; have u0 := sf 0; have u1 := sf 1; have u2 := sf 2; have u3 := sf 3; have u4 := sf 4; have u5 := sf 5; have u6 := sf 6; clear sf; have HF := hide (xcomp_fin (w := w) (X := X) (base := base) (E := []) (x := ci) (tk := s.t) (es := []) (HNm.out.keep HB2.out) HB2.out (rowM_nil w2 w2.heap.size) (Below.refl _ w2) HDt.out H72.out (by simp) rfl hplt hxp hp hbase _ rfl); have HK := hide (((((((Keeps.self (fun k => k = p) w2).also (i := 0) (.int .u64 ci)).also (i := 1) (.int .u64 s.t)).also (i := 2) (.slice ma mn mc)).also (i := 3) (.slice da dn dc)).also (i := 4) (.slice none 0 0)).also (i := 6) (.bool true)); have hne : ¬ w.heap.size = p := (by omega); have hne2 : ¬ p = w.heap.size := (by omega); have HQ := hide (isL_set5 HF.out.1 (ci + 1)); have HL2 := hide (app_fin1 (f := ci + 1) HF.out.1 rfl rfl); clear hb2 zf HW HBx HTm))
      go_end0
      rw [hcs.out, HRl.out]
      exact ⟨rfl, L.dirty, hyr.out, HF.out.1, HF.out.2⟩

end Go.Proofs.YtodmieehdleohaaGreat
