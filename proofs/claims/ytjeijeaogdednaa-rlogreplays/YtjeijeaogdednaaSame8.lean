/- Whether a log is the reference's: SameSnap, Same. -/
import Derived.Test.YtjeijeaogdednaaRl8
import Derived.Test.YtjeijeaogdednaaRlRef4
namespace Go.Proofs.Ytjeijeaogdednaa
open Go.RowKit NumMath
set_option linter.unusedVariables false
set_option maxRecDepth 100000

set_option maxHeartbeats 400000 in
theorem sameS_any (i t : Int) (a1 a2 b1 b2 : Option Addr) (n1 c1 d1 n2 c2 n3 c3 : Nat) (m d : List Int) (w : World) (h1 : IsNums w a1 n1 c1 m) (h2 : IsNums w a2 n1 d1 m) (k1 : IsBytes w b1 n2 c2 d) (k2 : IsBytes w b2 n3 c3 d) :
    Calls Try.prog 55 #[.agg #[.int .u64 i, .int .u64 t, .slice a1 n1 c1, .slice b1 n2 c2], .agg #[.int .u64 i, .int .u64 t, .slice a2 n1 d1, .slice b2 n3 c3]] w fun e w' => e = .returned (.bool true) ∧ Below w.heap.size w w' := by
  have H1 := hide h1
  have H2 := hide h2
  have K1 := hide k1
  have K2 := hide k2
  clear h1 h2 k1 k2
  go_enter Try.func55, Try.ntmps55
  have H0 := hide (fun (o o2 : Obj) => (show Below w.heap.size w ((w.alloc o).alloc o2) from (new_below w o).trans ((new_below _ _).mono (by simp))))
  go_wp2_with (first
    | (go_at_call 29; go_must (refine (sameU_any a1 a2 n1 c1 d1 m _ (H1.out.keep (by exact H0.out _ _)) (H2.out.keep (by exact H0.out _ _))).mono ?_); rintro e w3 ⟨rfl, hb3⟩; have HB3 := hide ((H0.out _ _).trans (hb3.mono (by simp; omega))); have t0 := (hb3.cell (p := ⟨w.heap.size, 3, none⟩) (by simp; omega)).trans (show _ = some (Value.slice b1 n2 c2) by simp); have t1 := (hb3.cell (p := ⟨w.heap.size + 1, 3, none⟩) (by simp)).trans (show _ = some (Value.slice b2 n3 c3) by simp); have k1 := (K1.out.keep HB3.out).conv; have k2 := (K2.out.keep HB3.out).conv; clear hb3))
  go_ret
  exact ⟨rfl, HB3.out⟩

set_option maxHeartbeats 1000000 in
theorem same_any (X Y : Nat → Prop) (base base' p q : Nat) (L : LogS) (w : World) (h : IsL X w base p L) (h' : IsL Y w base' q L) (hG : L.Good) (hn : L.es.length ≤ 1000) (hX : ∀ k, Y k → k < w.heap.size) :
    Calls Try.prog 18 #[.pointer (some ⟨p, 0, none⟩), .pointer (some ⟨q, 0, none⟩)] w fun e w' => e = .returned (.bool true) ∧ Below w.heap.size w w' := by
  have HL := hide (fun (W : World) (hW : Below w.heap.size w W) => h.keep hW)
  have HL' := hide (fun (W : World) (hW : Below w.heap.size w W) => h'.keep hW)
  have HG := hide hG
  have HM := hide (fun (W : World) (hW : Below w.heap.size w W) => mem_any X base p L W (h.keep hW) hG)
  have HM' := hide (fun (W : World) (hW : Below w.heap.size w W) => xmem_any Y base' q L W (h'.keep hW) hG (fun k hk => Nat.lt_of_lt_of_le (hX k hk) hW.size))
  have HSn := hide (fun (W : World) (hW : Below w.heap.size w W) => snap_any X base p L W (h.keep hW) hG)
  have HEn := hide (fun (W : World) (hW : Below w.heap.size w W) => ents_any X base p L (L.s.i + 1) 1000 W (h.keep hW) hG (by have := hG.i0; omega) (by omega) (by omega))
  have hp := h.at
  have hq := h'.at
  have i0 := hG.i0
  have i1 := hG.i1
  obtain ⟨ma, mn, mc, da, dn, dc, ea, en, ec, es, c0, c1, c2, c3, c4, c5, c6, hf, hm, hd', hr, he, ho, -⟩ := h
  obtain ⟨xma, xmn, xmc, xda, xdn, xdc, xea, xen, xec, xes, x0, x1, x2, x3, x4, x5, x6, xf, xm, xd, xr, xe, xo, -⟩ := h'
  have hel : L.es.length = en := by rw [← he, List.length_map, hr.len.1]
  have hxl : L.es.length = xen := by rw [← xe, List.length_map, xr.len.1]
  have HEl := hide hel
  rw [entsL_all (L := L) (most := 1000) (by omega) (by omega)] at HEn
  have HFi := hide (fun (W : World) (hW : Below w.heap.size w W) => first_any p L.s.i W ((hW.cell (p := ⟨p, 0, none⟩) hp).trans c0) i0 i1)
  have HFi' := hide (fun (W : World) (hW : Below w.heap.size w W) => xfirst_any q L.s.i W ((hW.cell (p := ⟨q, 0, none⟩) hq).trans x0) i0 i1)
  have HLa := hide (fun (W : World) (hW : Below w.heap.size w W) => last_any p L.s.i ea en ec W ((hW.cell (p := ⟨p, 0, none⟩) hp).trans c0) ((hW.cell (p := ⟨p, 4, none⟩) hp).trans c4) i0 i1 (by omega))
  have hxe : xen = en := by omega
  subst hxe
  have HLa' := hide (fun (W : World) (hW : Below w.heap.size w W) => xlast_any q L.s.i xea xen xec W ((hW.cell (p := ⟨q, 0, none⟩) hq).trans x0) ((hW.cell (p := ⟨q, 4, none⟩) hq).trans x4) i0 i1 (by omega))
  have HXm := hide (fun (W : World) (hW : Below w.heap.size w W) => xm.1.keep hW)
  have HXd := hide (fun (W : World) (hW : Below w.heap.size w W) => xd.1.keep hW)
  have HXr := hide (fun (W : World) (hW : Below w.heap.size w W) => (xr.is xo).keep hW)
  have HXe := hide xe
  have HDi := hide (dirty_any p L.dirty L.fresh w c5 c6)
  have HC := hide (fun (W : World) (hW : Below w.heap.size w W) => (⟨(hW.cell (p := ⟨q, 0, none⟩) hq).trans x0, (hW.cell (p := ⟨q, 1, none⟩) hq).trans x1, (hW.cell (p := ⟨q, 2, none⟩) hq).trans x2, (hW.cell (p := ⟨q, 3, none⟩) hq).trans x3, (hW.cell (p := ⟨q, 4, none⟩) hq).trans x4, (hW.cell (p := ⟨q, 5, none⟩) hq).trans x5, (hW.cell (p := ⟨q, 6, none⟩) hq).trans x6⟩ : W.cell? ⟨q, 0, none⟩ = some (.int .u64 L.s.i) ∧ W.cell? ⟨q, 1, none⟩ = some (.int .u64 L.s.t) ∧ W.cell? ⟨q, 2, none⟩ = some (.slice xma xmn xmc) ∧ W.cell? ⟨q, 3, none⟩ = some (.slice xda xdn xdc) ∧ W.cell? ⟨q, 4, none⟩ = some (.slice xea xen xec) ∧ W.cell? ⟨q, 5, none⟩ = some (.int .u64 L.dirty) ∧ W.cell? ⟨q, 6, none⟩ = some (.bool L.fresh)))
  clear hm hd' hr he ho xm xd xr xe xo hf xf hel hxl hG hn hX c0 c1 c2 c3 c4 c5 c6 x0 x1 x2 x3 x4 x5 x6
  generalize toldL L.s L.es = tl at *
  obtain ⟨tm, ti⟩ := tl
  dsimp only at *
  go_enter Try.func18, Try.ntmps18
  go_wp2_with (first
    | (go_at_call 52; go_must (refine HDi.out.mono ?_); rintro e w' ⟨rfl, hw⟩; have hw := hw.symm; subst hw)
    | (go_at_call 53; go_must (refine (HM.out _ (by exact (Below.refl _ w).drew)).mono ?_); rintro e w1 ⟨b1, n1, d1, rfl, ho1, hr1, hb1⟩; have HB1 : Hid (Below w.heap.size w w1) := ((Below.refl _ w).drew).trans hb1; have HO1 := hide ho1; have HR1 := hide hr1; clear ho1 hr1 hb1)
    | (go_at_call 54; go_must (refine (HM'.out _ (by exact HB1.out)).mono ?_); rintro e w2 ⟨b2, n2, d2, rfl, hn2, hb2⟩; have HB2 := hide (HB1.out.trans (hb2.mono HB1.out.size)); have HO2 := hide ((HO1.out).keep hb2); have HN2 := hide hn2; clear hn2 hb2))
  obtain ⟨a', n', c', e, hI, hy⟩ := HO2.out.is HR1.out
  cases e
  have hn12 : n2 = n1 := by rw [← HN2.out.1.1, ← hI.1]
  subst n2
  have HI1 := hide hI
  have HN3 := hide HN2.out.1
  have HT := hide (fun (W : World) (h : Below w2.heap.size w2 W) => HB2.out.trans (h.mono HB2.out.size))
  have hbN : Hid (Below w2.heap.size w2 w2.drew) := (Below.refl _ _).drew
  have HC2 := hide (fun (W : World) (h : Below w2.heap.size w2 W) => HC.out W (HT.out W h))
  clear hI hy HO1 HO2 HN2 HM HM' HL HL' HDi HC
  go_region_held3 (fun w' => w'.cell? ⟨q, 0, none⟩ = some (.int .u64 L.s.i) ∧ w'.cell? ⟨q, 1, none⟩ = some (.int .u64 L.s.t) ∧ w'.cell? ⟨q, 2, none⟩ = some (.slice xma xmn xmc) ∧ w'.cell? ⟨q, 3, none⟩ = some (.slice xda xdn xdc) ∧ w'.cell? ⟨q, 4, none⟩ = some (.slice xea xen xec) ∧ w'.cell? ⟨q, 5, none⟩ = some (.int .u64 L.dirty) ∧ w'.cell? ⟨q, 6, none⟩ = some (.bool L.fresh)) (with_reducible exact HC2.out _ hbN.out) (first
    | (go_at_call 34; refine (HSn.out _ (by exact HT.out _ hbN.out)).mono ?_; rintro e w3 ⟨a3, n3, d3, a4, n4, d4, rfl, hI3, -, hI4, -, hb3⟩; have hn3 : n3 = xmn := (by rw [← hI3.1, ← (HXm.out _ (Below.refl _ _)).1]); subst n3; have hbN : Hid (Below w2.heap.size w2 w3) := hbN.out.trans (hb3.mono hbN.out.size); have HI3 := hide hI3; have HI4 := hide hI4; clear hI3 hI4 hb3)
    | (go_at_call 55; refine (sameS_any L.s.i L.s.t a3 xma a4 xda xmn d3 xmc n4 d4 xdn xdc L.s.m L.s.d _ HI3.out (HXm.out _ (by exact HT.out _ hbN.out)) HI4.out (HXd.out _ (by exact HT.out _ hbN.out))).mono ?_; rintro e w4 ⟨rfl, hb4⟩; have hbN : Hid (Below w2.heap.size w2 w4) := hbN.out.trans (hb4.mono hbN.out.size); clear hb4)
    | (go_at_call 33; refine (HFi.out _ (by exact HT.out _ hbN.out)).mono ?_; rintro e w' ⟨rfl, hw⟩; have hw := hw.symm; subst hw)
    | (go_at_call 44; refine (HFi'.out _ (by exact HT.out _ hbN.out)).mono ?_; rintro e w' ⟨rfl, hw⟩; have hw := hw.symm; subst hw)
    | (go_at_call 36; refine (HLa.out _ (by exact HT.out _ hbN.out)).mono ?_; rintro e w5 ⟨rfl, hw⟩; have hbN : Hid (Below w2.heap.size w2 w5) := (by rw [hw]; exact hbN.out.drew); clear hw)
    | (go_at_call 45; refine (HLa'.out _ (by exact HT.out _ hbN.out)).mono ?_; rintro e w5 ⟨rfl, hw⟩; have hbN : Hid (Below w2.heap.size w2 w5) := (by rw [hw]; exact hbN.out.drew); clear hw)
    | (go_at_call 32; refine (HEn.out _ (by exact HT.out _ hbN.out)).mono ?_; rintro e w6 ⟨a6, n6, d6, ms6, rfl, hE6, hr6, ho6, hb6⟩; have hI6 := outE_is hE6 hr6 ho6; have hn6 : n6 = xen := (by rw [hI6.2, HEl.out]); subst n6; have HI6 := hide hI6.1; have HE6 := hide (hE6.trans HXe.out.symm); have hbN : Hid (Below w2.heap.size w2 w6) := hbN.out.trans (hb6.mono hbN.out.size); clear hE6 hr6 ho6 hb6 hI6)
    | (go_at_call 35; refine (sameE_any _ Y a6 xea xen d6 xec ms6 xes _ HI6.out (HXr.out _ (by exact HT.out _ hbN.out)) HE6.out).mono ?_; rintro e w7 ⟨rfl, hb7⟩; have hbN : Hid (Below w2.heap.size w2 w7) := hbN.out.trans (hb7.mono hbN.out.size); clear hb7)
    | (go_at_call 29; refine (sameU_any b1 b2 n1 d1 d2 tm _ (HI1.out.keep (by exact hbN.out)) (HN3.out.keep (by exact hbN.out))).mono ?_; rintro e w8 ⟨rfl, hb8⟩; have hbN : Hid (Below w2.heap.size w2 w8) := hbN.out.trans (hb8.mono hbN.out.size); clear hb8))
  all_goals
    have HF := hide (HT.out _ hbN.out)
    go_wp2
    go_ret
    exact ⟨rfl, HF.out⟩

end Go.Proofs.Ytjeijeaogdednaa
