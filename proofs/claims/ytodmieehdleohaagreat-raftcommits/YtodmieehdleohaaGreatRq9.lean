/- RaftCommits: its loops. -/
import Derived.Test.YtodmieehdleohaaGreatRq8
import Derived.Deep.CutBlock
import Derived.Deep.LoopGhost
namespace Go.Proofs.YtodmieehdleohaaGreat
open Go.RowKit NumMath
set_option linter.unusedVariables false
set_option maxRecDepth 100000

theorem isMs_box (w : World) (me : MEnt) (g : Nat) (hg : w.heap.size = g) (hok : me.ok (fun k => k < 0) w) : IsMs (fun k => k < 0) (w.alloc (.cells #[.int .u64 me.e.i, .int .u64 me.e.t, .int .i64 me.e.k, .slice me.b me.n me.c] 76)) (some ⟨g, 0, none⟩) 1 1 [me] := by
  have hb := box4_new w (.int .u64 me.e.i) (.int .u64 me.e.t) (.int .i64 me.e.k) (.slice me.b me.n me.c) 76 g hg
  refine ⟨rfl, Nat.le_refl _, by decide, ?_, .inr ⟨g, 0, rfl, by rw [← hg]; simp, ?_⟩⟩
  · intro m hm
    rw [List.mem_singleton.1 hm]
    exact hok.keep (new_below w _)
  · intro i hi
    have e : i = 0 := by simpa using hi
    subst e
    exact ⟨hb.1, hb.2.1, hb.2.2.1, hb.2.2.2.1⟩

set_option maxHeartbeats 16000000 in
theorem rq_main (a0 : Int) (t1 v1 : Int) (i2 t2 : Int) (ma2 : Option Addr) (mn2 mc2 : Nat) (m2 : List Int) (da2 : Option Addr) (dn2 dc2 : Nat) (d2 : List Int) (a3 : Option Addr) (len3 cap3 : Nat) (x3 : List MEnt) (a4 : Option Addr) (len4 cap4 : Nat) (x4 : List MInp) (w : World) (hid : U64 a0) (h1 : U64 t1 ∧ U64 v1) (h2 : IsSnap w i2 t2 ma2 mn2 mc2 m2 da2 dn2 dc2 d2) (h3 : IsMs (fun _ => False) w a3 len3 cap3 x3) (h4 : IsInps w a4 len4 cap4 x4) (gS : (mn2 : Int) ≤ 9 ∧ (dn2 : Int) ≤ 200) (gE : SmallM len3 x3) (gI : decide (1099511627776 < i2) = false) :
    Calls Tryz.prog 6 #[.int .u64 a0, .agg #[.int .u64 t1, .int .u64 v1], .agg #[.int .u64 i2, .int .u64 t2, .slice ma2 mn2 mc2, .slice da2 dn2 dc2], .slice a3 len3 cap3, .slice a4 len4 cap4] w fun e w' => e = .returned (.bool true) ∧ Below w.heap.size w w' := by
  obtain ⟨Wb, hWb⟩ : ∃ W, W = ((w.alloc (.cells #[.int .u64 t1, .int .u64 v1] 24)).alloc (.cells #[.int .u64 i2, .int .u64 t2, .slice ma2 mn2 mc2, .slice da2 dn2 dc2] 28)) := ⟨_, rfl⟩
  have HWb := hide hWb
  have H2 := hide h2
  have H3 := hide h3
  have H4 := hide h4
  have HBW : Hid (Below w.heap.size w Wb) := by show Below _ _ _; rw [hWb]; exact (by repeat (first | exact Below.refl _ _ | refine bel_alloc ?_ _ | refine Below.drew ?_))
  have HK : Hid (∀ W, Below Wb.heap.size Wb W → W.cell? ⟨w.heap.size, 0, none⟩ = some (.int .u64 t1) ∧ W.cell? ⟨w.heap.size, 1, none⟩ = some (.int .u64 v1) ∧ W.cell? ⟨w.heap.size + 1, 0, none⟩ = some (.int .u64 i2) ∧ W.cell? ⟨w.heap.size + 1, 1, none⟩ = some (.int .u64 t2) ∧ W.cell? ⟨w.heap.size + 1, 2, none⟩ = some (.slice ma2 mn2 mc2) ∧ W.cell? ⟨w.heap.size + 1, 3, none⟩ = some (.slice da2 dn2 dc2)) := by
    intro W hW
    have hl0 : w.heap.size < Wb.heap.size := by rw [hWb]; simp; omega
    have hl1 : w.heap.size + 1 < Wb.heap.size := by rw [hWb]; simp
    exact ⟨(hW.cell (p := ⟨w.heap.size, 0, none⟩) hl0).trans (by rw [hWb]; simp), (hW.cell (p := ⟨w.heap.size, 1, none⟩) hl0).trans (by rw [hWb]; simp), (hW.cell (p := ⟨w.heap.size + 1, 0, none⟩) hl1).trans (by rw [hWb]; simp), (hW.cell (p := ⟨w.heap.size + 1, 1, none⟩) hl1).trans (by rw [hWb]; simp), (hW.cell (p := ⟨w.heap.size + 1, 2, none⟩) hl1).trans (by rw [hWb]; simp), (hW.cell (p := ⟨w.heap.size + 1, 3, none⟩) hl1).trans (by rw [hWb]; simp)⟩
  have hm4 : (len4 : Int) ≤ 9223372036854775807 := by have := h4.2.1; have := h4.2.2.1; unfold maxLen at this; omega
  have HLn := hide h4.1
  have HI2 : Hid (IsSnap Wb i2 t2 ma2 mn2 mc2 m2 da2 dn2 dc2 d2) := ⟨h2.1, h2.2.1, h2.2.2.1.keep HBW.out, h2.2.2.2.keep HBW.out⟩
  have HI3 := hide (h3.keep HBW.out)
  have HI4 := hide (h4.keep HBW.out)
  clear h2 h3 h4 hWb
  go_enter Tryz.func6, Tryz.ntmps6
  go_wp2_with (first
    | (go_at_call 16; go_must (refine (ns9_new Wb _ wd.heap.size q _ HLf.out a0 t1 v1 hid h1.1 h1.2).mono ?_); rintro e wg ⟨p, rfl, hNg⟩; have HNg := hide hNg; clear hNg)
    | (go_at_call 13; go_must (refine (ls9_app Wb _ wd.heap.size q _ a3 len3 cap3 x3 HLe.out rfl HI3.out gE).mono ?_); rintro e wf ⟨r, rfl, hLf⟩; have HLf := hide hLf; obtain ⟨f0, f1, -⟩ := HK.out _ hLf.bel; clear hLf)
    | (go_at_call 11; go_must (refine (ls9_new Wb i2 t2 ma2 mn2 mc2 m2 da2 dn2 dc2 d2 _ HD.out HI2.out (by omega) (by omega)).mono ?_); rintro e we ⟨q, rfl, hLe⟩; have HLe := hide hLe; clear hLe)
    | (go_at_call 10; go_must (refine (small_yes _ a3 len3 cap3 x3 _ (H3.out.keep (HBW.out.trans (HC.out.mono HBW.out.size))) gE).mono ?_); rintro e wd ⟨rfl, hbd⟩; have HD := hide (HC.out.trans (hbd.mono HC.out.size)); obtain ⟨u0, u1, u2, u3, u4, u5⟩ := HK.out _ HD.out; clear hbd)
    | (go_at_call 9; go_must (refine (smallS_yes i2 t2 ma2 mn2 mc2 da2 dn2 dc2 _ gS.1 gS.2).mono ?_); rintro e wc ⟨rfl, hbc⟩; have HC := hide (HB.out.trans (hbc.mono HB.out.size)); obtain ⟨z0, z1, z2, z3, z4, z5⟩ := HK.out _ HC.out; clear hbc)
    | (go_at_call 8; go_must (refine (small9_any a4 len4 cap4 x4 _ (H4.out.keep (HBW.out.trans (HA.out.mono HBW.out.size)))).mono ?_); rintro e wb ⟨b, rfl, hsm, hbb⟩; have HB := hide (HA.out.trans (hbb.mono HA.out.size)); obtain ⟨y0, y1, y2, y3, y4, y5⟩ := HK.out _ HB.out; have HSm := hide hsm; clear hbb hsm; cases b)
    | (go_at_call 7; go_must (refine (awake9_any _).mono ?_); rintro e wa ⟨rfl, hba⟩; have HA : Hid (Below Wb.heap.size Wb wa) := (by show Below _ _ _; rw [HWb.out]; exact hba); clear hba))
  · go_ret
    exact ⟨rfl, HBW.out.trans (HB.out.mono HBW.out.size)⟩
  obtain ⟨hl40, hsmall⟩ := HSm.out (by simp)
  have HAll := hide hsmall
  clear hsmall HSm
  go_loopg [54] len4 (fun gk i wr => ∃ (k : Nat) (N : Nd), gk = len4 - k ∧ k ≤ len4 ∧ i = .int .i64 k ∧ NS9 Wb wr wd.heap.size p k N)
  case atStart => exact ⟨0, _, rfl, Nat.zero_le _, rfl, HNg.out⟩
  case round =>
    obtain ⟨k, N, rfl, hk, rfl, hN⟩ := hrel
    have HN := hide hN
    clear hN HNg
    by_cases hlt : k < len4
    · obtain ⟨g, off, ha4, hg, hC⟩ := HI4.out.at hlt
      have hkl : k < x4.length := by rw [HLn.out]; exact hlt
      have hci := hC k hkl
      have hmem : x4.getD k inp0 ∈ x4 := by
        have e : x4.getD k inp0 = x4[k] := by simp [List.getD, List.getElem?_eq_getElem hkl]
        rw [e]; exact List.getElem_mem hkl
      have hok := HI4.out.2.2.2.1 _ hmem
      have hsi := HAll.out _ hmem
      subst ha4
      generalize x4.getD k inp0 = y at *
      have HCi := hide (CellI.same hci (HN.out.bel.block g hg))
      have HOk := hide hok
      have HSi := hide hsi
      obtain ⟨vs, hvs⟩ : ∃ vs, vs = y.vals.toArray := ⟨_, rfl⟩
      have HVs := hide hvs
      have HX1 := hide (box19_new wr y wr.heap.size 51 vs rfl hvs)
      have hk40 : k ≤ 40 := by omega
      clear hci hmem hok hsi hvs hC hkl
      go_upto_block 2 with (first
        | (go_at_call 32; go_must (refine (lg9_ents HLa.out HN.out.ok.good _ 1000 (by have := HN.out.ok.good.i0; omega) (by decide) (by decide)).mono ?_); rintro e w3 hout; obtain ⟨bw, nw, cw, ms, rfl, he3, hI3, ho3, hb3⟩ := outE_is9 hout wr.heap.size HB2.out.size; have HE3 := hide he3; have HI3w := hide hI3; have HO3 := hide ho3; have HB3 := hide (HB2.out.trans (hb3.mono HB2.out.size)); have HX3 := hide (HX2.out.keep hb3 HXl2.out); obtain ⟨e0, e1, -, -, -, -, -, -, -, -, -, -⟩ := HX3.out.d; obtain ⟨-, -, -, -, -, e16, e17⟩ := HX3.out.c; clear hout he3 hI3 ho3 hb3)
        | (go_at_call 33; go_must (refine (lg9_first HLb.out HN.out.ok.good).mono ?_); rintro e wl ⟨rfl, hw⟩; have hw := hw.symm; subst hw)
        | (go_at_call 31; have hchk := HLa.out; clear hchk; go_must (refine (ns9_log HN2.out).mono ?_); rintro e wl ⟨qb, rfl, hl, hw⟩; have hw := hw.symm; subst hw; have HLb := hide hl; clear hl)
        | (go_at_call 31; go_must (refine (ns9_log HN2.out).mono ?_); rintro e wl ⟨qa, rfl, hl, hw⟩; have hw := hw.symm; subst hw; have HLa := hide hl; clear hl)
        | (go_at_call 21; go_must (refine (ns9_state (HN.out.keep (new_below wr (.cells vs 51)))).mono ?_); rintro e w2 ⟨rfl, hb2⟩; have HB2 := hide ((new_below wr (.cells vs 51)).trans (hb2.mono (by simp))); have HX2 := hide (HX1.out.keep hb2 (by simp)); have HXl2 : Hid (wr.heap.size < w2.heap.size) := (by have := hb2.size; simp at this; show _ < _; omega); have HN2 := hide (HN.out.keep HB2.out); clear hb2)
        | (refine wp_load19 _ rfl (.tmp 56) rfl g (off + k * 19) rfl y vs HVs.out HCi.out ?_)
        | (refine wp_store19 wr rfl (.tmp 14) (.tmp 57) rfl wr.heap.size rfl rfl y vs HVs.out rfl ?_))
      go_cut [54] from 54 to 128 (fun s wx => s = .int .i64 k ∧ ∃ N4, NS9 Wb wx wd.heap.size p (k + 1) N4 ∧ Fw N N4 ∧ IsMs (fun k => k < wr.heap.size) wx bw nw cw ms)
      case first =>
        go_wp2_with (first
          | (refine wp_load14i _ rfl (.tmp 82) rfl wr.heap.size y rfl HX3.out ?_)
          | (go_at_call 22; go_must (refine (ns9_tick HN.out hk40 _ HB3.out y.dr HOk.out.dr).mono ?_); rintro e w4 ⟨rfl, hn4⟩; obtain ⟨N4, hN4, hF4, hK4⟩ := hn4; have HRel : Hid (∃ N4, NS9 Wb w4 wd.heap.size p (k + 1) N4 ∧ Fw N N4 ∧ IsMs (fun k => k < wr.heap.size) w4 bw nw cw ms) := ⟨N4, hN4, hF4, HI3w.out.lies hK4 (fun k h => h) HO3.out⟩; clear hN4 hF4 hK4)
          | (go_at_call 23; go_must (refine (ns9_step HN.out hk40 _ HB3.out y.m HOk.out.m HSi.out.1 HSi.out.2.1.1 HSi.out.2.1.2).mono ?_); rintro e w4 ⟨rfl, hn4⟩; obtain ⟨N4, hN4, hF4, hK4⟩ := hn4; have HRel : Hid (∃ N4, NS9 Wb w4 wd.heap.size p (k + 1) N4 ∧ Fw N N4 ∧ IsMs (fun k => k < wr.heap.size) w4 bw nw cw ms) := ⟨N4, hN4, hF4, HI3w.out.lies hK4 (fun k h => h) HO3.out⟩; clear hN4 hF4 hK4)
          | (go_at_call 24; go_must (refine (ns9_propose HN.out hk40 _ HB3.out y.da y.dn y.dc y.d HOk.out.d).mono ?_); rintro e w4 ⟨i4, r4, rfl, hn4⟩; obtain ⟨N4, hN4, hF4, hK4⟩ := hn4; have HRel : Hid (∃ N4, NS9 Wb w4 wd.heap.size p (k + 1) N4 ∧ Fw N N4 ∧ IsMs (fun k => k < wr.heap.size) w4 bw nw cw ms) := ⟨N4, hN4, hF4, HI3w.out.lies hK4 (fun k h => h) HO3.out⟩; clear hN4 hF4 hK4)
          | (go_at_call 25; go_must (refine (ns9_change HN.out hk40 _ HB3.out y.ba y.bn y.bc y.b HOk.out.b HSi.out.2.2.2).mono ?_); rintro e w4 ⟨i4, r4, rfl, hn4⟩; obtain ⟨N4, hN4, hF4, hK4⟩ := hn4; have HRel : Hid (∃ N4, NS9 Wb w4 wd.heap.size p (k + 1) N4 ∧ Fw N N4 ∧ IsMs (fun k => k < wr.heap.size) w4 bw nw cw ms) := ⟨N4, hN4, hF4, HI3w.out.lies hK4 (fun k h => h) HO3.out⟩; clear hN4 hF4 hK4))
        all_goals
          go_meet
          case rel =>
            first
            | exact ⟨rfl, HRel.out⟩
            | exact ⟨rfl, N, (HN.out.keep HB3.out).more, Fw.refl N, HI3w.out⟩
      case rest =>
        obtain ⟨rfl, N4, hN4, hF4, hI4⟩ := hcut
        have HN4 := hide hN4
        have HF4 := hide hF4
        have HIc := hide hI4
        have hnm : (nw : Int) ≤ 9223372036854775807 := by have := hI4.2.1; have := hI4.2.2.1; unfold maxLen at this; omega
        clear hN4 hF4 hI4
        go_wp2_with fail
        go_loopg [99] nw (fun gk i wr => ∃ j : Nat, gk = nw - j ∧ j ≤ nw ∧ i = .int .i64 j ∧ Below wc.heap.size wc wr)
        case atStart => exact ⟨0, rfl, Nat.zero_le _, rfl, Below.refl _ _⟩
        case round =>
          obtain ⟨j, rfl, hj, rfl, hbq⟩ := hrel
          have HBq := hide hbq
          clear hbq
          by_cases hjl : j < nw
          · obtain ⟨g2, off2, hab, hg2, hC2⟩ := HIc.out.at hjl
            have hjm : j < ms.length := by rw [HIc.out.1]; exact hjl
            have hcm := hC2 j hjm
            have hmem2 : ms.getD j ment0 ∈ ms := by
              have e : ms.getD j ment0 = ms[j] := by simp [List.getD, List.getElem?_eq_getElem hjm]
              rw [e]; exact List.getElem_mem hjm
            have hmok := HIc.out.2.2.2.1 _ hmem2
            have hein : (ms.getD j ment0).e ∈ N.L.es := entsL_mem9 (x := N.L.s.i + 1) (most := 1000) (by rw [← HE3.out]; exact List.mem_map.2 ⟨_, hmem2, rfl⟩)
            generalize ms.getD j ment0 = me at *
            obtain ⟨q0, q1, q2, q3⟩ := hcm.same (HBq.out.block g2 hg2)
            subst hab
            have HMok := hide hmok
            have HEin := hide hein
            have hei : 0 ≤ me.e.i ∧ me.e.i ≤ 18446744073709551615 := hmok.1.1
            clear hcm hmem2 hmok hein hC2 hjm
            go_upto_region 25 with fail
            obtain ⟨w5, hw5⟩ : ∃ W, W = wr.alloc (.cells #[.int .u64 me.e.i, .int .u64 me.e.t, .int .i64 me.e.k, .slice me.b me.n me.c] 76) := ⟨_, rfl⟩
            have HB5 : Hid (Below wr.heap.size wr w5) := by show Below _ _ _; rw [hw5]; exact new_below _ _
            have HBx5 : Hid (Box4 w5 wr.heap.size (.int .u64 me.e.i) (.int .u64 me.e.t) (.int .i64 me.e.k) (.slice me.b me.n me.c)) := by show Box4 _ _ _ _ _ _; rw [hw5]; exact box4_new wr _ _ _ _ _ _ rfl
            have h5l : wr.heap.size < w5.heap.size := by rw [hw5]; simp
            rw [← hw5]
            clear hw5 q0 q1 q2 q3
            have HBc5 := hide (HBq.out.trans (HB5.out.mono HBq.out.size))
            have HN5 := hide (HN4.out.keep HBc5.out)
            have HK25 := hide (fun W (hW : Below w5.heap.size w5 W) => (hW.cell (p := ⟨wr.heap.size, 0, none⟩) h5l).trans HBx5.out.1)
            go_region_held3 (fun W => W.cell? ⟨wr.heap.size, 0, none⟩ = some (.int .u64 me.e.i)) (first | exact HK25.out _ HB6.out | exact HK25.out _ (by repeat (first | exact Below.refl _ _ | refine bel_alloc ?_ _ | refine Below.drew ?_))) (first
              | (go_at_call 32; go_must (refine (lg9_ents HLc.out HN4.out.ok.good me.e.i 1 hei.1 (by decide) (by decide)).mono ?_); rintro e w6 hout; obtain ⟨b6, n6, c6, ms6, rfl, he6, hI6, -, hb6⟩ := outE_is9 hout 0 (Nat.zero_le _); have HE6 := hide he6; have HI6 := hide hI6; have HB6 := hide (Below.trans (b := _) (B := w5.heap.size) (a := w5) (by repeat (first | exact Below.refl _ _ | refine bel_alloc ?_ _ | refine Below.drew ?_)) (hb6.mono (by simp))); clear hout he6 hI6 hb6)
              | (go_at_call 31; go_must (refine (ns9_log (HN5.out.keep (by repeat (first | exact Below.refl _ _ | refine bel_alloc ?_ _ | refine Below.drew ?_)))).mono ?_); rintro e wl ⟨qc, rfl, hl, hw⟩; have hw := hw.symm; subst hw; have HLc := hide hl; clear hl))
            all_goals
              have HN6 := hide (HN5.out.keep HB6.out)
              have HBc6 := hide (HBc5.out.trans (HB6.out.mono HBc5.out.size))
              have HK26 := hide (fun W (hW : Below w6.heap.size w6 W) => And.intro ((hW.cell (p := ⟨wr.heap.size, 0, none⟩) (Nat.lt_of_lt_of_le h5l HB6.out.size)).trans ((HB6.out.cell (p := ⟨wr.heap.size, 0, none⟩) h5l).trans HBx5.out.1)) (And.intro ((hW.cell (p := ⟨wr.heap.size, 1, none⟩) (Nat.lt_of_lt_of_le h5l HB6.out.size)).trans ((HB6.out.cell (p := ⟨wr.heap.size, 1, none⟩) h5l).trans HBx5.out.2.1)) (And.intro ((hW.cell (p := ⟨wr.heap.size, 2, none⟩) (Nat.lt_of_lt_of_le h5l HB6.out.size)).trans ((HB6.out.cell (p := ⟨wr.heap.size, 2, none⟩) h5l).trans HBx5.out.2.2.1)) ((hW.cell (p := ⟨wr.heap.size, 3, none⟩) (Nat.lt_of_lt_of_le h5l HB6.out.size)).trans ((HB6.out.cell (p := ⟨wr.heap.size, 3, none⟩) h5l).trans HBx5.out.2.2.2.1)))))
              go_wp2_with fail
              cases g1 : decide (me.e.i ≤ N.commit) with
              | false =>
                refine startT (by kernel_rfl) ?_
                refine' takeT (i := 0) (v := _) rfl (by kernel_rfl) (by kernel_rfl) (by kernel_rfl) (fun _ _ _ h => h) (by rfl) (Below.refl _ _) ?_ ?_; rotate_left
                · (intro W hSw; obtain ⟨y0, y1, y2, y3⟩ := HK26.out W (bel_undrew9 hSw); go_simp; all_goals (with_reducible rfl))
                (try simp only [Act.put, List.setIfInBounds_toArray, List.set_cons_zero, List.set_cons_succ])
                refine' takeT (i := 1) (v := _) rfl (by kernel_rfl) (by kernel_rfl) (by kernel_rfl) (fun _ _ _ h => h) (by rfl) (Below.refl _ _) ?_ ?_; rotate_left
                · (intro W hSw; obtain ⟨y0, y1, y2, y3⟩ := HK26.out W (bel_undrew9 hSw); go_simp; all_goals (with_reducible rfl))
                (try simp only [Act.put, List.setIfInBounds_toArray, List.set_cons_zero, List.set_cons_succ])
                refine' takeT (i := 2) (v := _) rfl (by kernel_rfl) (by kernel_rfl) (by kernel_rfl) (fun _ _ _ h => h) (by rfl) (Below.refl _ _) ?_ ?_; rotate_left
                · (intro W hSw; obtain ⟨y0, y1, y2, y3⟩ := HK26.out W (bel_undrew9 hSw); go_simp; all_goals (with_reducible rfl))
                (try simp only [Act.put, List.setIfInBounds_toArray, List.set_cons_zero, List.set_cons_succ])
                refine' takeT (i := 3) (v := _) rfl (by kernel_rfl) (by kernel_rfl) (by kernel_rfl) (fun _ _ _ h => h) (by rfl) (Below.refl _ _) ?_ ?_; rotate_left
                · (intro W hSw; obtain ⟨y0, y1, y2, y3⟩ := HK26.out W (bel_undrew9 hSw); go_simp; all_goals (with_reducible rfl))
                (try simp only [Act.put, List.setIfInBounds_toArray, List.set_cons_zero, List.set_cons_succ])
                refine' takeT (i := 4) (v := _) rfl (by kernel_rfl) (by kernel_rfl) (by kernel_rfl) (fun _ _ _ h => h) (by rfl) (Below.refl _ _) ?_ ?_; rotate_left
                · (intro W hSw; obtain ⟨y0, y1, y2, y3⟩ := HK26.out W (bel_undrew9 hSw); go_simp; all_goals (with_reducible rfl))
                (try simp only [Act.put, List.setIfInBounds_toArray, List.set_cons_zero, List.set_cons_succ])
                refine skipT (i := 5) rfl (by kernel_rfl) (by kernel_rfl) (by kernel_rfl) (fun _ _ _ h => h) (by rfl) (Below.refl _ _) ?_
                (try simp only [Act.put, List.setIfInBounds_toArray, List.set_cons_zero, List.set_cons_succ])
                refine skipT (i := 6) rfl (by kernel_rfl) (by kernel_rfl) (by kernel_rfl) (fun _ _ _ h => h) (by rfl) (Below.refl _ _) ?_
                (try simp only [Act.put, List.setIfInBounds_toArray, List.set_cons_zero, List.set_cons_succ])
                refine skipT (i := 7) rfl (by kernel_rfl) (by kernel_rfl) (by kernel_rfl) (fun _ _ _ h => h) (by rfl) (Below.refl _ _) ?_
                (try simp only [Act.put, List.setIfInBounds_toArray, List.set_cons_zero, List.set_cons_succ])
                refine skipT (i := 8) rfl (by kernel_rfl) (by kernel_rfl) (by kernel_rfl) (fun _ _ _ h => h) (by rfl) (Below.refl _ _) ?_
                (try simp only [Act.put, List.setIfInBounds_toArray, List.set_cons_zero, List.set_cons_succ])
                refine skipT (i := 9) rfl (by kernel_rfl) (by kernel_rfl) (by kernel_rfl) (fun _ _ _ h => h) (by rfl) (Below.refl _ _) ?_
                (try simp only [Act.put, List.setIfInBounds_toArray, List.set_cons_zero, List.set_cons_succ])
                refine skipT (i := 10) rfl (by kernel_rfl) (by kernel_rfl) (by kernel_rfl) (fun _ _ _ h => h) (by rfl) (Below.refl _ _) ?_
                (try simp only [Act.put, List.setIfInBounds_toArray, List.set_cons_zero, List.set_cons_succ])
                refine' takeT (i := 11) (v := _) rfl (by kernel_rfl) (by kernel_rfl) (by kernel_rfl) (fun _ _ _ h => h) (by rfl) (Below.refl _ _) ?_ ?_; rotate_left
                · (intro W hSw; obtain ⟨y0, y1, y2, y3⟩ := HK26.out W (bel_undrew9 hSw); go_simp; all_goals (with_reducible rfl))
                (try simp only [Act.put, List.setIfInBounds_toArray, List.set_cons_zero, List.set_cons_succ])
                refine' takeT (i := 12) (v := _) rfl (by kernel_rfl) (by kernel_rfl) (by kernel_rfl) (fun _ _ _ h => h) (by rfl) (Below.refl _ _) ?_ ?_; rotate_left
                · (intro W hSw; obtain ⟨y0, y1, y2, y3⟩ := HK26.out W (bel_undrew9 hSw); go_simp; all_goals (with_reducible rfl))
                (try simp only [Act.put, List.setIfInBounds_toArray, List.set_cons_zero, List.set_cons_succ])
                refine skipT (i := 13) rfl (by kernel_rfl) (by kernel_rfl) (by kernel_rfl) (fun _ _ _ h => h) (by rfl) (Below.refl _ _) ?_
                (try simp only [Act.put, List.setIfInBounds_toArray, List.set_cons_zero, List.set_cons_succ])
                refine skipT (i := 14) rfl (by kernel_rfl) (by kernel_rfl) (by kernel_rfl) (fun _ _ _ h => h) (by rfl) (Below.refl _ _) ?_
                (try simp only [Act.put, List.setIfInBounds_toArray, List.set_cons_zero, List.set_cons_succ])
                refine skipT (i := 15) rfl (by kernel_rfl) (by kernel_rfl) (by kernel_rfl) (fun _ _ _ h => h) (by rfl) (Below.refl _ _) ?_
                (try simp only [Act.put, List.setIfInBounds_toArray, List.set_cons_zero, List.set_cons_succ])
                refine skipT (i := 16) rfl (by kernel_rfl) (by kernel_rfl) (by kernel_rfl) (fun _ _ _ h => h) (by rfl) (Below.refl _ _) ?_
                (try simp only [Act.put, List.setIfInBounds_toArray, List.set_cons_zero, List.set_cons_succ])
                refine skipT (i := 17) rfl (by kernel_rfl) (by kernel_rfl) (by kernel_rfl) (fun _ _ _ h => h) (by rfl) (Below.refl _ _) ?_
                (try simp only [Act.put, List.setIfInBounds_toArray, List.set_cons_zero, List.set_cons_succ])
                refine' takeT (i := 18) (v := _) rfl (by kernel_rfl) (by kernel_rfl) (by kernel_rfl) (fun _ _ _ h => h) (by rfl) (Below.refl _ _) ?_ ?_; rotate_left
                · (intro W hSw; obtain ⟨y0, y1, y2, y3⟩ := HK26.out W (bel_undrew9 hSw); go_simp; all_goals (with_reducible rfl))
                (try simp only [Act.put, List.setIfInBounds_toArray, List.set_cons_zero, List.set_cons_succ])
                refine wpAnyH_done (by kernel_rfl) ?_ _
                go_wp2
                go_roundg (nw - (j + 1))
                case measure => omega
                case rel => exact ⟨j + 1, rfl, by omega, by go_num, HBc6.out.drew⟩
              | true =>
                cases g2 : decide (N4.L.s.i + 1 ≤ me.e.i) with
                | false =>
                  refine startT (by kernel_rfl) ?_
                  refine' takeT (i := 0) (v := _) rfl (by kernel_rfl) (by kernel_rfl) (by kernel_rfl) (fun _ _ _ h => h) (by rfl) (Below.refl _ _) ?_ ?_; rotate_left
                  · (intro W hSw; obtain ⟨y0, y1, y2, y3⟩ := HK26.out W (bel_undrew9 hSw); go_simp; all_goals (with_reducible rfl))
                  (try simp only [Act.put, List.setIfInBounds_toArray, List.set_cons_zero, List.set_cons_succ])
                  refine' takeT (i := 1) (v := _) rfl (by kernel_rfl) (by kernel_rfl) (by kernel_rfl) (fun _ _ _ h => h) (by rfl) (Below.refl _ _) ?_ ?_; rotate_left
                  · (intro W hSw; obtain ⟨y0, y1, y2, y3⟩ := HK26.out W (bel_undrew9 hSw); go_simp; all_goals (with_reducible rfl))
                  (try simp only [Act.put, List.setIfInBounds_toArray, List.set_cons_zero, List.set_cons_succ])
                  refine' takeT (i := 2) (v := _) rfl (by kernel_rfl) (by kernel_rfl) (by kernel_rfl) (fun _ _ _ h => h) (by rfl) (Below.refl _ _) ?_ ?_; rotate_left
                  · (intro W hSw; obtain ⟨y0, y1, y2, y3⟩ := HK26.out W (bel_undrew9 hSw); go_simp; all_goals (with_reducible rfl))
                  (try simp only [Act.put, List.setIfInBounds_toArray, List.set_cons_zero, List.set_cons_succ])
                  refine' takeT (i := 3) (v := _) rfl (by kernel_rfl) (by kernel_rfl) (by kernel_rfl) (fun _ _ _ h => h) (by rfl) (Below.refl _ _) ?_ ?_; rotate_left
                  · (intro W hSw; obtain ⟨y0, y1, y2, y3⟩ := HK26.out W (bel_undrew9 hSw); go_simp; all_goals (with_reducible rfl))
                  (try simp only [Act.put, List.setIfInBounds_toArray, List.set_cons_zero, List.set_cons_succ])
                  refine' takeT (i := 4) (v := _) rfl (by kernel_rfl) (by kernel_rfl) (by kernel_rfl) (fun _ _ _ h => h) (by rfl) (Below.refl _ _) ?_ ?_; rotate_left
                  · (intro W hSw; obtain ⟨y0, y1, y2, y3⟩ := HK26.out W (bel_undrew9 hSw); go_simp; all_goals (with_reducible rfl))
                  (try simp only [Act.put, List.setIfInBounds_toArray, List.set_cons_zero, List.set_cons_succ])
                  refine' takeT (i := 5) (v := _) rfl (by kernel_rfl) (by kernel_rfl) (by kernel_rfl) (fun _ _ _ h => h) (by rfl) (Below.refl _ _) ?_ ?_; rotate_left
                  · (intro W hSw; obtain ⟨y0, y1, y2, y3⟩ := HK26.out W (bel_undrew9 hSw); go_simp; all_goals (with_reducible rfl))
                  (try simp only [Act.put, List.setIfInBounds_toArray, List.set_cons_zero, List.set_cons_succ])
                  refine' takeT (i := 6) (v := _) rfl (by kernel_rfl) (by kernel_rfl) (by kernel_rfl) (fun _ _ _ h => h) (by rfl) (Below.refl _ _) ?_ ?_; rotate_left
                  · (intro W hSw; obtain ⟨y0, y1, y2, y3⟩ := HK26.out W (bel_undrew9 hSw); go_simp; all_goals (with_reducible rfl))
                  (try simp only [Act.put, List.setIfInBounds_toArray, List.set_cons_zero, List.set_cons_succ])
                  refine' takeT (i := 7) (v := _) rfl (by kernel_rfl) (by kernel_rfl) (by kernel_rfl) (fun _ _ _ h => h) (by rfl) (Below.refl _ _) ?_ ?_; rotate_left
                  · (intro W hSw; obtain ⟨y0, y1, y2, y3⟩ := HK26.out W (bel_undrew9 hSw); go_simp; all_goals (with_reducible rfl))
                  (try simp only [Act.put, List.setIfInBounds_toArray, List.set_cons_zero, List.set_cons_succ])
                  refine callT (i := 8) rfl (by kernel_rfl) (fun K hK => ?_)
                  go_simp
                  refine (ns9_log (HN6.out.keep (by repeat (first | exact Below.refl _ _ | refine bel_alloc ?_ _ | refine Below.drew ?_)))).mono ?_
                  rintro e wl ⟨qd, rfl, hl, hw⟩; have hw := hw.symm; subst hw; have HLd := hide hl; clear hl
                  refine hK.out _ _ (Below.refl _ _) ?_
                  clear hK K
                  (try simp only [Act.put, List.setIfInBounds_toArray, List.set_cons_zero, List.set_cons_succ])
                  refine callT (i := 9) rfl (by kernel_rfl) (fun K hK => ?_)
                  go_simp
                  refine (lg9_first HLd.out HN6.out.ok.good).mono ?_
                  rintro e wl ⟨rfl, hw⟩; have hw := hw.symm; subst hw
                  refine hK.out _ _ (Below.refl _ _) ?_
                  clear hK K
                  (try simp only [Act.put, List.setIfInBounds_toArray, List.set_cons_zero, List.set_cons_succ])
                  refine' takeT (i := 10) (v := _) rfl (by kernel_rfl) (by kernel_rfl) (by kernel_rfl) (fun _ _ _ h => h) (by rfl) (Below.refl _ _) ?_ ?_; rotate_left
                  · (intro W hSw; obtain ⟨y0, y1, y2, y3⟩ := HK26.out W (bel_undrew9 hSw); go_simp; all_goals (with_reducible rfl))
                  (try simp only [Act.put, List.setIfInBounds_toArray, List.set_cons_zero, List.set_cons_succ])
                  refine' takeT (i := 11) (v := _) rfl (by kernel_rfl) (by kernel_rfl) (by kernel_rfl) (fun _ _ _ h => h) (by rfl) (Below.refl _ _) ?_ ?_; rotate_left
                  · (intro W hSw; obtain ⟨y0, y1, y2, y3⟩ := HK26.out W (bel_undrew9 hSw); go_simp; all_goals (with_reducible rfl))
                  (try simp only [Act.put, List.setIfInBounds_toArray, List.set_cons_zero, List.set_cons_succ])
                  refine' takeT (i := 12) (v := _) rfl (by kernel_rfl) (by kernel_rfl) (by kernel_rfl) (fun _ _ _ h => h) (by rfl) (Below.refl _ _) ?_ ?_; rotate_left
                  · (intro W hSw; obtain ⟨y0, y1, y2, y3⟩ := HK26.out W (bel_undrew9 hSw); go_simp; all_goals (with_reducible rfl))
                  (try simp only [Act.put, List.setIfInBounds_toArray, List.set_cons_zero, List.set_cons_succ])
                  refine skipT (i := 13) rfl (by kernel_rfl) (by kernel_rfl) (by kernel_rfl) (fun _ _ _ h => h) (by rfl) (Below.refl _ _) ?_
                  (try simp only [Act.put, List.setIfInBounds_toArray, List.set_cons_zero, List.set_cons_succ])
                  refine skipT (i := 14) rfl (by kernel_rfl) (by kernel_rfl) (by kernel_rfl) (fun _ _ _ h => h) (by rfl) (Below.refl _ _) ?_
                  (try simp only [Act.put, List.setIfInBounds_toArray, List.set_cons_zero, List.set_cons_succ])
                  refine skipT (i := 15) rfl (by kernel_rfl) (by kernel_rfl) (by kernel_rfl) (fun _ _ _ h => h) (by rfl) (Below.refl _ _) ?_
                  (try simp only [Act.put, List.setIfInBounds_toArray, List.set_cons_zero, List.set_cons_succ])
                  refine skipT (i := 16) rfl (by kernel_rfl) (by kernel_rfl) (by kernel_rfl) (fun _ _ _ h => h) (by rfl) (Below.refl _ _) ?_
                  (try simp only [Act.put, List.setIfInBounds_toArray, List.set_cons_zero, List.set_cons_succ])
                  refine skipT (i := 17) rfl (by kernel_rfl) (by kernel_rfl) (by kernel_rfl) (fun _ _ _ h => h) (by rfl) (Below.refl _ _) ?_
                  (try simp only [Act.put, List.setIfInBounds_toArray, List.set_cons_zero, List.set_cons_succ])
                  refine' takeT (i := 18) (v := _) rfl (by kernel_rfl) (by kernel_rfl) (by kernel_rfl) (fun _ _ _ h => h) (by rfl) (Below.refl _ _) ?_ ?_; rotate_left
                  · (intro W hSw; obtain ⟨y0, y1, y2, y3⟩ := HK26.out W (bel_undrew9 hSw); go_simp; all_goals (with_reducible rfl))
                  (try simp only [Act.put, List.setIfInBounds_toArray, List.set_cons_zero, List.set_cons_succ])
                  refine wpAnyH_done (by kernel_rfl) ?_ _
                  go_wp2
                  go_roundg (nw - (j + 1))
                  case measure => omega
                  case rel => exact ⟨j + 1, rfl, by omega, by go_num, HBc6.out.drew⟩
                | true =>
                  have hin4 : me.e ∈ N4.L.es := HF4.out.kept _ HEin.out (of_decide_eq_true g1) (by have := of_decide_eq_true g2; omega)
                  have HEq6 : Hid (ms6.map MEnt.e = [me].map MEnt.e) := by show _ = _; rw [HE6.out, entsL_one9 HN4.out.ok.good hin4]; rfl
                  have hn6 : n6 = 1 := by have h1 := HI6.out.1; have h2 := congrArg List.length HEq6.out; simp at h2; omega
                  subst hn6
                  have HMok6 := hide (((HMok.out.keep HBc6.out).more (Y := fun k => k < 0) (fun k hk => absurd hk (Nat.not_lt_zero _))).keep (Below.refl _ w6).drew)
                  clear hin4
                  refine startT (by kernel_rfl) ?_
                  refine' takeT (i := 0) (v := _) rfl (by kernel_rfl) (by kernel_rfl) (by kernel_rfl) (fun _ _ _ h => h) (by rfl) (Below.refl _ _) ?_ ?_; rotate_left
                  · (intro W hSw; obtain ⟨y0, y1, y2, y3⟩ := HK26.out W (bel_undrew9 hSw); go_simp; all_goals (with_reducible rfl))
                  (try simp only [Act.put, List.setIfInBounds_toArray, List.set_cons_zero, List.set_cons_succ])
                  refine' takeT (i := 1) (v := _) rfl (by kernel_rfl) (by kernel_rfl) (by kernel_rfl) (fun _ _ _ h => h) (by rfl) (Below.refl _ _) ?_ ?_; rotate_left
                  · (intro W hSw; obtain ⟨y0, y1, y2, y3⟩ := HK26.out W (bel_undrew9 hSw); go_simp; all_goals (with_reducible rfl))
                  (try simp only [Act.put, List.setIfInBounds_toArray, List.set_cons_zero, List.set_cons_succ])
                  refine' takeT (i := 2) (v := _) rfl (by kernel_rfl) (by kernel_rfl) (by kernel_rfl) (fun _ _ _ h => h) (by rfl) (Below.refl _ _) ?_ ?_; rotate_left
                  · (intro W hSw; obtain ⟨y0, y1, y2, y3⟩ := HK26.out W (bel_undrew9 hSw); go_simp; all_goals (with_reducible rfl))
                  (try simp only [Act.put, List.setIfInBounds_toArray, List.set_cons_zero, List.set_cons_succ])
                  refine' takeT (i := 3) (v := _) rfl (by kernel_rfl) (by kernel_rfl) (by kernel_rfl) (fun _ _ _ h => h) (by rfl) (Below.refl _ _) ?_ ?_; rotate_left
                  · (intro W hSw; obtain ⟨y0, y1, y2, y3⟩ := HK26.out W (bel_undrew9 hSw); go_simp; all_goals (with_reducible rfl))
                  (try simp only [Act.put, List.setIfInBounds_toArray, List.set_cons_zero, List.set_cons_succ])
                  refine' takeT (i := 4) (v := _) rfl (by kernel_rfl) (by kernel_rfl) (by kernel_rfl) (fun _ _ _ h => h) (by rfl) (Below.refl _ _) ?_ ?_; rotate_left
                  · (intro W hSw; obtain ⟨y0, y1, y2, y3⟩ := HK26.out W (bel_undrew9 hSw); go_simp; all_goals (with_reducible rfl))
                  (try simp only [Act.put, List.setIfInBounds_toArray, List.set_cons_zero, List.set_cons_succ])
                  refine' takeT (i := 5) (v := _) rfl (by kernel_rfl) (by kernel_rfl) (by kernel_rfl) (fun _ _ _ h => h) (by rfl) (Below.refl _ _) ?_ ?_; rotate_left
                  · (intro W hSw; obtain ⟨y0, y1, y2, y3⟩ := HK26.out W (bel_undrew9 hSw); go_simp; all_goals (with_reducible rfl))
                  (try simp only [Act.put, List.setIfInBounds_toArray, List.set_cons_zero, List.set_cons_succ])
                  refine' takeT (i := 6) (v := _) rfl (by kernel_rfl) (by kernel_rfl) (by kernel_rfl) (fun _ _ _ h => h) (by rfl) (Below.refl _ _) ?_ ?_; rotate_left
                  · (intro W hSw; obtain ⟨y0, y1, y2, y3⟩ := HK26.out W (bel_undrew9 hSw); go_simp; all_goals (with_reducible rfl))
                  (try simp only [Act.put, List.setIfInBounds_toArray, List.set_cons_zero, List.set_cons_succ])
                  refine' takeT (i := 7) (v := _) rfl (by kernel_rfl) (by kernel_rfl) (by kernel_rfl) (fun _ _ _ h => h) (by rfl) (Below.refl _ _) ?_ ?_; rotate_left
                  · (intro W hSw; obtain ⟨y0, y1, y2, y3⟩ := HK26.out W (bel_undrew9 hSw); go_simp; all_goals (with_reducible rfl))
                  (try simp only [Act.put, List.setIfInBounds_toArray, List.set_cons_zero, List.set_cons_succ])
                  refine callT (i := 8) rfl (by kernel_rfl) (fun K hK => ?_)
                  go_simp
                  refine (ns9_log (HN6.out.keep (by repeat (first | exact Below.refl _ _ | refine bel_alloc ?_ _ | refine Below.drew ?_)))).mono ?_
                  rintro e wl ⟨qd, rfl, hl, hw⟩; have hw := hw.symm; subst hw; have HLd := hide hl; clear hl
                  refine hK.out _ _ (Below.refl _ _) ?_
                  clear hK K
                  (try simp only [Act.put, List.setIfInBounds_toArray, List.set_cons_zero, List.set_cons_succ])
                  refine callT (i := 9) rfl (by kernel_rfl) (fun K hK => ?_)
                  go_simp
                  refine (lg9_first HLd.out HN6.out.ok.good).mono ?_
                  rintro e wl ⟨rfl, hw⟩; have hw := hw.symm; subst hw
                  refine hK.out _ _ (Below.refl _ _) ?_
                  clear hK K
                  (try simp only [Act.put, List.setIfInBounds_toArray, List.set_cons_zero, List.set_cons_succ])
                  refine' takeT (i := 10) (v := _) rfl (by kernel_rfl) (by kernel_rfl) (by kernel_rfl) (fun _ _ _ h => h) (by rfl) (Below.refl _ _) ?_ ?_; rotate_left
                  · (intro W hSw; obtain ⟨y0, y1, y2, y3⟩ := HK26.out W (bel_undrew9 hSw); go_simp; all_goals (with_reducible rfl))
                  (try simp only [Act.put, List.setIfInBounds_toArray, List.set_cons_zero, List.set_cons_succ])
                  refine' takeT (i := 11) (v := _) rfl (by kernel_rfl) (by kernel_rfl) (by kernel_rfl) (fun _ _ _ h => h) (by rfl) (Below.refl _ _) ?_ ?_; rotate_left
                  · (intro W hSw; obtain ⟨y0, y1, y2, y3⟩ := HK26.out W (bel_undrew9 hSw); go_simp; all_goals (with_reducible rfl))
                  (try simp only [Act.put, List.setIfInBounds_toArray, List.set_cons_zero, List.set_cons_succ])
                  refine' takeT (i := 12) (v := _) rfl (by kernel_rfl) (by kernel_rfl) (by kernel_rfl) (fun _ _ _ h => h) (by rfl) (Below.refl _ _) ?_ ?_; rotate_left
                  · (intro W hSw; obtain ⟨y0, y1, y2, y3⟩ := HK26.out W (bel_undrew9 hSw); go_simp; all_goals (with_reducible rfl))
                  (try simp only [Act.put, List.setIfInBounds_toArray, List.set_cons_zero, List.set_cons_succ])
                  refine' takeT (i := 13) (v := _) rfl (by kernel_rfl) (by kernel_rfl) (by kernel_rfl) (fun _ _ _ h => h) (by rfl) (Below.refl _ _) ?_ ?_; rotate_left
                  · (intro W hSw; obtain ⟨y0, y1, y2, y3⟩ := HK26.out W (bel_undrew9 hSw); go_simp; all_goals (with_reducible rfl))
                  (try simp only [Act.put, List.setIfInBounds_toArray, List.set_cons_zero, List.set_cons_succ])
                  refine' takeT (i := 14) (v := _) rfl (by kernel_rfl) (by kernel_rfl) (by kernel_rfl) (fun _ _ _ h => h) (by rfl) (Below.refl _ _) ?_ ?_; rotate_left
                  · (intro W hSw; obtain ⟨y0, y1, y2, y3⟩ := HK26.out W (bel_undrew9 hSw); go_simp; all_goals (with_reducible rfl))
                  (try simp only [Act.put, List.setIfInBounds_toArray, List.set_cons_zero, List.set_cons_succ])
                  refine callT (i := 15) rfl (by kernel_rfl) (fun K hK => ?_)
                  go_simp
                  refine hK.out _ _ (new_below _ _) ?_
                  clear hK K
                  (try simp only [Act.put, List.setIfInBounds_toArray, List.set_cons_zero, List.set_cons_succ])
                  refine callT (i := 16) rfl (by kernel_rfl) (fun K hK => ?_)
                  go_simp
                  refine (sameE_any _ _ b6 (some ⟨w6.heap.size, 0, none⟩) 1 c6 1 ms6 [me] _ (HI6.out.keep (by repeat (first | exact Below.refl _ _ | refine bel_alloc ?_ _ | refine Below.drew ?_))) (isMs_box w6.drew me w6.heap.size rfl HMok6.out) HEq6.out).mono ?_
                  rintro e w8 ⟨rfl, hb8⟩
                  have HB8 := hide (Below.trans (b := _) (B := w6.heap.size) (a := w6) (by repeat (first | exact Below.refl _ _ | refine bel_alloc ?_ _ | refine Below.drew ?_)) (hb8.mono (by simp)))
                  refine hK.out _ _ hb8 ?_
                  clear hK K hb8
                  (try simp only [Act.put, List.setIfInBounds_toArray, List.set_cons_zero, List.set_cons_succ])
                  refine' takeT (i := 17) (v := _) rfl (by kernel_rfl) (by kernel_rfl) (by kernel_rfl) (fun _ _ _ h => h) (by rfl) (Below.refl _ _) ?_ ?_; rotate_left
                  · (intro W hSw; obtain ⟨y0, y1, y2, y3⟩ := HK26.out W (HB8.out.trans (hSw.mono HB8.out.size)); go_simp; all_goals (with_reducible rfl))
                  (try simp only [Act.put, List.setIfInBounds_toArray, List.set_cons_zero, List.set_cons_succ])
                  refine' takeT (i := 18) (v := _) rfl (by kernel_rfl) (by kernel_rfl) (by kernel_rfl) (fun _ _ _ h => h) (by rfl) (Below.refl _ _) ?_ ?_; rotate_left
                  · (intro W hSw; obtain ⟨y0, y1, y2, y3⟩ := HK26.out W (HB8.out.trans (hSw.mono HB8.out.size)); go_simp; all_goals (with_reducible rfl))
                  (try simp only [Act.put, List.setIfInBounds_toArray, List.set_cons_zero, List.set_cons_succ])
                  refine wpAnyH_done (by kernel_rfl) ?_ _
                  go_wp2
                  go_roundg (nw - (j + 1))
                  case measure => omega
                  case rel => exact ⟨j + 1, rfl, by omega, by go_num, HBc6.out.trans (HB8.out.mono HBc6.out.size)⟩
          · have gj : decide ((j : Int) < (nw : Int)) = false := decide_eq_false (by omega)
            go_wp2
            go_roundg (len4 - (k + 1))
            case measure => omega
            case rel => exact ⟨k + 1, N4, rfl, by omega, by go_num, HN4.out.keep HBq.out⟩
    · have gk : decide ((k : Int) < (len4 : Int)) = false := decide_eq_false (by omega)
      go_wp2
      go_ret
      exact ⟨rfl, HBW.out.trans (HN.out.bel.mono HBW.out.size)⟩

end Go.Proofs.YtodmieehdleohaaGreat
