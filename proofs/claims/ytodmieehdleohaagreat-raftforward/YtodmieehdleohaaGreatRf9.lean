/- RaftForward: its loop. -/
import Derived.Test.YtodmieehdleohaaGreatRf8
import Derived.Deep.CutBlock
import Derived.Deep.LoopGhost
namespace Go.Proofs.YtodmieehdleohaaGreat
open Go.RowKit NumMath
set_option linter.unusedVariables false
set_option maxRecDepth 100000

set_option maxHeartbeats 16000000 in
theorem rf_main (a0 : Int) (t1 v1 : Int) (i2 t2 : Int) (ma2 : Option Addr) (mn2 mc2 : Nat) (m2 : List Int) (da2 : Option Addr) (dn2 dc2 : Nat) (d2 : List Int) (a3 : Option Addr) (len3 cap3 : Nat) (x3 : List MEnt) (a4 : Option Addr) (len4 cap4 : Nat) (x4 : List MInp) (w : World) (hid : U64 a0) (h1 : U64 t1 ∧ U64 v1) (h2 : IsSnap w i2 t2 ma2 mn2 mc2 m2 da2 dn2 dc2 d2) (h3 : IsMs (fun _ => False) w a3 len3 cap3 x3) (h4 : IsInps w a4 len4 cap4 x4) (gS : (mn2 : Int) ≤ 9 ∧ (dn2 : Int) ≤ 200) (gE : SmallM len3 x3) (gT : decide (1152921504606846976 < t1) = false) (gI : decide (1099511627776 < i2) = false) :
    Calls Tryz.prog 4 #[.int .u64 a0, .agg #[.int .u64 t1, .int .u64 v1], .agg #[.int .u64 i2, .int .u64 t2, .slice ma2 mn2 mc2, .slice da2 dn2 dc2], .slice a3 len3 cap3, .slice a4 len4 cap4] w fun e w' => e = .returned (.bool true) ∧ Below w.heap.size w w' := by
  obtain ⟨Wb, hWb⟩ : ∃ W, W = ((w.alloc (.cells #[.int .u64 t1, .int .u64 v1] 24)).alloc (.cells #[.int .u64 i2, .int .u64 t2, .slice ma2 mn2 mc2, .slice da2 dn2 dc2] 28)) := ⟨_, rfl⟩
  have HWb := hide hWb
  have H2 := hide h2
  have H3 := hide h3
  have H4 := hide h4
  have HBW : Hid (Below w.heap.size w Wb) := by show Below _ _ _; rw [hWb]; exact (by repeat (first | exact Below.refl _ _ | refine bel_alloc ?_ _ | refine Below.drew ?_))
  have HK : Hid (∀ W, Below Wb.heap.size Wb W → W.cell? ⟨w.heap.size, 0, none⟩ = some (.int .u64 t1) ∧ W.cell? ⟨w.heap.size, 1, none⟩ = some (.int .u64 v1) ∧ W.cell? ⟨w.heap.size + 1, 0, none⟩ = some (.int .u64 i2) ∧ W.cell? ⟨w.heap.size + 1, 1, none⟩ = some (.int .u64 t2) ∧ W.cell? ⟨w.heap.size + 1, 2, none⟩ = some (.slice ma2 mn2 mc2) ∧ W.cell? ⟨w.heap.size + 1, 3, none⟩ = some (.slice da2 dn2 dc2)) := by
    intro W hW
    have hl0 : w.heap.size < Wb.heap.size := by rw [hWb]; simp; omega
    have hl1 : w.heap.size + 1 < Wb.heap.size := by rw [hWb]; simp
    exact ⟨(hW.cell (p := ⟨w.heap.size, 0, none⟩) hl0).trans (by rw [hWb]; simp), (hW.cell (p := ⟨w.heap.size, 1, none⟩) hl0).trans (by rw [hWb]; simp), (hW.cell (p := ⟨w.heap.size + 1, 0, none⟩) hl1).trans (by rw [hWb]; simp), (hW.cell (p := ⟨w.heap.size + 1, 1, none⟩) hl1).trans (by rw [hWb]; simp), (hW.cell (p := ⟨w.heap.size + 1, 2, none⟩) hl1).trans (by rw [hWb]; simp), (hW.cell (p := ⟨w.heap.size + 1, 3, none⟩) hl1).trans (by rw [hWb]; simp)⟩
  have hm4 : (len4 : Int) ≤ 9223372036854775807 := by have := h4.2.1; have := h4.2.2.1; unfold maxLen at this; omega
  have HLn := hide h4.1
  have HI2 : Hid (IsSnap Wb i2 t2 ma2 mn2 mc2 m2 da2 dn2 dc2 d2) := ⟨h2.1, h2.2.1, h2.2.2.1.keep HBW.out, h2.2.2.2.keep HBW.out⟩
  have HI3 := hide (h3.keep HBW.out)
  have HI4 := hide (h4.keep HBW.out)
  clear h2 h3 h4 hWb
  go_enter Tryz.func4, Tryz.ntmps4
  go_wp2_with (first
    | (go_at_call 16; go_must (refine (ns9_new Wb _ wd.heap.size q _ HLf.out a0 t1 v1 hid h1.1 h1.2).mono ?_); rintro e wg ⟨p, rfl, hNg⟩; have HNg := hide hNg; clear hNg)
    | (go_at_call 13; go_must (refine (ls9_app Wb _ wd.heap.size q _ a3 len3 cap3 x3 HLe.out rfl HI3.out gE).mono ?_); rintro e wf ⟨r, rfl, hLf⟩; have HLf := hide hLf; obtain ⟨f0, f1, -⟩ := HK.out _ hLf.bel; clear hLf)
    | (go_at_call 11; go_must (refine (ls9_new Wb i2 t2 ma2 mn2 mc2 m2 da2 dn2 dc2 d2 _ HD.out HI2.out (by omega) (by omega)).mono ?_); rintro e we ⟨q, rfl, hLe⟩; have HLe := hide hLe; clear hLe)
    | (go_at_call 10; go_must (refine (small_yes _ a3 len3 cap3 x3 _ (H3.out.keep (HBW.out.trans (HC.out.mono HBW.out.size))) gE).mono ?_); rintro e wd ⟨rfl, hbd⟩; have HD := hide (HC.out.trans (hbd.mono HC.out.size)); obtain ⟨u0, u1, u2, u3, u4, u5⟩ := HK.out _ HD.out; clear hbd)
    | (go_at_call 9; go_must (refine (smallS_yes i2 t2 ma2 mn2 mc2 da2 dn2 dc2 _ gS.1 gS.2).mono ?_); rintro e wc ⟨rfl, hbc⟩; have HC := hide (HB.out.trans (hbc.mono HB.out.size)); obtain ⟨z0, z1, z2, z3, z4, z5⟩ := HK.out _ HC.out; clear hbc)
    | (go_at_call 8; go_must (refine (small9_any a4 len4 cap4 x4 _ (H4.out.keep (HBW.out.trans (HA.out.mono HBW.out.size)))).mono ?_); rintro e wb ⟨b, rfl, hsm, hbb⟩; have HB := hide (HA.out.trans (hbb.mono HA.out.size)); obtain ⟨y0, y1, y2, y3, y4, y5⟩ := HK.out _ HB.out; have HSm := hide hsm; clear hbb hsm; cases b)
    | (go_at_call 7; go_must (refine (awake9_any _).mono ?_); rintro e wa ⟨rfl, hba⟩; have HA : Hid (Below Wb.heap.size Wb wa) := (by show Below _ _ _; rw [HWb.out]; exact hba); clear hba))
  · go_ret
    exact ⟨rfl, HBW.out.trans (HB.out.mono HBW.out.size)⟩
  obtain ⟨hl40, hsmall⟩ := HSm.out (by simp)
  have HAll := hide hsmall
  clear hsmall HSm
  go_loopg [61] len4 (fun gk i wr => ∃ (k : Nat) (N : Nd), gk = len4 - k ∧ k ≤ len4 ∧ i = .int .i64 k ∧ NS9 Wb wr wd.heap.size p k N)
  case atStart => exact ⟨0, _, rfl, Nat.zero_le _, rfl, HNg.out⟩
  case round =>
    obtain ⟨k, N, rfl, hk, rfl, hN⟩ := hrel
    have HN := hide hN
    clear hN HNg
    by_cases hlt : k < len4
    · obtain ⟨g, off, ha4, hg, hC⟩ := HI4.out.at hlt
      have hkl : k < x4.length := by rw [HLn.out]; exact hlt
      have hci := hC k hkl
      have hmem : x4.getD k inp0 ∈ x4 := by
        have e : x4.getD k inp0 = x4[k] := by simp [List.getD, List.getElem?_eq_getElem hkl]
        rw [e]; exact List.getElem_mem hkl
      have hok := HI4.out.2.2.2.1 _ hmem
      have hsi := HAll.out _ hmem
      subst ha4
      generalize x4.getD k inp0 = y at *
      have HCi := hide (CellI.same hci (HN.out.bel.block g hg))
      have HOk := hide hok
      have HSi := hide hsi
      obtain ⟨vs, hvs⟩ : ∃ vs, vs = y.vals.toArray := ⟨_, rfl⟩
      have HVs := hide hvs
      have HX1 := hide (box19_new wr y wr.heap.size 51 vs rfl hvs)
      have hk40 : k ≤ 40 := by omega
      obtain ⟨d0, -, -, -, -, d5, -⟩ := HX1.out.d
      clear hci hmem hok hsi hvs hC hkl
      cases gM : decide (1152921504606846976 < y.m.tm) with
      | true =>
        go_wp2_with (first
          | (refine wp_load19 _ rfl (.tmp 63) rfl g (off + k * 19) rfl y vs HVs.out HCi.out ?_)
          | (refine wp_store19 wr rfl (.tmp 14) (.tmp 64) rfl wr.heap.size rfl rfl y vs HVs.out rfl ?_))
        go_ret
        exact ⟨rfl, HBW.out.trans ((HN.out.bel.alloc HN.out.bel.size _).mono HBW.out.size)⟩
      | false =>
        go_upto_block 2 with (first
          | (go_at_call 21; go_must (refine (ns9_state ((HN.out.keep HB2.out).keep (new_below w2 (.cells #[.int .u64 N.term, .int .u64 N.vote] 24)))).mono ?_); rintro e w3 ⟨rfl, hb3⟩; have HB3 := hide ((HB2.out.alloc HB2.out.size (.cells #[.int .u64 N.term, .int .u64 N.vote] 24)).trans (hb3.mono (by have := HB2.out.size; simp; omega))); have HX3 := hide ((HX2.out.keep (new_below w2 (.cells #[.int .u64 N.term, .int .u64 N.vote] 24)) HXl2.out).keep hb3 (by have := HXl2.out; simp; omega)); have HW3 := hide ((box2_new w2 (.int .u64 N.term) (.int .u64 N.vote) 24 w2.heap.size rfl).same (hb3.block w2.heap.size (by simp))); have HWl3 : Hid (w2.heap.size < w3.heap.size) := (by have := hb3.size; simp at this; show _ < _; omega); obtain ⟨e0, e1, -, -, -, -, -, -, -, -, -, -⟩ := HX3.out.d; obtain ⟨-, -, -, -, -, e16, e17⟩ := HX3.out.c; clear hb3)
          | (go_at_call 20; go_must (refine (ns9_hard (HN.out.keep (new_below wr (.cells vs 51)))).mono ?_); rintro e w2 ⟨rfl, hb2⟩; have HB2 := hide ((new_below wr (.cells vs 51)).trans (hb2.mono (by simp))); have HX2 := hide (HX1.out.keep hb2 (by simp)); have HXl2 : Hid (wr.heap.size < w2.heap.size) := (by have := hb2.size; simp at this; show _ < _; omega); clear hb2)
          | (refine wp_load19 _ rfl (.tmp 63) rfl g (off + k * 19) rfl y vs HVs.out HCi.out ?_)
          | (refine wp_store19 wr rfl (.tmp 14) (.tmp 64) rfl wr.heap.size rfl rfl y vs HVs.out rfl ?_))
        go_cut [61] from 61 to 142 (fun s wx => s = .int .i64 k ∧ ∃ N4, NS9 Wb wx wd.heap.size p (k + 1) N4 ∧ Fw N N4 ∧ Box2 wx w2.heap.size (.int .u64 N.term) (.int .u64 N.vote) ∧ w2.heap.size < wx.heap.size)
        case first =>
          go_wp2_with (first
            | (refine wp_load14i _ rfl (.tmp 89) rfl wr.heap.size y rfl HX3.out ?_)
            | (go_at_call 22; go_must (refine (ns9_tick HN.out hk40 _ HB3.out y.dr HOk.out.dr).mono ?_); rintro e w4 ⟨rfl, hn4⟩; obtain ⟨N4, hN4, hF4, hK4⟩ := hn4; have HRel : Hid (∃ N4, NS9 Wb w4 wd.heap.size p (k + 1) N4 ∧ Fw N N4 ∧ Box2 w4 w2.heap.size (.int .u64 N.term) (.int .u64 N.vote) ∧ w2.heap.size < w4.heap.size) := ⟨N4, hN4, hF4, HW3.out.same (hK4.block _ HWl3.out (by have := HXl2.out; omega)), Nat.lt_of_lt_of_le HWl3.out hK4.size⟩; clear hN4 hF4 hK4)
            | (go_at_call 23; go_must (refine (ns9_step HN.out hk40 _ HB3.out y.m HOk.out.m HSi.out.1 HSi.out.2.1.1 HSi.out.2.1.2).mono ?_); rintro e w4 ⟨rfl, hn4⟩; obtain ⟨N4, hN4, hF4, hK4⟩ := hn4; have HRel : Hid (∃ N4, NS9 Wb w4 wd.heap.size p (k + 1) N4 ∧ Fw N N4 ∧ Box2 w4 w2.heap.size (.int .u64 N.term) (.int .u64 N.vote) ∧ w2.heap.size < w4.heap.size) := ⟨N4, hN4, hF4, HW3.out.same (hK4.block _ HWl3.out (by have := HXl2.out; omega)), Nat.lt_of_lt_of_le HWl3.out hK4.size⟩; clear hN4 hF4 hK4)
            | (go_at_call 24; go_must (refine (ns9_propose HN.out hk40 _ HB3.out y.da y.dn y.dc y.d HOk.out.d).mono ?_); rintro e w4 ⟨i4, r4, rfl, hn4⟩; obtain ⟨N4, hN4, hF4, hK4⟩ := hn4; have HRel : Hid (∃ N4, NS9 Wb w4 wd.heap.size p (k + 1) N4 ∧ Fw N N4 ∧ Box2 w4 w2.heap.size (.int .u64 N.term) (.int .u64 N.vote) ∧ w2.heap.size < w4.heap.size) := ⟨N4, hN4, hF4, HW3.out.same (hK4.block _ HWl3.out (by have := HXl2.out; omega)), Nat.lt_of_lt_of_le HWl3.out hK4.size⟩; clear hN4 hF4 hK4)
            | (go_at_call 25; go_must (refine (ns9_change HN.out hk40 _ HB3.out y.ba y.bn y.bc y.b HOk.out.b HSi.out.2.2.2).mono ?_); rintro e w4 ⟨i4, r4, rfl, hn4⟩; obtain ⟨N4, hN4, hF4, hK4⟩ := hn4; have HRel : Hid (∃ N4, NS9 Wb w4 wd.heap.size p (k + 1) N4 ∧ Fw N N4 ∧ Box2 w4 w2.heap.size (.int .u64 N.term) (.int .u64 N.vote) ∧ w2.heap.size < w4.heap.size) := ⟨N4, hN4, hF4, HW3.out.same (hK4.block _ HWl3.out (by have := HXl2.out; omega)), Nat.lt_of_lt_of_le HWl3.out hK4.size⟩; clear hN4 hF4 hK4))
          all_goals
            go_meet
            case rel =>
              first
              | exact ⟨rfl, HRel.out⟩
              | exact ⟨rfl, N, (HN.out.keep HB3.out).more, Fw.refl N, HW3.out, HWl3.out⟩
        case rest =>
          obtain ⟨rfl, N4, hN4, hF4, hW4, hWl4⟩ := hcut
          have HN4 := hide hN4
          have HW4 := hide hW4
          have HWl4 := hide hWl4
          obtain ⟨g1, g2, hv⟩ := fw_votes hF4
          clear hN4 hF4 hW4 hWl4
          rcases hv with e1v | ⟨e1v, e2v⟩ | ⟨e1v, e2v, e3v⟩
          all_goals
            go_wp2_with (first
              | (go_at_call 21; have hchk := HB5.out; clear hchk; go_must (refine (ns9_state ((HN4.out.keep HB5.out).keep (new_below w5 (.cells #[.int .u64 N4.term, .int .u64 N4.vote] 24)))).mono ?_); rintro e w6 ⟨rfl, hb6⟩; have HN6 := hide (((HN4.out.keep HB5.out).keep (new_below w5 (.cells #[.int .u64 N4.term, .int .u64 N4.vote] 24))).keep hb6); obtain ⟨was0, was1, -⟩ := (HW5.out.same ((new_below w5 (.cells #[.int .u64 N4.term, .int .u64 N4.vote] 24)).block _ (Nat.lt_of_lt_of_le HWl4.out HB5.out.size))).same (hb6.block w2.heap.size (by have := HWl4.out; have := HB5.out.size; simp; omega)); obtain ⟨now0, now1, -⟩ := (box2_new w5 (.int .u64 N4.term) (.int .u64 N4.vote) 24 w5.heap.size rfl).same (hb6.block w5.heap.size (by simp)); clear hb6)
              | (go_at_call 20; have hchk := HN4.out; clear hchk; go_must (refine (ns9_hard HN4.out).mono ?_); rintro e w5 ⟨rfl, hb5⟩; have HB5 := hide hb5; have HW5 := hide (HW4.out.same (hb5.block _ HWl4.out)); clear hb5))
            go_roundg (len4 - (k + 1))
            case measure => omega
            case rel => exact ⟨k + 1, N4, rfl, by omega, by go_num, HN6.out⟩
    · have gk : decide ((k : Int) < (len4 : Int)) = false := decide_eq_false (by omega)
      go_wp2
      go_ret
      exact ⟨rfl, HBW.out.trans (HN.out.bel.mono HBW.out.size)⟩

end Go.Proofs.YtodmieehdleohaaGreat
