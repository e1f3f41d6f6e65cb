/- MeshPlain where two are cut off -/
import Derived.Test.YtodmieehdleohaaMshA
import Derived.Test.YtodmieehdleohaaMx7
import Derived.Test.YtodmieehdleohaaSmE
import Derived.Test.YtodmieehdleohaaTk
namespace Go.Proofs.Ytodmieehdleohaa
open Go.RowKit NumMath Go.ChangeShapes Go.WideShapes Go.Deep
set_option linter.unusedVariables false
set_option maxRecDepth 100000

set_option maxHeartbeats 8000000 in
theorem mplain_zero (cap0 : Nat) (a0 : Option Addr) (x0 : List MMsg) (w : World) (w0 : IsGs w a0 0 cap0 x0) :
    Calls Try.prog 4 #[.slice a0 0 cap0, .bool true] w fun e w' => e = .returned (.bool true) ∧ Below w.heap.size w w' := by
  have H0 := hide w0
  have HL := hide w0.1.1
  clear w0
  go_enter Try.func4, Try.ntmps4
  go_wp2_with (first
    | (go_at_call 5; go_must (refine (awake10_any _).mono ?_); rintro e wa ⟨rfl, hba⟩; have HA := hide hba; clear hba)
    | (go_at_call 6; go_must (refine (pm_new w _ HA.out).mono ?_); rintro e wn ⟨p, rfl, hM⟩; have HM := hide hM; clear hM)
    | (go_at_call 9; go_must (refine (pm_send HM.out a0 0 cap0 x0 H0.out (by omega)).mono ?_); rintro e wq ⟨rfl, hP⟩; have HP0 := hide hP; clear hP))
  go_loopw [39] (fun i wr => i = .int .i64 0 ∧ PL w wr wa.heap.size p (fun _ _ => false) []) (fun i _ => 0)
  case atStart =>
    have hP := HP0.out
    rw [List.length_eq_zero_iff.1 HL.out] at hP
    exact ⟨rfl, hP⟩
  case round =>
    obtain ⟨rfl, hP⟩ := hrel
    have HPe := hide hP
    clear hP HP0
    go_wp2_with (first
      | (go_at_call 11; go_must (refine (pl_next_none HPe.out).mono ?_); rintro e w5 ⟨rfl, hb5⟩; have HB5 := hide hb5; clear hb5)
      | (refine wp_storeN w5 rfl (.tmp 10) (.tmp 109) rfl w5.heap.size rfl msg0 rfl rfl ?_))
    go_ret
    exact ⟨rfl, HB5.out.alloc HB5.out.size _⟩

set_option maxHeartbeats 16000000 in
theorem mplain_yes (g off len0 cap0 : Nat) (x0 : List MMsg) (w : World) (w0 : IsGs w (some ⟨g, off, none⟩) len0 cap0 x0) (hl : len0 ≤ 30) (h0 : 0 < len0) :
    Calls Try.prog 4 #[.slice (some ⟨g, off, none⟩) len0 cap0, .bool true] w fun e w' => e = .returned (.bool true) ∧ Below w.heap.size w w' := by
  have hfirst : g < w.heap.size ∧ CellG w g off (x0.getD 0 msg0) := by
    obtain ⟨g', off', e, hg, hc⟩ := w0.1.at h0
    cases e
    rw [Nat.zero_mul, Nat.add_zero] at hc
    exact ⟨hg, hc⟩
  have hU := (w0.2 _ (msg_mem x0 0 (by rw [w0.1.1]; exact h0))).1
  have hg := hfirst.1
  obtain ⟨m0, hm0⟩ : ∃ m0, x0.getD 0 msg0 = m0 := ⟨_, rfl⟩
  rw [hm0] at hU hfirst
  have HU : Hid (UU m0.tt ∧ UU m0.fr) := ⟨hU.tt, hU.fr⟩
  have HF1 : Hid (w.cell? ⟨g, off + 1, none⟩ = some (.int .u64 m0.fr)) := hfirst.2 1 _ rfl
  have HF2 : Hid (w.cell? ⟨g, off + 2, none⟩ = some (.int .u64 m0.tt)) := hfirst.2 2 _ rfl
  have H0 := hide w0
  have HL := hide w0.1.1
  have h0i : (0 : Int) < (len0 : Int) := by omega
  clear w0 hU hfirst hm0
  go_enter Try.func4, Try.ntmps4
  go_wp2_with (first
    | (go_at_call 5; go_must (refine (awake10_any _).mono ?_); rintro e wa ⟨rfl, hba⟩; have HA := hide hba; clear hba)
    | (go_at_call 6; go_must (refine (pm_new w _ HA.out).mono ?_); rintro e wn ⟨p, rfl, hM⟩; have HM := hide hM; clear hM))
  have HKT := hide (fun W (hW : Below w.heap.size w W) => And.intro ((hW.cell (p := ⟨g, off + 2, none⟩) hg).trans HF2.out) ((hW.cell (p := ⟨g, off + 1, none⟩) hg).trans HF1.out))
  go_region_held3 (fun W => W.cell? ⟨g, off + 2, none⟩ = some (.int .u64 m0.tt) ∧ W.cell? ⟨g, off + 1, none⟩ = some (.int .u64 m0.fr)) (first | exact HKT.out _ HM2.out.bel | exact HKT.out _ HM.out.bel.drew | exact HKT.out _ HM.out.bel) (first
    | (go_at_call 16; go_must (refine (pm_cut (HM.out.keep (by repeat (first | exact Below.refl _ _ | refine belA ?_ _ | refine Below.drew ?_))) m0.tt m0.fr HU.out.1 HU.out.2).mono ?_); rintro e wc ⟨rfl, hM2⟩; have HM2 := hide hM2; clear hM2))
  go_wp2_with (first
    | (go_at_call 9; go_must (refine (pm_send HM2.out (some ⟨g, off, none⟩) len0 cap0 x0 H0.out (by omega)).mono ?_); rintro e wq ⟨rfl, hP⟩; have HP0 := hide hP; clear hP))
  go_loopw [39] (fun i wr => ∃ (k : Nat), k ≤ len0 ∧ i = .int .i64 k ∧ PL w wr wa.heap.size p (cutC (fun _ _ => false) m0.tt m0.fr true) (dueL (cutC (fun _ _ => false) m0.tt m0.fr true) x0 k)) (fun i _ => len0 - (intOf i).toNat)
  case atStart => exact ⟨0, Nat.zero_le _, rfl, HP0.out⟩
  case round =>
    obtain ⟨k, hk, rfl, hP⟩ := hrel
    have HP := hide hP
    have HB := hide hP.bel
    clear hP HP0
    by_cases hlt : k < len0
    · obtain ⟨g', off', hga, hg', hC0⟩ := H0.out.1.at hlt
      cases hga
      have hkl : k < x0.length := by rw [HL.out]; exact hlt
      have hmem := msg_mem x0 k hkl
      have hOk := (H0.out.2 _ hmem).1
      have hCw := hC0.same (HB.out.block g hg)
      obtain ⟨m, hm⟩ : ∃ m, x0.getD k msg0 = m := ⟨_, rfl⟩
      rw [hm] at hOk hCw
      have HMk := hide hm
      have HOk := hide hOk
      have HCw := hide hCw
      have HKl := hide hkl
      clear hm hOk hCw hC0 hmem hkl
      have HX1 := hide (boxG_new wr m wr.heap.size 39 rfl)
      have HB1 := hide (new_below wr (.cells #[.int .i64 m.k, .int .u64 m.fr, .int .u64 m.tt, .int .u64 m.tm, .int .u64 m.ix, .int .u64 m.lt, .int .u64 m.cm, .int .u64 m.hn, .bool m.rj, .slice m.ea m.en m.ec, .int .u64 m.si, .int .u64 m.st, .slice m.ma m.mn m.mc, .slice m.sa m.sn m.sc] 39))
      have HBw := hide (HB.out.trans (HB1.out.mono HB.out.size))
      have HEs := hide (HOk.out.es.keep HBw.out)
      obtain ⟨-, -, -, -, -, -, -, -, -, c9, -, -, -, -⟩ := HX1.out.x
      by_cases gM : ¬ SmallM m.en m.es
      · go_wp2_with (first
          | (refine wp_loadG _ rfl (.tmp 41) rfl g (off + k * 14) m rfl HCw.out ?_)
          | (refine wp_storeN wr rfl (.tmp 7) (.tmp 42) rfl wr.heap.size rfl m rfl rfl ?_)
          | (go_at_call 7; go_must (refine (small_no _ m.ea m.en m.ec m.es _ HEs.out gM).mono ?_); rintro e ws ⟨rfl, hbs⟩))
        go_ret
        exact ⟨rfl, HBw.out.trans (hbs.mono HBw.out.size)⟩
      have HSm := hide (Classical.not_not.1 gM)
      clear gM
      by_cases gS : ¬ ((m.mn : Int) ≤ 9 ∧ (m.sn : Int) ≤ 200)
      · go_wp2_with (first
          | (refine wp_loadG _ rfl (.tmp 41) rfl g (off + k * 14) m rfl HCw.out ?_)
          | (refine wp_storeN wr rfl (.tmp 7) (.tmp 42) rfl wr.heap.size rfl m rfl rfl ?_)
          | (go_at_call 7; go_must (refine (small_yes _ m.ea m.en m.ec m.es _ HEs.out HSm.out).mono ?_); rintro e ws ⟨rfl, hbs⟩; have HBs := hide (HB1.out.trans (hbs.mono HB1.out.size)); have HXs := hide (HX1.out.keep hbs); obtain ⟨-, -, -, -, -, -, -, -, -, -, s10, s11, s12, s13⟩ := HXs.out.x; clear hbs)
          | (go_at_call 8; go_must (refine (smallS_no m.si m.st m.ma m.mn m.mc m.sa m.sn m.sc _ gS).mono ?_); rintro e wt ⟨rfl, hbt⟩))
        go_ret
        exact ⟨rfl, HB.out.trans ((HBs.out.trans (hbt.mono HBs.out.size)).mono HB.out.size)⟩
      have gS := Classical.not_not.1 gS
      go_wp2_with (first
          | (refine wp_loadG _ rfl (.tmp 41) rfl g (off + k * 14) m rfl HCw.out ?_)
          | (refine wp_storeN wr rfl (.tmp 7) (.tmp 42) rfl wr.heap.size rfl m rfl rfl ?_)
          | (go_at_call 7; go_must (refine (small_yes _ m.ea m.en m.ec m.es _ HEs.out HSm.out).mono ?_); rintro e ws ⟨rfl, hbs⟩; have HBs := hide (HB1.out.trans (hbs.mono HB1.out.size)); have HXs := hide (HX1.out.keep hbs); obtain ⟨-, -, -, -, -, -, -, -, -, -, s10, s11, s12, s13⟩ := HXs.out.x; clear hbs)
          | (go_at_call 8; go_must (refine (smallS_yes m.si m.st m.ma m.mn m.mc m.sa m.sn m.sc _ gS.1 gS.2).mono ?_); rintro e wt ⟨rfl, hbt⟩; have HBt := hide (HBs.out.trans (hbt.mono HBs.out.size)); have HXt := hide (HXs.out.keep hbt); obtain ⟨-, t1, t2, -⟩ := HXt.out.x; clear hbt))
      have HK := hide (fun W (hW : Below wt.heap.size wt W) => And.intro ((hW.cell (p := ⟨wr.heap.size, 1, none⟩) HXt.out.lt).trans t1) (And.intro ((hW.cell (p := ⟨wr.heap.size, 2, none⟩) HXt.out.lt).trans t2) (And.intro ((hW.cell (p := ⟨g, off + 1, none⟩) (Nat.lt_of_lt_of_le hg (Nat.le_trans HB.out.size HBt.out.size))).trans ((HBt.out.cell (p := ⟨g, off + 1, none⟩) (Nat.lt_of_lt_of_le hg HB.out.size)).trans ((HB.out.cell (p := ⟨g, off + 1, none⟩) hg).trans HF1.out))) ((hW.cell (p := ⟨g, off + 2, none⟩) (Nat.lt_of_lt_of_le hg (Nat.le_trans HB.out.size HBt.out.size))).trans ((HBt.out.cell (p := ⟨g, off + 2, none⟩) (Nat.lt_of_lt_of_le hg HB.out.size)).trans ((HB.out.cell (p := ⟨g, off + 2, none⟩) hg).trans HF2.out))))))
      clear t1 t2 s10 s11 s12 s13 c9
      cases hA : (m.fr == m0.fr) with
      | true =>
        cases hB : (m.tt == m0.tt) with
        | true =>
          have hP := HP.out
          rw [due_cut HKl.out HMk.out (cut_yes _ _ _ _ (.inl ⟨by simpa using hA, by simpa using hB⟩))] at hP
          have HPc := hide hP
          clear hP
          refine startT (by kernel_rfl) ?_
          refine takeT (i := 0) (v := ?va0) rfl (by kernel_rfl) (by kernel_rfl) (by kernel_rfl) (fun _ _ _ h => h) (by rfl) (Below.refl _ _) ?hya0 ?resta0
          case hya0 => (intro W hSw; obtain ⟨y1, y2, y3, y4⟩ := HK.out W (below_undrew hSw); go_simp; all_goals (with_reducible rfl))
          (try simp only [Act.put, List.setIfInBounds_toArray, List.set_cons_zero, List.set_cons_succ])
          refine takeT (i := 1) (v := ?va1) rfl (by kernel_rfl) (by kernel_rfl) (by kernel_rfl) (fun _ _ _ h => h) (by rfl) (Below.refl _ _) ?hya1 ?resta1
          case hya1 => (intro W hSw; obtain ⟨y1, y2, y3, y4⟩ := HK.out W (below_undrew hSw); go_simp; all_goals (with_reducible rfl))
          (try simp only [Act.put, List.setIfInBounds_toArray, List.set_cons_zero, List.set_cons_succ])
          refine takeT (i := 2) (v := ?va2) rfl (by kernel_rfl) (by kernel_rfl) (by kernel_rfl) (fun _ _ _ h => h) (by rfl) (Below.refl _ _) ?hya2 ?resta2
          case hya2 => (intro W hSw; obtain ⟨y1, y2, y3, y4⟩ := HK.out W (below_undrew hSw); go_simp; all_goals (with_reducible rfl))
          (try simp only [Act.put, List.setIfInBounds_toArray, List.set_cons_zero, List.set_cons_succ])
          refine takeT (i := 3) (v := ?va3) rfl (by kernel_rfl) (by kernel_rfl) (by kernel_rfl) (fun _ _ _ h => h) (by rfl) (Below.refl _ _) ?hya3 ?resta3
          case hya3 => (intro W hSw; obtain ⟨y1, y2, y3, y4⟩ := HK.out W (below_undrew hSw); go_simp; all_goals (with_reducible rfl))
          (try simp only [Act.put, List.setIfInBounds_toArray, List.set_cons_zero, List.set_cons_succ])
          refine takeT (i := 4) (v := ?va4) rfl (by kernel_rfl) (by kernel_rfl) (by kernel_rfl) (fun _ _ _ h => h) (by rfl) (Below.refl _ _) ?hya4 ?resta4
          case hya4 => (intro W hSw; obtain ⟨y1, y2, y3, y4⟩ := HK.out W (below_undrew hSw); go_simp; all_goals (with_reducible rfl))
          (try simp only [Act.put, List.setIfInBounds_toArray, List.set_cons_zero, List.set_cons_succ])
          refine takeT (i := 5) (v := ?va5) rfl (by kernel_rfl) (by kernel_rfl) (by kernel_rfl) (fun _ _ _ h => h) (by rfl) (Below.refl _ _) ?hya5 ?resta5
          case hya5 => (intro W hSw; obtain ⟨y1, y2, y3, y4⟩ := HK.out W (below_undrew hSw); go_simp; all_goals (with_reducible rfl))
          (try simp only [Act.put, List.setIfInBounds_toArray, List.set_cons_zero, List.set_cons_succ])
          refine takeT (i := 6) (v := ?va6) rfl (by kernel_rfl) (by kernel_rfl) (by kernel_rfl) (fun _ _ _ h => h) (by rfl) (Below.refl _ _) ?hya6 ?resta6
          case hya6 => (intro W hSw; obtain ⟨y1, y2, y3, y4⟩ := HK.out W (below_undrew hSw); go_simp; all_goals (with_reducible rfl))
          (try simp only [Act.put, List.setIfInBounds_toArray, List.set_cons_zero, List.set_cons_succ])
          refine takeT (i := 7) (v := ?va7) rfl (by kernel_rfl) (by kernel_rfl) (by kernel_rfl) (fun _ _ _ h => h) (by rfl) (Below.refl _ _) ?hya7 ?resta7
          case hya7 => (intro W hSw; obtain ⟨y1, y2, y3, y4⟩ := HK.out W (below_undrew hSw); go_simp; all_goals (with_reducible rfl))
          (try simp only [Act.put, List.setIfInBounds_toArray, List.set_cons_zero, List.set_cons_succ])
          refine takeT (i := 8) (v := ?va8) rfl (by kernel_rfl) (by kernel_rfl) (by kernel_rfl) (fun _ _ _ h => h) (by rfl) (Below.refl _ _) ?hya8 ?resta8
          case hya8 => (intro W hSw; obtain ⟨y1, y2, y3, y4⟩ := HK.out W (below_undrew hSw); go_simp; all_goals (with_reducible rfl))
          (try simp only [Act.put, List.setIfInBounds_toArray, List.set_cons_zero, List.set_cons_succ])
          refine takeT (i := 9) (v := ?va9) rfl (by kernel_rfl) (by kernel_rfl) (by kernel_rfl) (fun _ _ _ h => h) (by rfl) (Below.refl _ _) ?hya9 ?resta9
          case hya9 => (intro W hSw; obtain ⟨y1, y2, y3, y4⟩ := HK.out W (below_undrew hSw); go_simp; all_goals (with_reducible rfl))
          (try simp only [Act.put, List.setIfInBounds_toArray, List.set_cons_zero, List.set_cons_succ])
          refine takeT (i := 10) (v := ?va10) rfl (by kernel_rfl) (by kernel_rfl) (by kernel_rfl) (fun _ _ _ h => h) (by rfl) (Below.refl _ _) ?hya10 ?resta10
          case hya10 => (intro W hSw; obtain ⟨y1, y2, y3, y4⟩ := HK.out W (below_undrew hSw); go_simp; all_goals (with_reducible rfl))
          (try simp only [Act.put, List.setIfInBounds_toArray, List.set_cons_zero, List.set_cons_succ])
          refine takeT (i := 11) (v := ?va11) rfl (by kernel_rfl) (by kernel_rfl) (by kernel_rfl) (fun _ _ _ h => h) (by rfl) (Below.refl _ _) ?hya11 ?resta11
          case hya11 => (intro W hSw; obtain ⟨y1, y2, y3, y4⟩ := HK.out W (below_undrew hSw); go_simp; all_goals (with_reducible rfl))
          (try simp only [Act.put, List.setIfInBounds_toArray, List.set_cons_zero, List.set_cons_succ])
          refine takeT (i := 12) (v := ?va12) rfl (by kernel_rfl) (by kernel_rfl) (by kernel_rfl) (fun _ _ _ h => h) (by rfl) (Below.refl _ _) ?hya12 ?resta12
          case hya12 => (intro W hSw; obtain ⟨y1, y2, y3, y4⟩ := HK.out W (below_undrew hSw); go_simp; all_goals (with_reducible rfl))
          (try simp only [Act.put, List.setIfInBounds_toArray, List.set_cons_zero, List.set_cons_succ])
          refine takeT (i := 13) (v := ?va13) rfl (by kernel_rfl) (by kernel_rfl) (by kernel_rfl) (fun _ _ _ h => h) (by rfl) (Below.refl _ _) ?hya13 ?resta13
          case hya13 => (intro W hSw; obtain ⟨y1, y2, y3, y4⟩ := HK.out W (below_undrew hSw); go_simp; all_goals (with_reducible rfl))
          (try simp only [Act.put, List.setIfInBounds_toArray, List.set_cons_zero, List.set_cons_succ])
          refine takeT (i := 14) (v := ?va14) rfl (by kernel_rfl) (by kernel_rfl) (by kernel_rfl) (fun _ _ _ h => h) (by rfl) (Below.refl _ _) ?hya14 ?resta14
          case hya14 => (intro W hSw; obtain ⟨y1, y2, y3, y4⟩ := HK.out W (below_undrew hSw); go_simp; all_goals (with_reducible rfl))
          (try simp only [Act.put, List.setIfInBounds_toArray, List.set_cons_zero, List.set_cons_succ])
          refine takeT (i := 15) (v := ?va15) rfl (by kernel_rfl) (by kernel_rfl) (by kernel_rfl) (fun _ _ _ h => h) (by rfl) (Below.refl _ _) ?hya15 ?resta15
          case hya15 => (intro W hSw; obtain ⟨y1, y2, y3, y4⟩ := HK.out W (below_undrew hSw); go_simp; all_goals (with_reducible rfl))
          (try simp only [Act.put, List.setIfInBounds_toArray, List.set_cons_zero, List.set_cons_succ])
          refine takeT (i := 16) (v := ?va16) rfl (by kernel_rfl) (by kernel_rfl) (by kernel_rfl) (fun _ _ _ h => h) (by rfl) (Below.refl _ _) ?hya16 ?resta16
          case hya16 => (intro W hSw; obtain ⟨y1, y2, y3, y4⟩ := HK.out W (below_undrew hSw); go_simp; all_goals (with_reducible rfl))
          (try simp only [Act.put, List.setIfInBounds_toArray, List.set_cons_zero, List.set_cons_succ])
          refine takeT (i := 17) (v := ?va17) rfl (by kernel_rfl) (by kernel_rfl) (by kernel_rfl) (fun _ _ _ h => h) (by rfl) (Below.refl _ _) ?hya17 ?resta17
          case hya17 => (intro W hSw; obtain ⟨y1, y2, y3, y4⟩ := HK.out W (below_undrew hSw); go_simp; all_goals (with_reducible rfl))
          (try simp only [Act.put, List.setIfInBounds_toArray, List.set_cons_zero, List.set_cons_succ])
          refine takeT (i := 18) (v := ?va18) rfl (by kernel_rfl) (by kernel_rfl) (by kernel_rfl) (fun _ _ _ h => h) (by rfl) (Below.refl _ _) ?hya18 ?resta18
          case hya18 => (intro W hSw; obtain ⟨y1, y2, y3, y4⟩ := HK.out W (below_undrew hSw); go_simp; all_goals (with_reducible rfl))
          (try simp only [Act.put, List.setIfInBounds_toArray, List.set_cons_zero, List.set_cons_succ])
          refine skipT (i := 19) rfl (by kernel_rfl) (by kernel_rfl) (by kernel_rfl) (fun _ _ _ h => h) (by rfl) (Below.refl _ _) ?_
          (try simp only [Act.put, List.setIfInBounds_toArray, List.set_cons_zero, List.set_cons_succ])
          refine skipT (i := 20) rfl (by kernel_rfl) (by kernel_rfl) (by kernel_rfl) (fun _ _ _ h => h) (by rfl) (Below.refl _ _) ?_
          (try simp only [Act.put, List.setIfInBounds_toArray, List.set_cons_zero, List.set_cons_succ])
          refine skipT (i := 21) rfl (by kernel_rfl) (by kernel_rfl) (by kernel_rfl) (fun _ _ _ h => h) (by rfl) (Below.refl _ _) ?_
          (try simp only [Act.put, List.setIfInBounds_toArray, List.set_cons_zero, List.set_cons_succ])
          refine skipT (i := 22) rfl (by kernel_rfl) (by kernel_rfl) (by kernel_rfl) (fun _ _ _ h => h) (by rfl) (Below.refl _ _) ?_
          (try simp only [Act.put, List.setIfInBounds_toArray, List.set_cons_zero, List.set_cons_succ])
          refine skipT (i := 23) rfl (by kernel_rfl) (by kernel_rfl) (by kernel_rfl) (fun _ _ _ h => h) (by rfl) (Below.refl _ _) ?_
          (try simp only [Act.put, List.setIfInBounds_toArray, List.set_cons_zero, List.set_cons_succ])
          refine skipT (i := 24) rfl (by kernel_rfl) (by kernel_rfl) (by kernel_rfl) (fun _ _ _ h => h) (by rfl) (Below.refl _ _) ?_
          (try simp only [Act.put, List.setIfInBounds_toArray, List.set_cons_zero, List.set_cons_succ])
          refine skipT (i := 25) rfl (by kernel_rfl) (by kernel_rfl) (by kernel_rfl) (fun _ _ _ h => h) (by rfl) (Below.refl _ _) ?_
          (try simp only [Act.put, List.setIfInBounds_toArray, List.set_cons_zero, List.set_cons_succ])
          refine skipT (i := 26) rfl (by kernel_rfl) (by kernel_rfl) (by kernel_rfl) (fun _ _ _ h => h) (by rfl) (Below.refl _ _) ?_
          (try simp only [Act.put, List.setIfInBounds_toArray, List.set_cons_zero, List.set_cons_succ])
          refine skipT (i := 27) rfl (by kernel_rfl) (by kernel_rfl) (by kernel_rfl) (fun _ _ _ h => h) (by rfl) (Below.refl _ _) ?_
          (try simp only [Act.put, List.setIfInBounds_toArray, List.set_cons_zero, List.set_cons_succ])
          refine skipT (i := 28) rfl (by kernel_rfl) (by kernel_rfl) (by kernel_rfl) (fun _ _ _ h => h) (by rfl) (Below.refl _ _) ?_
          (try simp only [Act.put, List.setIfInBounds_toArray, List.set_cons_zero, List.set_cons_succ])
          refine skipT (i := 29) rfl (by kernel_rfl) (by kernel_rfl) (by kernel_rfl) (fun _ _ _ h => h) (by rfl) (Below.refl _ _) ?_
          (try simp only [Act.put, List.setIfInBounds_toArray, List.set_cons_zero, List.set_cons_succ])
          refine skipT (i := 30) rfl (by kernel_rfl) (by kernel_rfl) (by kernel_rfl) (fun _ _ _ h => h) (by rfl) (Below.refl _ _) ?_
          (try simp only [Act.put, List.setIfInBounds_toArray, List.set_cons_zero, List.set_cons_succ])
          refine skipT (i := 31) rfl (by kernel_rfl) (by kernel_rfl) (by kernel_rfl) (fun _ _ _ h => h) (by rfl) (Below.refl _ _) ?_
          (try simp only [Act.put, List.setIfInBounds_toArray, List.set_cons_zero, List.set_cons_succ])
          refine skipT (i := 32) rfl (by kernel_rfl) (by kernel_rfl) (by kernel_rfl) (fun _ _ _ h => h) (by rfl) (Below.refl _ _) ?_
          (try simp only [Act.put, List.setIfInBounds_toArray, List.set_cons_zero, List.set_cons_succ])
          refine skipT (i := 33) rfl (by kernel_rfl) (by kernel_rfl) (by kernel_rfl) (fun _ _ _ h => h) (by rfl) (Below.refl _ _) ?_
          (try simp only [Act.put, List.setIfInBounds_toArray, List.set_cons_zero, List.set_cons_succ])
          refine skipT (i := 34) rfl (by kernel_rfl) (by kernel_rfl) (by kernel_rfl) (fun _ _ _ h => h) (by rfl) (Below.refl _ _) ?_
          (try simp only [Act.put, List.setIfInBounds_toArray, List.set_cons_zero, List.set_cons_succ])
          refine takeT (i := 35) (v := ?va35) rfl (by kernel_rfl) (by kernel_rfl) (by kernel_rfl) (fun _ _ _ h => h) (by rfl) (Below.refl _ _) ?hya35 ?resta35
          case hya35 => (intro W hSw; obtain ⟨y1, y2, y3, y4⟩ := HK.out W (below_undrew hSw); go_simp; all_goals (with_reducible rfl))
          (try simp only [Act.put, List.setIfInBounds_toArray, List.set_cons_zero, List.set_cons_succ])
          refine takeT (i := 36) (v := ?va36) rfl (by kernel_rfl) (by kernel_rfl) (by kernel_rfl) (fun _ _ _ h => h) (by rfl) (Below.refl _ _) ?hya36 ?resta36
          case hya36 => (intro W hSw; obtain ⟨y1, y2, y3, y4⟩ := HK.out W (below_undrew hSw); go_simp; all_goals (with_reducible rfl))
          (try simp only [Act.put, List.setIfInBounds_toArray, List.set_cons_zero, List.set_cons_succ])
          refine wpAnyH_done (by kernel_rfl) ?_ _
          go_wp2
          go_roundw
          case rel => exact ⟨k + 1, by omega, by go_num, (by have h9 := HPc.out.keep HBt.out.drew; exact h9)⟩
          case measure => simp [intOf]; omega
        | false =>
          cases hC : (m.fr == m0.tt) with
          | true =>
            cases hD : (m.tt == m0.fr) with
            | true =>
              have hP := HP.out
              rw [due_cut HKl.out HMk.out (cut_yes _ _ _ _ (.inr ⟨by simpa using hC, by simpa using hD⟩))] at hP
              have HPc := hide hP
              clear hP
              refine startT (by kernel_rfl) ?_
              refine takeT (i := 0) (v := ?vb0) rfl (by kernel_rfl) (by kernel_rfl) (by kernel_rfl) (fun _ _ _ h => h) (by rfl) (Below.refl _ _) ?hyb0 ?restb0
              case hyb0 => (intro W hSw; obtain ⟨y1, y2, y3, y4⟩ := HK.out W (below_undrew hSw); go_simp; all_goals (with_reducible rfl))
              (try simp only [Act.put, List.setIfInBounds_toArray, List.set_cons_zero, List.set_cons_succ])
              refine takeT (i := 1) (v := ?vb1) rfl (by kernel_rfl) (by kernel_rfl) (by kernel_rfl) (fun _ _ _ h => h) (by rfl) (Below.refl _ _) ?hyb1 ?restb1
              case hyb1 => (intro W hSw; obtain ⟨y1, y2, y3, y4⟩ := HK.out W (below_undrew hSw); go_simp; all_goals (with_reducible rfl))
              (try simp only [Act.put, List.setIfInBounds_toArray, List.set_cons_zero, List.set_cons_succ])
              refine takeT (i := 2) (v := ?vb2) rfl (by kernel_rfl) (by kernel_rfl) (by kernel_rfl) (fun _ _ _ h => h) (by rfl) (Below.refl _ _) ?hyb2 ?restb2
              case hyb2 => (intro W hSw; obtain ⟨y1, y2, y3, y4⟩ := HK.out W (below_undrew hSw); go_simp; all_goals (with_reducible rfl))
              (try simp only [Act.put, List.setIfInBounds_toArray, List.set_cons_zero, List.set_cons_succ])
              refine takeT (i := 3) (v := ?vb3) rfl (by kernel_rfl) (by kernel_rfl) (by kernel_rfl) (fun _ _ _ h => h) (by rfl) (Below.refl _ _) ?hyb3 ?restb3
              case hyb3 => (intro W hSw; obtain ⟨y1, y2, y3, y4⟩ := HK.out W (below_undrew hSw); go_simp; all_goals (with_reducible rfl))
              (try simp only [Act.put, List.setIfInBounds_toArray, List.set_cons_zero, List.set_cons_succ])
              refine takeT (i := 4) (v := ?vb4) rfl (by kernel_rfl) (by kernel_rfl) (by kernel_rfl) (fun _ _ _ h => h) (by rfl) (Below.refl _ _) ?hyb4 ?restb4
              case hyb4 => (intro W hSw; obtain ⟨y1, y2, y3, y4⟩ := HK.out W (below_undrew hSw); go_simp; all_goals (with_reducible rfl))
              (try simp only [Act.put, List.setIfInBounds_toArray, List.set_cons_zero, List.set_cons_succ])
              refine takeT (i := 5) (v := ?vb5) rfl (by kernel_rfl) (by kernel_rfl) (by kernel_rfl) (fun _ _ _ h => h) (by rfl) (Below.refl _ _) ?hyb5 ?restb5
              case hyb5 => (intro W hSw; obtain ⟨y1, y2, y3, y4⟩ := HK.out W (below_undrew hSw); go_simp; all_goals (with_reducible rfl))
              (try simp only [Act.put, List.setIfInBounds_toArray, List.set_cons_zero, List.set_cons_succ])
              refine takeT (i := 6) (v := ?vb6) rfl (by kernel_rfl) (by kernel_rfl) (by kernel_rfl) (fun _ _ _ h => h) (by rfl) (Below.refl _ _) ?hyb6 ?restb6
              case hyb6 => (intro W hSw; obtain ⟨y1, y2, y3, y4⟩ := HK.out W (below_undrew hSw); go_simp; all_goals (with_reducible rfl))
              (try simp only [Act.put, List.setIfInBounds_toArray, List.set_cons_zero, List.set_cons_succ])
              refine takeT (i := 7) (v := ?vb7) rfl (by kernel_rfl) (by kernel_rfl) (by kernel_rfl) (fun _ _ _ h => h) (by rfl) (Below.refl _ _) ?hyb7 ?restb7
              case hyb7 => (intro W hSw; obtain ⟨y1, y2, y3, y4⟩ := HK.out W (below_undrew hSw); go_simp; all_goals (with_reducible rfl))
              (try simp only [Act.put, List.setIfInBounds_toArray, List.set_cons_zero, List.set_cons_succ])
              refine takeT (i := 8) (v := ?vb8) rfl (by kernel_rfl) (by kernel_rfl) (by kernel_rfl) (fun _ _ _ h => h) (by rfl) (Below.refl _ _) ?hyb8 ?restb8
              case hyb8 => (intro W hSw; obtain ⟨y1, y2, y3, y4⟩ := HK.out W (below_undrew hSw); go_simp; all_goals (with_reducible rfl))
              (try simp only [Act.put, List.setIfInBounds_toArray, List.set_cons_zero, List.set_cons_succ])
              refine takeT (i := 9) (v := ?vb9) rfl (by kernel_rfl) (by kernel_rfl) (by kernel_rfl) (fun _ _ _ h => h) (by rfl) (Below.refl _ _) ?hyb9 ?restb9
              case hyb9 => (intro W hSw; obtain ⟨y1, y2, y3, y4⟩ := HK.out W (below_undrew hSw); go_simp; all_goals (with_reducible rfl))
              (try simp only [Act.put, List.setIfInBounds_toArray, List.set_cons_zero, List.set_cons_succ])
              refine takeT (i := 10) (v := ?vb10) rfl (by kernel_rfl) (by kernel_rfl) (by kernel_rfl) (fun _ _ _ h => h) (by rfl) (Below.refl _ _) ?hyb10 ?restb10
              case hyb10 => (intro W hSw; obtain ⟨y1, y2, y3, y4⟩ := HK.out W (below_undrew hSw); go_simp; all_goals (with_reducible rfl))
              (try simp only [Act.put, List.setIfInBounds_toArray, List.set_cons_zero, List.set_cons_succ])
              refine takeT (i := 11) (v := ?vb11) rfl (by kernel_rfl) (by kernel_rfl) (by kernel_rfl) (fun _ _ _ h => h) (by rfl) (Below.refl _ _) ?hyb11 ?restb11
              case hyb11 => (intro W hSw; obtain ⟨y1, y2, y3, y4⟩ := HK.out W (below_undrew hSw); go_simp; all_goals (with_reducible rfl))
              (try simp only [Act.put, List.setIfInBounds_toArray, List.set_cons_zero, List.set_cons_succ])
              refine takeT (i := 12) (v := ?vb12) rfl (by kernel_rfl) (by kernel_rfl) (by kernel_rfl) (fun _ _ _ h => h) (by rfl) (Below.refl _ _) ?hyb12 ?restb12
              case hyb12 => (intro W hSw; obtain ⟨y1, y2, y3, y4⟩ := HK.out W (below_undrew hSw); go_simp; all_goals (with_reducible rfl))
              (try simp only [Act.put, List.setIfInBounds_toArray, List.set_cons_zero, List.set_cons_succ])
              refine takeT (i := 13) (v := ?vb13) rfl (by kernel_rfl) (by kernel_rfl) (by kernel_rfl) (fun _ _ _ h => h) (by rfl) (Below.refl _ _) ?hyb13 ?restb13
              case hyb13 => (intro W hSw; obtain ⟨y1, y2, y3, y4⟩ := HK.out W (below_undrew hSw); go_simp; all_goals (with_reducible rfl))
              (try simp only [Act.put, List.setIfInBounds_toArray, List.set_cons_zero, List.set_cons_succ])
              refine takeT (i := 14) (v := ?vb14) rfl (by kernel_rfl) (by kernel_rfl) (by kernel_rfl) (fun _ _ _ h => h) (by rfl) (Below.refl _ _) ?hyb14 ?restb14
              case hyb14 => (intro W hSw; obtain ⟨y1, y2, y3, y4⟩ := HK.out W (below_undrew hSw); go_simp; all_goals (with_reducible rfl))
              (try simp only [Act.put, List.setIfInBounds_toArray, List.set_cons_zero, List.set_cons_succ])
              refine takeT (i := 15) (v := ?vb15) rfl (by kernel_rfl) (by kernel_rfl) (by kernel_rfl) (fun _ _ _ h => h) (by rfl) (Below.refl _ _) ?hyb15 ?restb15
              case hyb15 => (intro W hSw; obtain ⟨y1, y2, y3, y4⟩ := HK.out W (below_undrew hSw); go_simp; all_goals (with_reducible rfl))
              (try simp only [Act.put, List.setIfInBounds_toArray, List.set_cons_zero, List.set_cons_succ])
              refine takeT (i := 16) (v := ?vb16) rfl (by kernel_rfl) (by kernel_rfl) (by kernel_rfl) (fun _ _ _ h => h) (by rfl) (Below.refl _ _) ?hyb16 ?restb16
              case hyb16 => (intro W hSw; obtain ⟨y1, y2, y3, y4⟩ := HK.out W (below_undrew hSw); go_simp; all_goals (with_reducible rfl))
              (try simp only [Act.put, List.setIfInBounds_toArray, List.set_cons_zero, List.set_cons_succ])
              refine takeT (i := 17) (v := ?vb17) rfl (by kernel_rfl) (by kernel_rfl) (by kernel_rfl) (fun _ _ _ h => h) (by rfl) (Below.refl _ _) ?hyb17 ?restb17
              case hyb17 => (intro W hSw; obtain ⟨y1, y2, y3, y4⟩ := HK.out W (below_undrew hSw); go_simp; all_goals (with_reducible rfl))
              (try simp only [Act.put, List.setIfInBounds_toArray, List.set_cons_zero, List.set_cons_succ])
              refine takeT (i := 18) (v := ?vb18) rfl (by kernel_rfl) (by kernel_rfl) (by kernel_rfl) (fun _ _ _ h => h) (by rfl) (Below.refl _ _) ?hyb18 ?restb18
              case hyb18 => (intro W hSw; obtain ⟨y1, y2, y3, y4⟩ := HK.out W (below_undrew hSw); go_simp; all_goals (with_reducible rfl))
              (try simp only [Act.put, List.setIfInBounds_toArray, List.set_cons_zero, List.set_cons_succ])
              refine takeT (i := 19) (v := ?vb19) rfl (by kernel_rfl) (by kernel_rfl) (by kernel_rfl) (fun _ _ _ h => h) (by rfl) (Below.refl _ _) ?hyb19 ?restb19
              case hyb19 => (intro W hSw; obtain ⟨y1, y2, y3, y4⟩ := HK.out W (below_undrew hSw); go_simp; all_goals (with_reducible rfl))
              (try simp only [Act.put, List.setIfInBounds_toArray, List.set_cons_zero, List.set_cons_succ])
              refine takeT (i := 20) (v := ?vb20) rfl (by kernel_rfl) (by kernel_rfl) (by kernel_rfl) (fun _ _ _ h => h) (by rfl) (Below.refl _ _) ?hyb20 ?restb20
              case hyb20 => (intro W hSw; obtain ⟨y1, y2, y3, y4⟩ := HK.out W (below_undrew hSw); go_simp; all_goals (with_reducible rfl))
              (try simp only [Act.put, List.setIfInBounds_toArray, List.set_cons_zero, List.set_cons_succ])
              refine takeT (i := 21) (v := ?vb21) rfl (by kernel_rfl) (by kernel_rfl) (by kernel_rfl) (fun _ _ _ h => h) (by rfl) (Below.refl _ _) ?hyb21 ?restb21
              case hyb21 => (intro W hSw; obtain ⟨y1, y2, y3, y4⟩ := HK.out W (below_undrew hSw); go_simp; all_goals (with_reducible rfl))
              (try simp only [Act.put, List.setIfInBounds_toArray, List.set_cons_zero, List.set_cons_succ])
              refine takeT (i := 22) (v := ?vb22) rfl (by kernel_rfl) (by kernel_rfl) (by kernel_rfl) (fun _ _ _ h => h) (by rfl) (Below.refl _ _) ?hyb22 ?restb22
              case hyb22 => (intro W hSw; obtain ⟨y1, y2, y3, y4⟩ := HK.out W (below_undrew hSw); go_simp; all_goals (with_reducible rfl))
              (try simp only [Act.put, List.setIfInBounds_toArray, List.set_cons_zero, List.set_cons_succ])
              refine takeT (i := 23) (v := ?vb23) rfl (by kernel_rfl) (by kernel_rfl) (by kernel_rfl) (fun _ _ _ h => h) (by rfl) (Below.refl _ _) ?hyb23 ?restb23
              case hyb23 => (intro W hSw; obtain ⟨y1, y2, y3, y4⟩ := HK.out W (below_undrew hSw); go_simp; all_goals (with_reducible rfl))
              (try simp only [Act.put, List.setIfInBounds_toArray, List.set_cons_zero, List.set_cons_succ])
              refine takeT (i := 24) (v := ?vb24) rfl (by kernel_rfl) (by kernel_rfl) (by kernel_rfl) (fun _ _ _ h => h) (by rfl) (Below.refl _ _) ?hyb24 ?restb24
              case hyb24 => (intro W hSw; obtain ⟨y1, y2, y3, y4⟩ := HK.out W (below_undrew hSw); go_simp; all_goals (with_reducible rfl))
              (try simp only [Act.put, List.setIfInBounds_toArray, List.set_cons_zero, List.set_cons_succ])
              refine takeT (i := 25) (v := ?vb25) rfl (by kernel_rfl) (by kernel_rfl) (by kernel_rfl) (fun _ _ _ h => h) (by rfl) (Below.refl _ _) ?hyb25 ?restb25
              case hyb25 => (intro W hSw; obtain ⟨y1, y2, y3, y4⟩ := HK.out W (below_undrew hSw); go_simp; all_goals (with_reducible rfl))
              (try simp only [Act.put, List.setIfInBounds_toArray, List.set_cons_zero, List.set_cons_succ])
              refine takeT (i := 26) (v := ?vb26) rfl (by kernel_rfl) (by kernel_rfl) (by kernel_rfl) (fun _ _ _ h => h) (by rfl) (Below.refl _ _) ?hyb26 ?restb26
              case hyb26 => (intro W hSw; obtain ⟨y1, y2, y3, y4⟩ := HK.out W (below_undrew hSw); go_simp; all_goals (with_reducible rfl))
              (try simp only [Act.put, List.setIfInBounds_toArray, List.set_cons_zero, List.set_cons_succ])
              refine takeT (i := 27) (v := ?vb27) rfl (by kernel_rfl) (by kernel_rfl) (by kernel_rfl) (fun _ _ _ h => h) (by rfl) (Below.refl _ _) ?hyb27 ?restb27
              case hyb27 => (intro W hSw; obtain ⟨y1, y2, y3, y4⟩ := HK.out W (below_undrew hSw); go_simp; all_goals (with_reducible rfl))
              (try simp only [Act.put, List.setIfInBounds_toArray, List.set_cons_zero, List.set_cons_succ])
              refine takeT (i := 28) (v := ?vb28) rfl (by kernel_rfl) (by kernel_rfl) (by kernel_rfl) (fun _ _ _ h => h) (by rfl) (Below.refl _ _) ?hyb28 ?restb28
              case hyb28 => (intro W hSw; obtain ⟨y1, y2, y3, y4⟩ := HK.out W (below_undrew hSw); go_simp; all_goals (with_reducible rfl))
              (try simp only [Act.put, List.setIfInBounds_toArray, List.set_cons_zero, List.set_cons_succ])
              refine takeT (i := 29) (v := ?vb29) rfl (by kernel_rfl) (by kernel_rfl) (by kernel_rfl) (fun _ _ _ h => h) (by rfl) (Below.refl _ _) ?hyb29 ?restb29
              case hyb29 => (intro W hSw; obtain ⟨y1, y2, y3, y4⟩ := HK.out W (below_undrew hSw); go_simp; all_goals (with_reducible rfl))
              (try simp only [Act.put, List.setIfInBounds_toArray, List.set_cons_zero, List.set_cons_succ])
              refine takeT (i := 30) (v := ?vb30) rfl (by kernel_rfl) (by kernel_rfl) (by kernel_rfl) (fun _ _ _ h => h) (by rfl) (Below.refl _ _) ?hyb30 ?restb30
              case hyb30 => (intro W hSw; obtain ⟨y1, y2, y3, y4⟩ := HK.out W (below_undrew hSw); go_simp; all_goals (with_reducible rfl))
              (try simp only [Act.put, List.setIfInBounds_toArray, List.set_cons_zero, List.set_cons_succ])
              refine takeT (i := 31) (v := ?vb31) rfl (by kernel_rfl) (by kernel_rfl) (by kernel_rfl) (fun _ _ _ h => h) (by rfl) (Below.refl _ _) ?hyb31 ?restb31
              case hyb31 => (intro W hSw; obtain ⟨y1, y2, y3, y4⟩ := HK.out W (below_undrew hSw); go_simp; all_goals (with_reducible rfl))
              (try simp only [Act.put, List.setIfInBounds_toArray, List.set_cons_zero, List.set_cons_succ])
              refine takeT (i := 32) (v := ?vb32) rfl (by kernel_rfl) (by kernel_rfl) (by kernel_rfl) (fun _ _ _ h => h) (by rfl) (Below.refl _ _) ?hyb32 ?restb32
              case hyb32 => (intro W hSw; obtain ⟨y1, y2, y3, y4⟩ := HK.out W (below_undrew hSw); go_simp; all_goals (with_reducible rfl))
              (try simp only [Act.put, List.setIfInBounds_toArray, List.set_cons_zero, List.set_cons_succ])
              refine takeT (i := 33) (v := ?vb33) rfl (by kernel_rfl) (by kernel_rfl) (by kernel_rfl) (fun _ _ _ h => h) (by rfl) (Below.refl _ _) ?hyb33 ?restb33
              case hyb33 => (intro W hSw; obtain ⟨y1, y2, y3, y4⟩ := HK.out W (below_undrew hSw); go_simp; all_goals (with_reducible rfl))
              (try simp only [Act.put, List.setIfInBounds_toArray, List.set_cons_zero, List.set_cons_succ])
              refine takeT (i := 34) (v := ?vb34) rfl (by kernel_rfl) (by kernel_rfl) (by kernel_rfl) (fun _ _ _ h => h) (by rfl) (Below.refl _ _) ?hyb34 ?restb34
              case hyb34 => (intro W hSw; obtain ⟨y1, y2, y3, y4⟩ := HK.out W (below_undrew hSw); go_simp; all_goals (with_reducible rfl))
              (try simp only [Act.put, List.setIfInBounds_toArray, List.set_cons_zero, List.set_cons_succ])
              refine takeT (i := 35) (v := ?vb35) rfl (by kernel_rfl) (by kernel_rfl) (by kernel_rfl) (fun _ _ _ h => h) (by rfl) (Below.refl _ _) ?hyb35 ?restb35
              case hyb35 => (intro W hSw; obtain ⟨y1, y2, y3, y4⟩ := HK.out W (below_undrew hSw); go_simp; all_goals (with_reducible rfl))
              (try simp only [Act.put, List.setIfInBounds_toArray, List.set_cons_zero, List.set_cons_succ])
              refine takeT (i := 36) (v := ?vb36) rfl (by kernel_rfl) (by kernel_rfl) (by kernel_rfl) (fun _ _ _ h => h) (by rfl) (Below.refl _ _) ?hyb36 ?restb36
              case hyb36 => (intro W hSw; obtain ⟨y1, y2, y3, y4⟩ := HK.out W (below_undrew hSw); go_simp; all_goals (with_reducible rfl))
              (try simp only [Act.put, List.setIfInBounds_toArray, List.set_cons_zero, List.set_cons_succ])
              refine wpAnyH_done (by kernel_rfl) ?_ _
              go_wp2
              go_roundw
              case rel => exact ⟨k + 1, by omega, by go_num, (by have h9 := HPc.out.keep HBt.out.drew; exact h9)⟩
              case measure => simp [intOf]; omega
            | false =>
              have hP := HP.out
              rw [due_pass HKl.out HMk.out (cut_no _ _ _ _ (by simp at hA hB hC hD; omega))] at hP
              have HPm := hide hP
              clear hP
              refine startT (by kernel_rfl) ?_
              refine takeT (i := 0) (v := ?vc0) rfl (by kernel_rfl) (by kernel_rfl) (by kernel_rfl) (fun _ _ _ h => h) (by rfl) (Below.refl _ _) ?hyc0 ?restc0
              case hyc0 => (intro W hSw; obtain ⟨y1, y2, y3, y4⟩ := HK.out W (below_undrew hSw); go_simp; all_goals (with_reducible rfl))
              (try simp only [Act.put, List.setIfInBounds_toArray, List.set_cons_zero, List.set_cons_succ])
              refine takeT (i := 1) (v := ?vc1) rfl (by kernel_rfl) (by kernel_rfl) (by kernel_rfl) (fun _ _ _ h => h) (by rfl) (Below.refl _ _) ?hyc1 ?restc1
              case hyc1 => (intro W hSw; obtain ⟨y1, y2, y3, y4⟩ := HK.out W (below_undrew hSw); go_simp; all_goals (with_reducible rfl))
              (try simp only [Act.put, List.setIfInBounds_toArray, List.set_cons_zero, List.set_cons_succ])
              refine takeT (i := 2) (v := ?vc2) rfl (by kernel_rfl) (by kernel_rfl) (by kernel_rfl) (fun _ _ _ h => h) (by rfl) (Below.refl _ _) ?hyc2 ?restc2
              case hyc2 => (intro W hSw; obtain ⟨y1, y2, y3, y4⟩ := HK.out W (below_undrew hSw); go_simp; all_goals (with_reducible rfl))
              (try simp only [Act.put, List.setIfInBounds_toArray, List.set_cons_zero, List.set_cons_succ])
              refine takeT (i := 3) (v := ?vc3) rfl (by kernel_rfl) (by kernel_rfl) (by kernel_rfl) (fun _ _ _ h => h) (by rfl) (Below.refl _ _) ?hyc3 ?restc3
              case hyc3 => (intro W hSw; obtain ⟨y1, y2, y3, y4⟩ := HK.out W (below_undrew hSw); go_simp; all_goals (with_reducible rfl))
              (try simp only [Act.put, List.setIfInBounds_toArray, List.set_cons_zero, List.set_cons_succ])
              refine takeT (i := 4) (v := ?vc4) rfl (by kernel_rfl) (by kernel_rfl) (by kernel_rfl) (fun _ _ _ h => h) (by rfl) (Below.refl _ _) ?hyc4 ?restc4
              case hyc4 => (intro W hSw; obtain ⟨y1, y2, y3, y4⟩ := HK.out W (below_undrew hSw); go_simp; all_goals (with_reducible rfl))
              (try simp only [Act.put, List.setIfInBounds_toArray, List.set_cons_zero, List.set_cons_succ])
              refine takeT (i := 5) (v := ?vc5) rfl (by kernel_rfl) (by kernel_rfl) (by kernel_rfl) (fun _ _ _ h => h) (by rfl) (Below.refl _ _) ?hyc5 ?restc5
              case hyc5 => (intro W hSw; obtain ⟨y1, y2, y3, y4⟩ := HK.out W (below_undrew hSw); go_simp; all_goals (with_reducible rfl))
              (try simp only [Act.put, List.setIfInBounds_toArray, List.set_cons_zero, List.set_cons_succ])
              refine takeT (i := 6) (v := ?vc6) rfl (by kernel_rfl) (by kernel_rfl) (by kernel_rfl) (fun _ _ _ h => h) (by rfl) (Below.refl _ _) ?hyc6 ?restc6
              case hyc6 => (intro W hSw; obtain ⟨y1, y2, y3, y4⟩ := HK.out W (below_undrew hSw); go_simp; all_goals (with_reducible rfl))
              (try simp only [Act.put, List.setIfInBounds_toArray, List.set_cons_zero, List.set_cons_succ])
              refine takeT (i := 7) (v := ?vc7) rfl (by kernel_rfl) (by kernel_rfl) (by kernel_rfl) (fun _ _ _ h => h) (by rfl) (Below.refl _ _) ?hyc7 ?restc7
              case hyc7 => (intro W hSw; obtain ⟨y1, y2, y3, y4⟩ := HK.out W (below_undrew hSw); go_simp; all_goals (with_reducible rfl))
              (try simp only [Act.put, List.setIfInBounds_toArray, List.set_cons_zero, List.set_cons_succ])
              refine takeT (i := 8) (v := ?vc8) rfl (by kernel_rfl) (by kernel_rfl) (by kernel_rfl) (fun _ _ _ h => h) (by rfl) (Below.refl _ _) ?hyc8 ?restc8
              case hyc8 => (intro W hSw; obtain ⟨y1, y2, y3, y4⟩ := HK.out W (below_undrew hSw); go_simp; all_goals (with_reducible rfl))
              (try simp only [Act.put, List.setIfInBounds_toArray, List.set_cons_zero, List.set_cons_succ])
              refine takeT (i := 9) (v := ?vc9) rfl (by kernel_rfl) (by kernel_rfl) (by kernel_rfl) (fun _ _ _ h => h) (by rfl) (Below.refl _ _) ?hyc9 ?restc9
              case hyc9 => (intro W hSw; obtain ⟨y1, y2, y3, y4⟩ := HK.out W (below_undrew hSw); go_simp; all_goals (with_reducible rfl))
              (try simp only [Act.put, List.setIfInBounds_toArray, List.set_cons_zero, List.set_cons_succ])
              refine takeT (i := 10) (v := ?vc10) rfl (by kernel_rfl) (by kernel_rfl) (by kernel_rfl) (fun _ _ _ h => h) (by rfl) (Below.refl _ _) ?hyc10 ?restc10
              case hyc10 => (intro W hSw; obtain ⟨y1, y2, y3, y4⟩ := HK.out W (below_undrew hSw); go_simp; all_goals (with_reducible rfl))
              (try simp only [Act.put, List.setIfInBounds_toArray, List.set_cons_zero, List.set_cons_succ])
              refine takeT (i := 11) (v := ?vc11) rfl (by kernel_rfl) (by kernel_rfl) (by kernel_rfl) (fun _ _ _ h => h) (by rfl) (Below.refl _ _) ?hyc11 ?restc11
              case hyc11 => (intro W hSw; obtain ⟨y1, y2, y3, y4⟩ := HK.out W (below_undrew hSw); go_simp; all_goals (with_reducible rfl))
              (try simp only [Act.put, List.setIfInBounds_toArray, List.set_cons_zero, List.set_cons_succ])
              refine takeT (i := 12) (v := ?vc12) rfl (by kernel_rfl) (by kernel_rfl) (by kernel_rfl) (fun _ _ _ h => h) (by rfl) (Below.refl _ _) ?hyc12 ?restc12
              case hyc12 => (intro W hSw; obtain ⟨y1, y2, y3, y4⟩ := HK.out W (below_undrew hSw); go_simp; all_goals (with_reducible rfl))
              (try simp only [Act.put, List.setIfInBounds_toArray, List.set_cons_zero, List.set_cons_succ])
              refine takeT (i := 13) (v := ?vc13) rfl (by kernel_rfl) (by kernel_rfl) (by kernel_rfl) (fun _ _ _ h => h) (by rfl) (Below.refl _ _) ?hyc13 ?restc13
              case hyc13 => (intro W hSw; obtain ⟨y1, y2, y3, y4⟩ := HK.out W (below_undrew hSw); go_simp; all_goals (with_reducible rfl))
              (try simp only [Act.put, List.setIfInBounds_toArray, List.set_cons_zero, List.set_cons_succ])
              refine takeT (i := 14) (v := ?vc14) rfl (by kernel_rfl) (by kernel_rfl) (by kernel_rfl) (fun _ _ _ h => h) (by rfl) (Below.refl _ _) ?hyc14 ?restc14
              case hyc14 => (intro W hSw; obtain ⟨y1, y2, y3, y4⟩ := HK.out W (below_undrew hSw); go_simp; all_goals (with_reducible rfl))
              (try simp only [Act.put, List.setIfInBounds_toArray, List.set_cons_zero, List.set_cons_succ])
              refine takeT (i := 15) (v := ?vc15) rfl (by kernel_rfl) (by kernel_rfl) (by kernel_rfl) (fun _ _ _ h => h) (by rfl) (Below.refl _ _) ?hyc15 ?restc15
              case hyc15 => (intro W hSw; obtain ⟨y1, y2, y3, y4⟩ := HK.out W (below_undrew hSw); go_simp; all_goals (with_reducible rfl))
              (try simp only [Act.put, List.setIfInBounds_toArray, List.set_cons_zero, List.set_cons_succ])
              refine takeT (i := 16) (v := ?vc16) rfl (by kernel_rfl) (by kernel_rfl) (by kernel_rfl) (fun _ _ _ h => h) (by rfl) (Below.refl _ _) ?hyc16 ?restc16
              case hyc16 => (intro W hSw; obtain ⟨y1, y2, y3, y4⟩ := HK.out W (below_undrew hSw); go_simp; all_goals (with_reducible rfl))
              (try simp only [Act.put, List.setIfInBounds_toArray, List.set_cons_zero, List.set_cons_succ])
              refine takeT (i := 17) (v := ?vc17) rfl (by kernel_rfl) (by kernel_rfl) (by kernel_rfl) (fun _ _ _ h => h) (by rfl) (Below.refl _ _) ?hyc17 ?restc17
              case hyc17 => (intro W hSw; obtain ⟨y1, y2, y3, y4⟩ := HK.out W (below_undrew hSw); go_simp; all_goals (with_reducible rfl))
              (try simp only [Act.put, List.setIfInBounds_toArray, List.set_cons_zero, List.set_cons_succ])
              refine takeT (i := 18) (v := ?vc18) rfl (by kernel_rfl) (by kernel_rfl) (by kernel_rfl) (fun _ _ _ h => h) (by rfl) (Below.refl _ _) ?hyc18 ?restc18
              case hyc18 => (intro W hSw; obtain ⟨y1, y2, y3, y4⟩ := HK.out W (below_undrew hSw); go_simp; all_goals (with_reducible rfl))
              (try simp only [Act.put, List.setIfInBounds_toArray, List.set_cons_zero, List.set_cons_succ])
              refine takeT (i := 19) (v := ?vc19) rfl (by kernel_rfl) (by kernel_rfl) (by kernel_rfl) (fun _ _ _ h => h) (by rfl) (Below.refl _ _) ?hyc19 ?restc19
              case hyc19 => (intro W hSw; obtain ⟨y1, y2, y3, y4⟩ := HK.out W (below_undrew hSw); go_simp; all_goals (with_reducible rfl))
              (try simp only [Act.put, List.setIfInBounds_toArray, List.set_cons_zero, List.set_cons_succ])
              refine takeT (i := 20) (v := ?vc20) rfl (by kernel_rfl) (by kernel_rfl) (by kernel_rfl) (fun _ _ _ h => h) (by rfl) (Below.refl _ _) ?hyc20 ?restc20
              case hyc20 => (intro W hSw; obtain ⟨y1, y2, y3, y4⟩ := HK.out W (below_undrew hSw); go_simp; all_goals (with_reducible rfl))
              (try simp only [Act.put, List.setIfInBounds_toArray, List.set_cons_zero, List.set_cons_succ])
              refine takeT (i := 21) (v := ?vc21) rfl (by kernel_rfl) (by kernel_rfl) (by kernel_rfl) (fun _ _ _ h => h) (by rfl) (Below.refl _ _) ?hyc21 ?restc21
              case hyc21 => (intro W hSw; obtain ⟨y1, y2, y3, y4⟩ := HK.out W (below_undrew hSw); go_simp; all_goals (with_reducible rfl))
              (try simp only [Act.put, List.setIfInBounds_toArray, List.set_cons_zero, List.set_cons_succ])
              refine takeT (i := 22) (v := ?vc22) rfl (by kernel_rfl) (by kernel_rfl) (by kernel_rfl) (fun _ _ _ h => h) (by rfl) (Below.refl _ _) ?hyc22 ?restc22
              case hyc22 => (intro W hSw; obtain ⟨y1, y2, y3, y4⟩ := HK.out W (below_undrew hSw); go_simp; all_goals (with_reducible rfl))
              (try simp only [Act.put, List.setIfInBounds_toArray, List.set_cons_zero, List.set_cons_succ])
              refine takeT (i := 23) (v := ?vc23) rfl (by kernel_rfl) (by kernel_rfl) (by kernel_rfl) (fun _ _ _ h => h) (by rfl) (Below.refl _ _) ?hyc23 ?restc23
              case hyc23 => (intro W hSw; obtain ⟨y1, y2, y3, y4⟩ := HK.out W (below_undrew hSw); go_simp; all_goals (with_reducible rfl))
              (try simp only [Act.put, List.setIfInBounds_toArray, List.set_cons_zero, List.set_cons_succ])
              refine takeT (i := 24) (v := ?vc24) rfl (by kernel_rfl) (by kernel_rfl) (by kernel_rfl) (fun _ _ _ h => h) (by rfl) (Below.refl _ _) ?hyc24 ?restc24
              case hyc24 => (intro W hSw; obtain ⟨y1, y2, y3, y4⟩ := HK.out W (below_undrew hSw); go_simp; all_goals (with_reducible rfl))
              (try simp only [Act.put, List.setIfInBounds_toArray, List.set_cons_zero, List.set_cons_succ])
              refine takeT (i := 25) (v := ?vc25) rfl (by kernel_rfl) (by kernel_rfl) (by kernel_rfl) (fun _ _ _ h => h) (by rfl) (Below.refl _ _) ?hyc25 ?restc25
              case hyc25 => (intro W hSw; obtain ⟨y1, y2, y3, y4⟩ := HK.out W (below_undrew hSw); go_simp; all_goals (with_reducible rfl))
              (try simp only [Act.put, List.setIfInBounds_toArray, List.set_cons_zero, List.set_cons_succ])
              refine takeT (i := 26) (v := ?vc26) rfl (by kernel_rfl) (by kernel_rfl) (by kernel_rfl) (fun _ _ _ h => h) (by rfl) (Below.refl _ _) ?hyc26 ?restc26
              case hyc26 => (intro W hSw; obtain ⟨y1, y2, y3, y4⟩ := HK.out W (below_undrew hSw); go_simp; all_goals (with_reducible rfl))
              (try simp only [Act.put, List.setIfInBounds_toArray, List.set_cons_zero, List.set_cons_succ])
              refine takeT (i := 27) (v := ?vc27) rfl (by kernel_rfl) (by kernel_rfl) (by kernel_rfl) (fun _ _ _ h => h) (by rfl) (Below.refl _ _) ?hyc27 ?restc27
              case hyc27 => (intro W hSw; obtain ⟨y1, y2, y3, y4⟩ := HK.out W (below_undrew hSw); go_simp; all_goals (with_reducible rfl))
              (try simp only [Act.put, List.setIfInBounds_toArray, List.set_cons_zero, List.set_cons_succ])
              refine takeT (i := 28) (v := ?vc28) rfl (by kernel_rfl) (by kernel_rfl) (by kernel_rfl) (fun _ _ _ h => h) (by rfl) (Below.refl _ _) ?hyc28 ?restc28
              case hyc28 => (intro W hSw; obtain ⟨y1, y2, y3, y4⟩ := HK.out W (below_undrew hSw); go_simp; all_goals (with_reducible rfl))
              (try simp only [Act.put, List.setIfInBounds_toArray, List.set_cons_zero, List.set_cons_succ])
              refine takeT (i := 29) (v := ?vc29) rfl (by kernel_rfl) (by kernel_rfl) (by kernel_rfl) (fun _ _ _ h => h) (by rfl) (Below.refl _ _) ?hyc29 ?restc29
              case hyc29 => (intro W hSw; obtain ⟨y1, y2, y3, y4⟩ := HK.out W (below_undrew hSw); go_simp; all_goals (with_reducible rfl))
              (try simp only [Act.put, List.setIfInBounds_toArray, List.set_cons_zero, List.set_cons_succ])
              refine takeT (i := 30) (v := ?vc30) rfl (by kernel_rfl) (by kernel_rfl) (by kernel_rfl) (fun _ _ _ h => h) (by rfl) (Below.refl _ _) ?hyc30 ?restc30
              case hyc30 => (intro W hSw; obtain ⟨y1, y2, y3, y4⟩ := HK.out W (below_undrew hSw); go_simp; all_goals (with_reducible rfl))
              (try simp only [Act.put, List.setIfInBounds_toArray, List.set_cons_zero, List.set_cons_succ])
              refine takeT (i := 31) (v := ?vc31) rfl (by kernel_rfl) (by kernel_rfl) (by kernel_rfl) (fun _ _ _ h => h) (by rfl) (Below.refl _ _) ?hyc31 ?restc31
              case hyc31 => (intro W hSw; obtain ⟨y1, y2, y3, y4⟩ := HK.out W (below_undrew hSw); go_simp; all_goals (with_reducible rfl))
              (try simp only [Act.put, List.setIfInBounds_toArray, List.set_cons_zero, List.set_cons_succ])
              refine takeT (i := 32) (v := ?vc32) rfl (by kernel_rfl) (by kernel_rfl) (by kernel_rfl) (fun _ _ _ h => h) (by rfl) (Below.refl _ _) ?hyc32 ?restc32
              case hyc32 => (intro W hSw; obtain ⟨y1, y2, y3, y4⟩ := HK.out W (below_undrew hSw); go_simp; all_goals (with_reducible rfl))
              (try simp only [Act.put, List.setIfInBounds_toArray, List.set_cons_zero, List.set_cons_succ])
              refine takeT (i := 33) (v := ?vc33) rfl (by kernel_rfl) (by kernel_rfl) (by kernel_rfl) (fun _ _ _ h => h) (by rfl) (Below.refl _ _) ?hyc33 ?restc33
              case hyc33 => (intro W hSw; obtain ⟨y1, y2, y3, y4⟩ := HK.out W (below_undrew hSw); go_simp; all_goals (with_reducible rfl))
              (try simp only [Act.put, List.setIfInBounds_toArray, List.set_cons_zero, List.set_cons_succ])
              refine takeT (i := 34) (v := ?vc34) rfl (by kernel_rfl) (by kernel_rfl) (by kernel_rfl) (fun _ _ _ h => h) (by rfl) (Below.refl _ _) ?hyc34 ?restc34
              case hyc34 => (intro W hSw; obtain ⟨y1, y2, y3, y4⟩ := HK.out W (below_undrew hSw); go_simp; all_goals (with_reducible rfl))
              (try simp only [Act.put, List.setIfInBounds_toArray, List.set_cons_zero, List.set_cons_succ])
              refine takeT (i := 35) (v := ?vc35) rfl (by kernel_rfl) (by kernel_rfl) (by kernel_rfl) (fun _ _ _ h => h) (by rfl) (Below.refl _ _) ?hyc35 ?restc35
              case hyc35 => (intro W hSw; obtain ⟨y1, y2, y3, y4⟩ := HK.out W (below_undrew hSw); go_simp; all_goals (with_reducible rfl))
              (try simp only [Act.put, List.setIfInBounds_toArray, List.set_cons_zero, List.set_cons_succ])
              refine takeT (i := 36) (v := ?vc36) rfl (by kernel_rfl) (by kernel_rfl) (by kernel_rfl) (fun _ _ _ h => h) (by rfl) (Below.refl _ _) ?hyc36 ?restc36
              case hyc36 => (intro W hSw; obtain ⟨y1, y2, y3, y4⟩ := HK.out W (below_undrew hSw); go_simp; all_goals (with_reducible rfl))
              (try simp only [Act.put, List.setIfInBounds_toArray, List.set_cons_zero, List.set_cons_succ])
              refine wpAnyH_done (by kernel_rfl) ?_ _
              go_wp2_with (first
                | (go_at_call 11; go_must (refine (pl_next_some HPm.out _ HBt.out.drew).mono ?_); rintro e w5 ⟨y, rfl, hpp, hok, hP5, hK5⟩; have HPP := hide hpp.symm; have HOy := hide hok; have HP5 := hide hP5; have HX5 := hide ((HXt.out.keep (Below.refl _ wt).drew).lies hK5 (Nat.lt_irrefl _)); have HX6 := hide (HX5.out.keep (new_below w5 (.cells #[.int .i64 y.k, .int .u64 y.fr, .int .u64 y.tt, .int .u64 y.tm, .int .u64 y.ix, .int .u64 y.lt, .int .u64 y.cm, .int .u64 y.hn, .bool y.rj, .slice y.ea y.en y.ec, .int .u64 y.si, .int .u64 y.st, .slice y.ma y.mn y.mc, .slice y.sa y.sn y.sc] 39))); have HY6 := hide (boxG_new w5 y w5.heap.size 39 rfl); clear hpp hok hP5 hK5)
                | (refine wp_storeN w5 rfl (.tmp 8) (.tmp 93) rfl w5.heap.size rfl y rfl rfl ?_)
                | (refine wp_loadGw _ (by rfl) (.tmp 7) rfl wr.heap.size 0 m rfl HX6.out.c ?_)
                | (refine wp_loadGw _ (by rfl) (.tmp 8) rfl w5.heap.size 0 y rfl (HY6.out.keep (by exact new_below _ _)).c ?_)
                | (go_at_call 13; go_must (refine (same_new w5 m y HPP.out (HOk.out.keep HP5.out.bel) HOy.out _ _ _ _ _ (by omega) (by omega)).mono ?_); rintro e w8 ⟨rfl, hb8⟩; have HPf := hide (HP5.out.keep hb8); clear hb8))
              go_roundw
              case rel => exact ⟨k + 1, by omega, by go_num, HPf.out⟩
              case measure => simp [intOf]; omega
          | false =>
            have hP := HP.out
            rw [due_pass HKl.out HMk.out (cut_no _ _ _ _ (by simp at hA hB hC; omega))] at hP
            have HPm := hide hP
            clear hP
            refine startT (by kernel_rfl) ?_
            refine takeT (i := 0) (v := ?vd0) rfl (by kernel_rfl) (by kernel_rfl) (by kernel_rfl) (fun _ _ _ h => h) (by rfl) (Below.refl _ _) ?hyd0 ?restd0
            case hyd0 => (intro W hSw; obtain ⟨y1, y2, y3, y4⟩ := HK.out W (below_undrew hSw); go_simp; all_goals (with_reducible rfl))
            (try simp only [Act.put, List.setIfInBounds_toArray, List.set_cons_zero, List.set_cons_succ])
            refine takeT (i := 1) (v := ?vd1) rfl (by kernel_rfl) (by kernel_rfl) (by kernel_rfl) (fun _ _ _ h => h) (by rfl) (Below.refl _ _) ?hyd1 ?restd1
            case hyd1 => (intro W hSw; obtain ⟨y1, y2, y3, y4⟩ := HK.out W (below_undrew hSw); go_simp; all_goals (with_reducible rfl))
            (try simp only [Act.put, List.setIfInBounds_toArray, List.set_cons_zero, List.set_cons_succ])
            refine takeT (i := 2) (v := ?vd2) rfl (by kernel_rfl) (by kernel_rfl) (by kernel_rfl) (fun _ _ _ h => h) (by rfl) (Below.refl _ _) ?hyd2 ?restd2
            case hyd2 => (intro W hSw; obtain ⟨y1, y2, y3, y4⟩ := HK.out W (below_undrew hSw); go_simp; all_goals (with_reducible rfl))
            (try simp only [Act.put, List.setIfInBounds_toArray, List.set_cons_zero, List.set_cons_succ])
            refine takeT (i := 3) (v := ?vd3) rfl (by kernel_rfl) (by kernel_rfl) (by kernel_rfl) (fun _ _ _ h => h) (by rfl) (Below.refl _ _) ?hyd3 ?restd3
            case hyd3 => (intro W hSw; obtain ⟨y1, y2, y3, y4⟩ := HK.out W (below_undrew hSw); go_simp; all_goals (with_reducible rfl))
            (try simp only [Act.put, List.setIfInBounds_toArray, List.set_cons_zero, List.set_cons_succ])
            refine takeT (i := 4) (v := ?vd4) rfl (by kernel_rfl) (by kernel_rfl) (by kernel_rfl) (fun _ _ _ h => h) (by rfl) (Below.refl _ _) ?hyd4 ?restd4
            case hyd4 => (intro W hSw; obtain ⟨y1, y2, y3, y4⟩ := HK.out W (below_undrew hSw); go_simp; all_goals (with_reducible rfl))
            (try simp only [Act.put, List.setIfInBounds_toArray, List.set_cons_zero, List.set_cons_succ])
            refine takeT (i := 5) (v := ?vd5) rfl (by kernel_rfl) (by kernel_rfl) (by kernel_rfl) (fun _ _ _ h => h) (by rfl) (Below.refl _ _) ?hyd5 ?restd5
            case hyd5 => (intro W hSw; obtain ⟨y1, y2, y3, y4⟩ := HK.out W (below_undrew hSw); go_simp; all_goals (with_reducible rfl))
            (try simp only [Act.put, List.setIfInBounds_toArray, List.set_cons_zero, List.set_cons_succ])
            refine takeT (i := 6) (v := ?vd6) rfl (by kernel_rfl) (by kernel_rfl) (by kernel_rfl) (fun _ _ _ h => h) (by rfl) (Below.refl _ _) ?hyd6 ?restd6
            case hyd6 => (intro W hSw; obtain ⟨y1, y2, y3, y4⟩ := HK.out W (below_undrew hSw); go_simp; all_goals (with_reducible rfl))
            (try simp only [Act.put, List.setIfInBounds_toArray, List.set_cons_zero, List.set_cons_succ])
            refine takeT (i := 7) (v := ?vd7) rfl (by kernel_rfl) (by kernel_rfl) (by kernel_rfl) (fun _ _ _ h => h) (by rfl) (Below.refl _ _) ?hyd7 ?restd7
            case hyd7 => (intro W hSw; obtain ⟨y1, y2, y3, y4⟩ := HK.out W (below_undrew hSw); go_simp; all_goals (with_reducible rfl))
            (try simp only [Act.put, List.setIfInBounds_toArray, List.set_cons_zero, List.set_cons_succ])
            refine takeT (i := 8) (v := ?vd8) rfl (by kernel_rfl) (by kernel_rfl) (by kernel_rfl) (fun _ _ _ h => h) (by rfl) (Below.refl _ _) ?hyd8 ?restd8
            case hyd8 => (intro W hSw; obtain ⟨y1, y2, y3, y4⟩ := HK.out W (below_undrew hSw); go_simp; all_goals (with_reducible rfl))
            (try simp only [Act.put, List.setIfInBounds_toArray, List.set_cons_zero, List.set_cons_succ])
            refine takeT (i := 9) (v := ?vd9) rfl (by kernel_rfl) (by kernel_rfl) (by kernel_rfl) (fun _ _ _ h => h) (by rfl) (Below.refl _ _) ?hyd9 ?restd9
            case hyd9 => (intro W hSw; obtain ⟨y1, y2, y3, y4⟩ := HK.out W (below_undrew hSw); go_simp; all_goals (with_reducible rfl))
            (try simp only [Act.put, List.setIfInBounds_toArray, List.set_cons_zero, List.set_cons_succ])
            refine takeT (i := 10) (v := ?vd10) rfl (by kernel_rfl) (by kernel_rfl) (by kernel_rfl) (fun _ _ _ h => h) (by rfl) (Below.refl _ _) ?hyd10 ?restd10
            case hyd10 => (intro W hSw; obtain ⟨y1, y2, y3, y4⟩ := HK.out W (below_undrew hSw); go_simp; all_goals (with_reducible rfl))
            (try simp only [Act.put, List.setIfInBounds_toArray, List.set_cons_zero, List.set_cons_succ])
            refine takeT (i := 11) (v := ?vd11) rfl (by kernel_rfl) (by kernel_rfl) (by kernel_rfl) (fun _ _ _ h => h) (by rfl) (Below.refl _ _) ?hyd11 ?restd11
            case hyd11 => (intro W hSw; obtain ⟨y1, y2, y3, y4⟩ := HK.out W (below_undrew hSw); go_simp; all_goals (with_reducible rfl))
            (try simp only [Act.put, List.setIfInBounds_toArray, List.set_cons_zero, List.set_cons_succ])
            refine takeT (i := 12) (v := ?vd12) rfl (by kernel_rfl) (by kernel_rfl) (by kernel_rfl) (fun _ _ _ h => h) (by rfl) (Below.refl _ _) ?hyd12 ?restd12
            case hyd12 => (intro W hSw; obtain ⟨y1, y2, y3, y4⟩ := HK.out W (below_undrew hSw); go_simp; all_goals (with_reducible rfl))
            (try simp only [Act.put, List.setIfInBounds_toArray, List.set_cons_zero, List.set_cons_succ])
            refine takeT (i := 13) (v := ?vd13) rfl (by kernel_rfl) (by kernel_rfl) (by kernel_rfl) (fun _ _ _ h => h) (by rfl) (Below.refl _ _) ?hyd13 ?restd13
            case hyd13 => (intro W hSw; obtain ⟨y1, y2, y3, y4⟩ := HK.out W (below_undrew hSw); go_simp; all_goals (with_reducible rfl))
            (try simp only [Act.put, List.setIfInBounds_toArray, List.set_cons_zero, List.set_cons_succ])
            refine takeT (i := 14) (v := ?vd14) rfl (by kernel_rfl) (by kernel_rfl) (by kernel_rfl) (fun _ _ _ h => h) (by rfl) (Below.refl _ _) ?hyd14 ?restd14
            case hyd14 => (intro W hSw; obtain ⟨y1, y2, y3, y4⟩ := HK.out W (below_undrew hSw); go_simp; all_goals (with_reducible rfl))
            (try simp only [Act.put, List.setIfInBounds_toArray, List.set_cons_zero, List.set_cons_succ])
            refine takeT (i := 15) (v := ?vd15) rfl (by kernel_rfl) (by kernel_rfl) (by kernel_rfl) (fun _ _ _ h => h) (by rfl) (Below.refl _ _) ?hyd15 ?restd15
            case hyd15 => (intro W hSw; obtain ⟨y1, y2, y3, y4⟩ := HK.out W (below_undrew hSw); go_simp; all_goals (with_reducible rfl))
            (try simp only [Act.put, List.setIfInBounds_toArray, List.set_cons_zero, List.set_cons_succ])
            refine takeT (i := 16) (v := ?vd16) rfl (by kernel_rfl) (by kernel_rfl) (by kernel_rfl) (fun _ _ _ h => h) (by rfl) (Below.refl _ _) ?hyd16 ?restd16
            case hyd16 => (intro W hSw; obtain ⟨y1, y2, y3, y4⟩ := HK.out W (below_undrew hSw); go_simp; all_goals (with_reducible rfl))
            (try simp only [Act.put, List.setIfInBounds_toArray, List.set_cons_zero, List.set_cons_succ])
            refine takeT (i := 17) (v := ?vd17) rfl (by kernel_rfl) (by kernel_rfl) (by kernel_rfl) (fun _ _ _ h => h) (by rfl) (Below.refl _ _) ?hyd17 ?restd17
            case hyd17 => (intro W hSw; obtain ⟨y1, y2, y3, y4⟩ := HK.out W (below_undrew hSw); go_simp; all_goals (with_reducible rfl))
            (try simp only [Act.put, List.setIfInBounds_toArray, List.set_cons_zero, List.set_cons_succ])
            refine takeT (i := 18) (v := ?vd18) rfl (by kernel_rfl) (by kernel_rfl) (by kernel_rfl) (fun _ _ _ h => h) (by rfl) (Below.refl _ _) ?hyd18 ?restd18
            case hyd18 => (intro W hSw; obtain ⟨y1, y2, y3, y4⟩ := HK.out W (below_undrew hSw); go_simp; all_goals (with_reducible rfl))
            (try simp only [Act.put, List.setIfInBounds_toArray, List.set_cons_zero, List.set_cons_succ])
            refine takeT (i := 19) (v := ?vd19) rfl (by kernel_rfl) (by kernel_rfl) (by kernel_rfl) (fun _ _ _ h => h) (by rfl) (Below.refl _ _) ?hyd19 ?restd19
            case hyd19 => (intro W hSw; obtain ⟨y1, y2, y3, y4⟩ := HK.out W (below_undrew hSw); go_simp; all_goals (with_reducible rfl))
            (try simp only [Act.put, List.setIfInBounds_toArray, List.set_cons_zero, List.set_cons_succ])
            refine takeT (i := 20) (v := ?vd20) rfl (by kernel_rfl) (by kernel_rfl) (by kernel_rfl) (fun _ _ _ h => h) (by rfl) (Below.refl _ _) ?hyd20 ?restd20
            case hyd20 => (intro W hSw; obtain ⟨y1, y2, y3, y4⟩ := HK.out W (below_undrew hSw); go_simp; all_goals (with_reducible rfl))
            (try simp only [Act.put, List.setIfInBounds_toArray, List.set_cons_zero, List.set_cons_succ])
            refine takeT (i := 21) (v := ?vd21) rfl (by kernel_rfl) (by kernel_rfl) (by kernel_rfl) (fun _ _ _ h => h) (by rfl) (Below.refl _ _) ?hyd21 ?restd21
            case hyd21 => (intro W hSw; obtain ⟨y1, y2, y3, y4⟩ := HK.out W (below_undrew hSw); go_simp; all_goals (with_reducible rfl))
            (try simp only [Act.put, List.setIfInBounds_toArray, List.set_cons_zero, List.set_cons_succ])
            refine takeT (i := 22) (v := ?vd22) rfl (by kernel_rfl) (by kernel_rfl) (by kernel_rfl) (fun _ _ _ h => h) (by rfl) (Below.refl _ _) ?hyd22 ?restd22
            case hyd22 => (intro W hSw; obtain ⟨y1, y2, y3, y4⟩ := HK.out W (below_undrew hSw); go_simp; all_goals (with_reducible rfl))
            (try simp only [Act.put, List.setIfInBounds_toArray, List.set_cons_zero, List.set_cons_succ])
            refine takeT (i := 23) (v := ?vd23) rfl (by kernel_rfl) (by kernel_rfl) (by kernel_rfl) (fun _ _ _ h => h) (by rfl) (Below.refl _ _) ?hyd23 ?restd23
            case hyd23 => (intro W hSw; obtain ⟨y1, y2, y3, y4⟩ := HK.out W (below_undrew hSw); go_simp; all_goals (with_reducible rfl))
            (try simp only [Act.put, List.setIfInBounds_toArray, List.set_cons_zero, List.set_cons_succ])
            refine takeT (i := 24) (v := ?vd24) rfl (by kernel_rfl) (by kernel_rfl) (by kernel_rfl) (fun _ _ _ h => h) (by rfl) (Below.refl _ _) ?hyd24 ?restd24
            case hyd24 => (intro W hSw; obtain ⟨y1, y2, y3, y4⟩ := HK.out W (below_undrew hSw); go_simp; all_goals (with_reducible rfl))
            (try simp only [Act.put, List.setIfInBounds_toArray, List.set_cons_zero, List.set_cons_succ])
            refine takeT (i := 25) (v := ?vd25) rfl (by kernel_rfl) (by kernel_rfl) (by kernel_rfl) (fun _ _ _ h => h) (by rfl) (Below.refl _ _) ?hyd25 ?restd25
            case hyd25 => (intro W hSw; obtain ⟨y1, y2, y3, y4⟩ := HK.out W (below_undrew hSw); go_simp; all_goals (with_reducible rfl))
            (try simp only [Act.put, List.setIfInBounds_toArray, List.set_cons_zero, List.set_cons_succ])
            refine takeT (i := 26) (v := ?vd26) rfl (by kernel_rfl) (by kernel_rfl) (by kernel_rfl) (fun _ _ _ h => h) (by rfl) (Below.refl _ _) ?hyd26 ?restd26
            case hyd26 => (intro W hSw; obtain ⟨y1, y2, y3, y4⟩ := HK.out W (below_undrew hSw); go_simp; all_goals (with_reducible rfl))
            (try simp only [Act.put, List.setIfInBounds_toArray, List.set_cons_zero, List.set_cons_succ])
            refine skipT (i := 27) rfl (by kernel_rfl) (by kernel_rfl) (by kernel_rfl) (fun _ _ _ h => h) (by rfl) (Below.refl _ _) ?_
            (try simp only [Act.put, List.setIfInBounds_toArray, List.set_cons_zero, List.set_cons_succ])
            refine skipT (i := 28) rfl (by kernel_rfl) (by kernel_rfl) (by kernel_rfl) (fun _ _ _ h => h) (by rfl) (Below.refl _ _) ?_
            (try simp only [Act.put, List.setIfInBounds_toArray, List.set_cons_zero, List.set_cons_succ])
            refine skipT (i := 29) rfl (by kernel_rfl) (by kernel_rfl) (by kernel_rfl) (fun _ _ _ h => h) (by rfl) (Below.refl _ _) ?_
            (try simp only [Act.put, List.setIfInBounds_toArray, List.set_cons_zero, List.set_cons_succ])
            refine skipT (i := 30) rfl (by kernel_rfl) (by kernel_rfl) (by kernel_rfl) (fun _ _ _ h => h) (by rfl) (Below.refl _ _) ?_
            (try simp only [Act.put, List.setIfInBounds_toArray, List.set_cons_zero, List.set_cons_succ])
            refine skipT (i := 31) rfl (by kernel_rfl) (by kernel_rfl) (by kernel_rfl) (fun _ _ _ h => h) (by rfl) (Below.refl _ _) ?_
            (try simp only [Act.put, List.setIfInBounds_toArray, List.set_cons_zero, List.set_cons_succ])
            refine skipT (i := 32) rfl (by kernel_rfl) (by kernel_rfl) (by kernel_rfl) (fun _ _ _ h => h) (by rfl) (Below.refl _ _) ?_
            (try simp only [Act.put, List.setIfInBounds_toArray, List.set_cons_zero, List.set_cons_succ])
            refine skipT (i := 33) rfl (by kernel_rfl) (by kernel_rfl) (by kernel_rfl) (fun _ _ _ h => h) (by rfl) (Below.refl _ _) ?_
            (try simp only [Act.put, List.setIfInBounds_toArray, List.set_cons_zero, List.set_cons_succ])
            refine takeT (i := 34) (v := ?vd34) rfl (by kernel_rfl) (by kernel_rfl) (by kernel_rfl) (fun _ _ _ h => h) (by rfl) (Below.refl _ _) ?hyd34 ?restd34
            case hyd34 => (intro W hSw; obtain ⟨y1, y2, y3, y4⟩ := HK.out W (below_undrew hSw); go_simp; all_goals (with_reducible rfl))
            (try simp only [Act.put, List.setIfInBounds_toArray, List.set_cons_zero, List.set_cons_succ])
            refine takeT (i := 35) (v := ?vd35) rfl (by kernel_rfl) (by kernel_rfl) (by kernel_rfl) (fun _ _ _ h => h) (by rfl) (Below.refl _ _) ?hyd35 ?restd35
            case hyd35 => (intro W hSw; obtain ⟨y1, y2, y3, y4⟩ := HK.out W (below_undrew hSw); go_simp; all_goals (with_reducible rfl))
            (try simp only [Act.put, List.setIfInBounds_toArray, List.set_cons_zero, List.set_cons_succ])
            refine takeT (i := 36) (v := ?vd36) rfl (by kernel_rfl) (by kernel_rfl) (by kernel_rfl) (fun _ _ _ h => h) (by rfl) (Below.refl _ _) ?hyd36 ?restd36
            case hyd36 => (intro W hSw; obtain ⟨y1, y2, y3, y4⟩ := HK.out W (below_undrew hSw); go_simp; all_goals (with_reducible rfl))
            (try simp only [Act.put, List.setIfInBounds_toArray, List.set_cons_zero, List.set_cons_succ])
            refine wpAnyH_done (by kernel_rfl) ?_ _
            go_wp2_with (first
              | (go_at_call 11; go_must (refine (pl_next_some HPm.out _ HBt.out.drew).mono ?_); rintro e w5 ⟨y, rfl, hpp, hok, hP5, hK5⟩; have HPP := hide hpp.symm; have HOy := hide hok; have HP5 := hide hP5; have HX5 := hide ((HXt.out.keep (Below.refl _ wt).drew).lies hK5 (Nat.lt_irrefl _)); have HX6 := hide (HX5.out.keep (new_below w5 (.cells #[.int .i64 y.k, .int .u64 y.fr, .int .u64 y.tt, .int .u64 y.tm, .int .u64 y.ix, .int .u64 y.lt, .int .u64 y.cm, .int .u64 y.hn, .bool y.rj, .slice y.ea y.en y.ec, .int .u64 y.si, .int .u64 y.st, .slice y.ma y.mn y.mc, .slice y.sa y.sn y.sc] 39))); have HY6 := hide (boxG_new w5 y w5.heap.size 39 rfl); clear hpp hok hP5 hK5)
              | (refine wp_storeN w5 rfl (.tmp 8) (.tmp 93) rfl w5.heap.size rfl y rfl rfl ?_)
              | (refine wp_loadGw _ (by rfl) (.tmp 7) rfl wr.heap.size 0 m rfl HX6.out.c ?_)
              | (refine wp_loadGw _ (by rfl) (.tmp 8) rfl w5.heap.size 0 y rfl (HY6.out.keep (by exact new_below _ _)).c ?_)
              | (go_at_call 13; go_must (refine (same_new w5 m y HPP.out (HOk.out.keep HP5.out.bel) HOy.out _ _ _ _ _ (by omega) (by omega)).mono ?_); rintro e w8 ⟨rfl, hb8⟩; have HPf := hide (HP5.out.keep hb8); clear hb8))
            go_roundw
            case rel => exact ⟨k + 1, by omega, by go_num, HPf.out⟩
            case measure => simp [intOf]; omega
      | false =>
        cases hC : (m.fr == m0.tt) with
        | true =>
          cases hD : (m.tt == m0.fr) with
          | true =>
            have hP := HP.out
            rw [due_cut HKl.out HMk.out (cut_yes _ _ _ _ (.inr ⟨by simpa using hC, by simpa using hD⟩))] at hP
            have HPc := hide hP
            clear hP
            refine startT (by kernel_rfl) ?_
            refine takeT (i := 0) (v := ?ve0) rfl (by kernel_rfl) (by kernel_rfl) (by kernel_rfl) (fun _ _ _ h => h) (by rfl) (Below.refl _ _) ?hye0 ?reste0
            case hye0 => (intro W hSw; obtain ⟨y1, y2, y3, y4⟩ := HK.out W (below_undrew hSw); go_simp; all_goals (with_reducible rfl))
            (try simp only [Act.put, List.setIfInBounds_toArray, List.set_cons_zero, List.set_cons_succ])
            refine takeT (i := 1) (v := ?ve1) rfl (by kernel_rfl) (by kernel_rfl) (by kernel_rfl) (fun _ _ _ h => h) (by rfl) (Below.refl _ _) ?hye1 ?reste1
            case hye1 => (intro W hSw; obtain ⟨y1, y2, y3, y4⟩ := HK.out W (below_undrew hSw); go_simp; all_goals (with_reducible rfl))
            (try simp only [Act.put, List.setIfInBounds_toArray, List.set_cons_zero, List.set_cons_succ])
            refine takeT (i := 2) (v := ?ve2) rfl (by kernel_rfl) (by kernel_rfl) (by kernel_rfl) (fun _ _ _ h => h) (by rfl) (Below.refl _ _) ?hye2 ?reste2
            case hye2 => (intro W hSw; obtain ⟨y1, y2, y3, y4⟩ := HK.out W (below_undrew hSw); go_simp; all_goals (with_reducible rfl))
            (try simp only [Act.put, List.setIfInBounds_toArray, List.set_cons_zero, List.set_cons_succ])
            refine takeT (i := 3) (v := ?ve3) rfl (by kernel_rfl) (by kernel_rfl) (by kernel_rfl) (fun _ _ _ h => h) (by rfl) (Below.refl _ _) ?hye3 ?reste3
            case hye3 => (intro W hSw; obtain ⟨y1, y2, y3, y4⟩ := HK.out W (below_undrew hSw); go_simp; all_goals (with_reducible rfl))
            (try simp only [Act.put, List.setIfInBounds_toArray, List.set_cons_zero, List.set_cons_succ])
            refine takeT (i := 4) (v := ?ve4) rfl (by kernel_rfl) (by kernel_rfl) (by kernel_rfl) (fun _ _ _ h => h) (by rfl) (Below.refl _ _) ?hye4 ?reste4
            case hye4 => (intro W hSw; obtain ⟨y1, y2, y3, y4⟩ := HK.out W (below_undrew hSw); go_simp; all_goals (with_reducible rfl))
            (try simp only [Act.put, List.setIfInBounds_toArray, List.set_cons_zero, List.set_cons_succ])
            refine takeT (i := 5) (v := ?ve5) rfl (by kernel_rfl) (by kernel_rfl) (by kernel_rfl) (fun _ _ _ h => h) (by rfl) (Below.refl _ _) ?hye5 ?reste5
            case hye5 => (intro W hSw; obtain ⟨y1, y2, y3, y4⟩ := HK.out W (below_undrew hSw); go_simp; all_goals (with_reducible rfl))
            (try simp only [Act.put, List.setIfInBounds_toArray, List.set_cons_zero, List.set_cons_succ])
            refine takeT (i := 6) (v := ?ve6) rfl (by kernel_rfl) (by kernel_rfl) (by kernel_rfl) (fun _ _ _ h => h) (by rfl) (Below.refl _ _) ?hye6 ?reste6
            case hye6 => (intro W hSw; obtain ⟨y1, y2, y3, y4⟩ := HK.out W (below_undrew hSw); go_simp; all_goals (with_reducible rfl))
            (try simp only [Act.put, List.setIfInBounds_toArray, List.set_cons_zero, List.set_cons_succ])
            refine takeT (i := 7) (v := ?ve7) rfl (by kernel_rfl) (by kernel_rfl) (by kernel_rfl) (fun _ _ _ h => h) (by rfl) (Below.refl _ _) ?hye7 ?reste7
            case hye7 => (intro W hSw; obtain ⟨y1, y2, y3, y4⟩ := HK.out W (below_undrew hSw); go_simp; all_goals (with_reducible rfl))
            (try simp only [Act.put, List.setIfInBounds_toArray, List.set_cons_zero, List.set_cons_succ])
            refine takeT (i := 8) (v := ?ve8) rfl (by kernel_rfl) (by kernel_rfl) (by kernel_rfl) (fun _ _ _ h => h) (by rfl) (Below.refl _ _) ?hye8 ?reste8
            case hye8 => (intro W hSw; obtain ⟨y1, y2, y3, y4⟩ := HK.out W (below_undrew hSw); go_simp; all_goals (with_reducible rfl))
            (try simp only [Act.put, List.setIfInBounds_toArray, List.set_cons_zero, List.set_cons_succ])
            refine takeT (i := 9) (v := ?ve9) rfl (by kernel_rfl) (by kernel_rfl) (by kernel_rfl) (fun _ _ _ h => h) (by rfl) (Below.refl _ _) ?hye9 ?reste9
            case hye9 => (intro W hSw; obtain ⟨y1, y2, y3, y4⟩ := HK.out W (below_undrew hSw); go_simp; all_goals (with_reducible rfl))
            (try simp only [Act.put, List.setIfInBounds_toArray, List.set_cons_zero, List.set_cons_succ])
            refine skipT (i := 10) rfl (by kernel_rfl) (by kernel_rfl) (by kernel_rfl) (fun _ _ _ h => h) (by rfl) (Below.refl _ _) ?_
            (try simp only [Act.put, List.setIfInBounds_toArray, List.set_cons_zero, List.set_cons_succ])
            refine skipT (i := 11) rfl (by kernel_rfl) (by kernel_rfl) (by kernel_rfl) (fun _ _ _ h => h) (by rfl) (Below.refl _ _) ?_
            (try simp only [Act.put, List.setIfInBounds_toArray, List.set_cons_zero, List.set_cons_succ])
            refine skipT (i := 12) rfl (by kernel_rfl) (by kernel_rfl) (by kernel_rfl) (fun _ _ _ h => h) (by rfl) (Below.refl _ _) ?_
            (try simp only [Act.put, List.setIfInBounds_toArray, List.set_cons_zero, List.set_cons_succ])
            refine skipT (i := 13) rfl (by kernel_rfl) (by kernel_rfl) (by kernel_rfl) (fun _ _ _ h => h) (by rfl) (Below.refl _ _) ?_
            (try simp only [Act.put, List.setIfInBounds_toArray, List.set_cons_zero, List.set_cons_succ])
            refine skipT (i := 14) rfl (by kernel_rfl) (by kernel_rfl) (by kernel_rfl) (fun _ _ _ h => h) (by rfl) (Below.refl _ _) ?_
            (try simp only [Act.put, List.setIfInBounds_toArray, List.set_cons_zero, List.set_cons_succ])
            refine skipT (i := 15) rfl (by kernel_rfl) (by kernel_rfl) (by kernel_rfl) (fun _ _ _ h => h) (by rfl) (Below.refl _ _) ?_
            (try simp only [Act.put, List.setIfInBounds_toArray, List.set_cons_zero, List.set_cons_succ])
            refine skipT (i := 16) rfl (by kernel_rfl) (by kernel_rfl) (by kernel_rfl) (fun _ _ _ h => h) (by rfl) (Below.refl _ _) ?_
            (try simp only [Act.put, List.setIfInBounds_toArray, List.set_cons_zero, List.set_cons_succ])
            refine takeT (i := 17) (v := ?ve17) rfl (by kernel_rfl) (by kernel_rfl) (by kernel_rfl) (fun _ _ _ h => h) (by rfl) (Below.refl _ _) ?hye17 ?reste17
            case hye17 => (intro W hSw; obtain ⟨y1, y2, y3, y4⟩ := HK.out W (below_undrew hSw); go_simp; all_goals (with_reducible rfl))
            (try simp only [Act.put, List.setIfInBounds_toArray, List.set_cons_zero, List.set_cons_succ])
            refine takeT (i := 18) (v := ?ve18) rfl (by kernel_rfl) (by kernel_rfl) (by kernel_rfl) (fun _ _ _ h => h) (by rfl) (Below.refl _ _) ?hye18 ?reste18
            case hye18 => (intro W hSw; obtain ⟨y1, y2, y3, y4⟩ := HK.out W (below_undrew hSw); go_simp; all_goals (with_reducible rfl))
            (try simp only [Act.put, List.setIfInBounds_toArray, List.set_cons_zero, List.set_cons_succ])
            refine takeT (i := 19) (v := ?ve19) rfl (by kernel_rfl) (by kernel_rfl) (by kernel_rfl) (fun _ _ _ h => h) (by rfl) (Below.refl _ _) ?hye19 ?reste19
            case hye19 => (intro W hSw; obtain ⟨y1, y2, y3, y4⟩ := HK.out W (below_undrew hSw); go_simp; all_goals (with_reducible rfl))
            (try simp only [Act.put, List.setIfInBounds_toArray, List.set_cons_zero, List.set_cons_succ])
            refine takeT (i := 20) (v := ?ve20) rfl (by kernel_rfl) (by kernel_rfl) (by kernel_rfl) (fun _ _ _ h => h) (by rfl) (Below.refl _ _) ?hye20 ?reste20
            case hye20 => (intro W hSw; obtain ⟨y1, y2, y3, y4⟩ := HK.out W (below_undrew hSw); go_simp; all_goals (with_reducible rfl))
            (try simp only [Act.put, List.setIfInBounds_toArray, List.set_cons_zero, List.set_cons_succ])
            refine takeT (i := 21) (v := ?ve21) rfl (by kernel_rfl) (by kernel_rfl) (by kernel_rfl) (fun _ _ _ h => h) (by rfl) (Below.refl _ _) ?hye21 ?reste21
            case hye21 => (intro W hSw; obtain ⟨y1, y2, y3, y4⟩ := HK.out W (below_undrew hSw); go_simp; all_goals (with_reducible rfl))
            (try simp only [Act.put, List.setIfInBounds_toArray, List.set_cons_zero, List.set_cons_succ])
            refine takeT (i := 22) (v := ?ve22) rfl (by kernel_rfl) (by kernel_rfl) (by kernel_rfl) (fun _ _ _ h => h) (by rfl) (Below.refl _ _) ?hye22 ?reste22
            case hye22 => (intro W hSw; obtain ⟨y1, y2, y3, y4⟩ := HK.out W (below_undrew hSw); go_simp; all_goals (with_reducible rfl))
            (try simp only [Act.put, List.setIfInBounds_toArray, List.set_cons_zero, List.set_cons_succ])
            refine takeT (i := 23) (v := ?ve23) rfl (by kernel_rfl) (by kernel_rfl) (by kernel_rfl) (fun _ _ _ h => h) (by rfl) (Below.refl _ _) ?hye23 ?reste23
            case hye23 => (intro W hSw; obtain ⟨y1, y2, y3, y4⟩ := HK.out W (below_undrew hSw); go_simp; all_goals (with_reducible rfl))
            (try simp only [Act.put, List.setIfInBounds_toArray, List.set_cons_zero, List.set_cons_succ])
            refine takeT (i := 24) (v := ?ve24) rfl (by kernel_rfl) (by kernel_rfl) (by kernel_rfl) (fun _ _ _ h => h) (by rfl) (Below.refl _ _) ?hye24 ?reste24
            case hye24 => (intro W hSw; obtain ⟨y1, y2, y3, y4⟩ := HK.out W (below_undrew hSw); go_simp; all_goals (with_reducible rfl))
            (try simp only [Act.put, List.setIfInBounds_toArray, List.set_cons_zero, List.set_cons_succ])
            refine takeT (i := 25) (v := ?ve25) rfl (by kernel_rfl) (by kernel_rfl) (by kernel_rfl) (fun _ _ _ h => h) (by rfl) (Below.refl _ _) ?hye25 ?reste25
            case hye25 => (intro W hSw; obtain ⟨y1, y2, y3, y4⟩ := HK.out W (below_undrew hSw); go_simp; all_goals (with_reducible rfl))
            (try simp only [Act.put, List.setIfInBounds_toArray, List.set_cons_zero, List.set_cons_succ])
            refine takeT (i := 26) (v := ?ve26) rfl (by kernel_rfl) (by kernel_rfl) (by kernel_rfl) (fun _ _ _ h => h) (by rfl) (Below.refl _ _) ?hye26 ?reste26
            case hye26 => (intro W hSw; obtain ⟨y1, y2, y3, y4⟩ := HK.out W (below_undrew hSw); go_simp; all_goals (with_reducible rfl))
            (try simp only [Act.put, List.setIfInBounds_toArray, List.set_cons_zero, List.set_cons_succ])
            refine takeT (i := 27) (v := ?ve27) rfl (by kernel_rfl) (by kernel_rfl) (by kernel_rfl) (fun _ _ _ h => h) (by rfl) (Below.refl _ _) ?hye27 ?reste27
            case hye27 => (intro W hSw; obtain ⟨y1, y2, y3, y4⟩ := HK.out W (below_undrew hSw); go_simp; all_goals (with_reducible rfl))
            (try simp only [Act.put, List.setIfInBounds_toArray, List.set_cons_zero, List.set_cons_succ])
            refine takeT (i := 28) (v := ?ve28) rfl (by kernel_rfl) (by kernel_rfl) (by kernel_rfl) (fun _ _ _ h => h) (by rfl) (Below.refl _ _) ?hye28 ?reste28
            case hye28 => (intro W hSw; obtain ⟨y1, y2, y3, y4⟩ := HK.out W (below_undrew hSw); go_simp; all_goals (with_reducible rfl))
            (try simp only [Act.put, List.setIfInBounds_toArray, List.set_cons_zero, List.set_cons_succ])
            refine takeT (i := 29) (v := ?ve29) rfl (by kernel_rfl) (by kernel_rfl) (by kernel_rfl) (fun _ _ _ h => h) (by rfl) (Below.refl _ _) ?hye29 ?reste29
            case hye29 => (intro W hSw; obtain ⟨y1, y2, y3, y4⟩ := HK.out W (below_undrew hSw); go_simp; all_goals (with_reducible rfl))
            (try simp only [Act.put, List.setIfInBounds_toArray, List.set_cons_zero, List.set_cons_succ])
            refine takeT (i := 30) (v := ?ve30) rfl (by kernel_rfl) (by kernel_rfl) (by kernel_rfl) (fun _ _ _ h => h) (by rfl) (Below.refl _ _) ?hye30 ?reste30
            case hye30 => (intro W hSw; obtain ⟨y1, y2, y3, y4⟩ := HK.out W (below_undrew hSw); go_simp; all_goals (with_reducible rfl))
            (try simp only [Act.put, List.setIfInBounds_toArray, List.set_cons_zero, List.set_cons_succ])
            refine takeT (i := 31) (v := ?ve31) rfl (by kernel_rfl) (by kernel_rfl) (by kernel_rfl) (fun _ _ _ h => h) (by rfl) (Below.refl _ _) ?hye31 ?reste31
            case hye31 => (intro W hSw; obtain ⟨y1, y2, y3, y4⟩ := HK.out W (below_undrew hSw); go_simp; all_goals (with_reducible rfl))
            (try simp only [Act.put, List.setIfInBounds_toArray, List.set_cons_zero, List.set_cons_succ])
            refine takeT (i := 32) (v := ?ve32) rfl (by kernel_rfl) (by kernel_rfl) (by kernel_rfl) (fun _ _ _ h => h) (by rfl) (Below.refl _ _) ?hye32 ?reste32
            case hye32 => (intro W hSw; obtain ⟨y1, y2, y3, y4⟩ := HK.out W (below_undrew hSw); go_simp; all_goals (with_reducible rfl))
            (try simp only [Act.put, List.setIfInBounds_toArray, List.set_cons_zero, List.set_cons_succ])
            refine takeT (i := 33) (v := ?ve33) rfl (by kernel_rfl) (by kernel_rfl) (by kernel_rfl) (fun _ _ _ h => h) (by rfl) (Below.refl _ _) ?hye33 ?reste33
            case hye33 => (intro W hSw; obtain ⟨y1, y2, y3, y4⟩ := HK.out W (below_undrew hSw); go_simp; all_goals (with_reducible rfl))
            (try simp only [Act.put, List.setIfInBounds_toArray, List.set_cons_zero, List.set_cons_succ])
            refine takeT (i := 34) (v := ?ve34) rfl (by kernel_rfl) (by kernel_rfl) (by kernel_rfl) (fun _ _ _ h => h) (by rfl) (Below.refl _ _) ?hye34 ?reste34
            case hye34 => (intro W hSw; obtain ⟨y1, y2, y3, y4⟩ := HK.out W (below_undrew hSw); go_simp; all_goals (with_reducible rfl))
            (try simp only [Act.put, List.setIfInBounds_toArray, List.set_cons_zero, List.set_cons_succ])
            refine takeT (i := 35) (v := ?ve35) rfl (by kernel_rfl) (by kernel_rfl) (by kernel_rfl) (fun _ _ _ h => h) (by rfl) (Below.refl _ _) ?hye35 ?reste35
            case hye35 => (intro W hSw; obtain ⟨y1, y2, y3, y4⟩ := HK.out W (below_undrew hSw); go_simp; all_goals (with_reducible rfl))
            (try simp only [Act.put, List.setIfInBounds_toArray, List.set_cons_zero, List.set_cons_succ])
            refine takeT (i := 36) (v := ?ve36) rfl (by kernel_rfl) (by kernel_rfl) (by kernel_rfl) (fun _ _ _ h => h) (by rfl) (Below.refl _ _) ?hye36 ?reste36
            case hye36 => (intro W hSw; obtain ⟨y1, y2, y3, y4⟩ := HK.out W (below_undrew hSw); go_simp; all_goals (with_reducible rfl))
            (try simp only [Act.put, List.setIfInBounds_toArray, List.set_cons_zero, List.set_cons_succ])
            refine wpAnyH_done (by kernel_rfl) ?_ _
            go_wp2
            go_roundw
            case rel => exact ⟨k + 1, by omega, by go_num, (by have h9 := HPc.out.keep HBt.out.drew; exact h9)⟩
            case measure => simp [intOf]; omega
          | false =>
            have hP := HP.out
            rw [due_pass HKl.out HMk.out (cut_no _ _ _ _ (by simp at hA hC hD; omega))] at hP
            have HPm := hide hP
            clear hP
            refine startT (by kernel_rfl) ?_
            refine takeT (i := 0) (v := ?vf0) rfl (by kernel_rfl) (by kernel_rfl) (by kernel_rfl) (fun _ _ _ h => h) (by rfl) (Below.refl _ _) ?hyf0 ?restf0
            case hyf0 => (intro W hSw; obtain ⟨y1, y2, y3, y4⟩ := HK.out W (below_undrew hSw); go_simp; all_goals (with_reducible rfl))
            (try simp only [Act.put, List.setIfInBounds_toArray, List.set_cons_zero, List.set_cons_succ])
            refine takeT (i := 1) (v := ?vf1) rfl (by kernel_rfl) (by kernel_rfl) (by kernel_rfl) (fun _ _ _ h => h) (by rfl) (Below.refl _ _) ?hyf1 ?restf1
            case hyf1 => (intro W hSw; obtain ⟨y1, y2, y3, y4⟩ := HK.out W (below_undrew hSw); go_simp; all_goals (with_reducible rfl))
            (try simp only [Act.put, List.setIfInBounds_toArray, List.set_cons_zero, List.set_cons_succ])
            refine takeT (i := 2) (v := ?vf2) rfl (by kernel_rfl) (by kernel_rfl) (by kernel_rfl) (fun _ _ _ h => h) (by rfl) (Below.refl _ _) ?hyf2 ?restf2
            case hyf2 => (intro W hSw; obtain ⟨y1, y2, y3, y4⟩ := HK.out W (below_undrew hSw); go_simp; all_goals (with_reducible rfl))
            (try simp only [Act.put, List.setIfInBounds_toArray, List.set_cons_zero, List.set_cons_succ])
            refine takeT (i := 3) (v := ?vf3) rfl (by kernel_rfl) (by kernel_rfl) (by kernel_rfl) (fun _ _ _ h => h) (by rfl) (Below.refl _ _) ?hyf3 ?restf3
            case hyf3 => (intro W hSw; obtain ⟨y1, y2, y3, y4⟩ := HK.out W (below_undrew hSw); go_simp; all_goals (with_reducible rfl))
            (try simp only [Act.put, List.setIfInBounds_toArray, List.set_cons_zero, List.set_cons_succ])
            refine takeT (i := 4) (v := ?vf4) rfl (by kernel_rfl) (by kernel_rfl) (by kernel_rfl) (fun _ _ _ h => h) (by rfl) (Below.refl _ _) ?hyf4 ?restf4
            case hyf4 => (intro W hSw; obtain ⟨y1, y2, y3, y4⟩ := HK.out W (below_undrew hSw); go_simp; all_goals (with_reducible rfl))
            (try simp only [Act.put, List.setIfInBounds_toArray, List.set_cons_zero, List.set_cons_succ])
            refine takeT (i := 5) (v := ?vf5) rfl (by kernel_rfl) (by kernel_rfl) (by kernel_rfl) (fun _ _ _ h => h) (by rfl) (Below.refl _ _) ?hyf5 ?restf5
            case hyf5 => (intro W hSw; obtain ⟨y1, y2, y3, y4⟩ := HK.out W (below_undrew hSw); go_simp; all_goals (with_reducible rfl))
            (try simp only [Act.put, List.setIfInBounds_toArray, List.set_cons_zero, List.set_cons_succ])
            refine takeT (i := 6) (v := ?vf6) rfl (by kernel_rfl) (by kernel_rfl) (by kernel_rfl) (fun _ _ _ h => h) (by rfl) (Below.refl _ _) ?hyf6 ?restf6
            case hyf6 => (intro W hSw; obtain ⟨y1, y2, y3, y4⟩ := HK.out W (below_undrew hSw); go_simp; all_goals (with_reducible rfl))
            (try simp only [Act.put, List.setIfInBounds_toArray, List.set_cons_zero, List.set_cons_succ])
            refine takeT (i := 7) (v := ?vf7) rfl (by kernel_rfl) (by kernel_rfl) (by kernel_rfl) (fun _ _ _ h => h) (by rfl) (Below.refl _ _) ?hyf7 ?restf7
            case hyf7 => (intro W hSw; obtain ⟨y1, y2, y3, y4⟩ := HK.out W (below_undrew hSw); go_simp; all_goals (with_reducible rfl))
            (try simp only [Act.put, List.setIfInBounds_toArray, List.set_cons_zero, List.set_cons_succ])
            refine takeT (i := 8) (v := ?vf8) rfl (by kernel_rfl) (by kernel_rfl) (by kernel_rfl) (fun _ _ _ h => h) (by rfl) (Below.refl _ _) ?hyf8 ?restf8
            case hyf8 => (intro W hSw; obtain ⟨y1, y2, y3, y4⟩ := HK.out W (below_undrew hSw); go_simp; all_goals (with_reducible rfl))
            (try simp only [Act.put, List.setIfInBounds_toArray, List.set_cons_zero, List.set_cons_succ])
            refine takeT (i := 9) (v := ?vf9) rfl (by kernel_rfl) (by kernel_rfl) (by kernel_rfl) (fun _ _ _ h => h) (by rfl) (Below.refl _ _) ?hyf9 ?restf9
            case hyf9 => (intro W hSw; obtain ⟨y1, y2, y3, y4⟩ := HK.out W (below_undrew hSw); go_simp; all_goals (with_reducible rfl))
            (try simp only [Act.put, List.setIfInBounds_toArray, List.set_cons_zero, List.set_cons_succ])
            refine skipT (i := 10) rfl (by kernel_rfl) (by kernel_rfl) (by kernel_rfl) (fun _ _ _ h => h) (by rfl) (Below.refl _ _) ?_
            (try simp only [Act.put, List.setIfInBounds_toArray, List.set_cons_zero, List.set_cons_succ])
            refine skipT (i := 11) rfl (by kernel_rfl) (by kernel_rfl) (by kernel_rfl) (fun _ _ _ h => h) (by rfl) (Below.refl _ _) ?_
            (try simp only [Act.put, List.setIfInBounds_toArray, List.set_cons_zero, List.set_cons_succ])
            refine skipT (i := 12) rfl (by kernel_rfl) (by kernel_rfl) (by kernel_rfl) (fun _ _ _ h => h) (by rfl) (Below.refl _ _) ?_
            (try simp only [Act.put, List.setIfInBounds_toArray, List.set_cons_zero, List.set_cons_succ])
            refine skipT (i := 13) rfl (by kernel_rfl) (by kernel_rfl) (by kernel_rfl) (fun _ _ _ h => h) (by rfl) (Below.refl _ _) ?_
            (try simp only [Act.put, List.setIfInBounds_toArray, List.set_cons_zero, List.set_cons_succ])
            refine skipT (i := 14) rfl (by kernel_rfl) (by kernel_rfl) (by kernel_rfl) (fun _ _ _ h => h) (by rfl) (Below.refl _ _) ?_
            (try simp only [Act.put, List.setIfInBounds_toArray, List.set_cons_zero, List.set_cons_succ])
            refine skipT (i := 15) rfl (by kernel_rfl) (by kernel_rfl) (by kernel_rfl) (fun _ _ _ h => h) (by rfl) (Below.refl _ _) ?_
            (try simp only [Act.put, List.setIfInBounds_toArray, List.set_cons_zero, List.set_cons_succ])
            refine skipT (i := 16) rfl (by kernel_rfl) (by kernel_rfl) (by kernel_rfl) (fun _ _ _ h => h) (by rfl) (Below.refl _ _) ?_
            (try simp only [Act.put, List.setIfInBounds_toArray, List.set_cons_zero, List.set_cons_succ])
            refine takeT (i := 17) (v := ?vf17) rfl (by kernel_rfl) (by kernel_rfl) (by kernel_rfl) (fun _ _ _ h => h) (by rfl) (Below.refl _ _) ?hyf17 ?restf17
            case hyf17 => (intro W hSw; obtain ⟨y1, y2, y3, y4⟩ := HK.out W (below_undrew hSw); go_simp; all_goals (with_reducible rfl))
            (try simp only [Act.put, List.setIfInBounds_toArray, List.set_cons_zero, List.set_cons_succ])
            refine takeT (i := 18) (v := ?vf18) rfl (by kernel_rfl) (by kernel_rfl) (by kernel_rfl) (fun _ _ _ h => h) (by rfl) (Below.refl _ _) ?hyf18 ?restf18
            case hyf18 => (intro W hSw; obtain ⟨y1, y2, y3, y4⟩ := HK.out W (below_undrew hSw); go_simp; all_goals (with_reducible rfl))
            (try simp only [Act.put, List.setIfInBounds_toArray, List.set_cons_zero, List.set_cons_succ])
            refine takeT (i := 19) (v := ?vf19) rfl (by kernel_rfl) (by kernel_rfl) (by kernel_rfl) (fun _ _ _ h => h) (by rfl) (Below.refl _ _) ?hyf19 ?restf19
            case hyf19 => (intro W hSw; obtain ⟨y1, y2, y3, y4⟩ := HK.out W (below_undrew hSw); go_simp; all_goals (with_reducible rfl))
            (try simp only [Act.put, List.setIfInBounds_toArray, List.set_cons_zero, List.set_cons_succ])
            refine takeT (i := 20) (v := ?vf20) rfl (by kernel_rfl) (by kernel_rfl) (by kernel_rfl) (fun _ _ _ h => h) (by rfl) (Below.refl _ _) ?hyf20 ?restf20
            case hyf20 => (intro W hSw; obtain ⟨y1, y2, y3, y4⟩ := HK.out W (below_undrew hSw); go_simp; all_goals (with_reducible rfl))
            (try simp only [Act.put, List.setIfInBounds_toArray, List.set_cons_zero, List.set_cons_succ])
            refine takeT (i := 21) (v := ?vf21) rfl (by kernel_rfl) (by kernel_rfl) (by kernel_rfl) (fun _ _ _ h => h) (by rfl) (Below.refl _ _) ?hyf21 ?restf21
            case hyf21 => (intro W hSw; obtain ⟨y1, y2, y3, y4⟩ := HK.out W (below_undrew hSw); go_simp; all_goals (with_reducible rfl))
            (try simp only [Act.put, List.setIfInBounds_toArray, List.set_cons_zero, List.set_cons_succ])
            refine takeT (i := 22) (v := ?vf22) rfl (by kernel_rfl) (by kernel_rfl) (by kernel_rfl) (fun _ _ _ h => h) (by rfl) (Below.refl _ _) ?hyf22 ?restf22
            case hyf22 => (intro W hSw; obtain ⟨y1, y2, y3, y4⟩ := HK.out W (below_undrew hSw); go_simp; all_goals (with_reducible rfl))
            (try simp only [Act.put, List.setIfInBounds_toArray, List.set_cons_zero, List.set_cons_succ])
            refine takeT (i := 23) (v := ?vf23) rfl (by kernel_rfl) (by kernel_rfl) (by kernel_rfl) (fun _ _ _ h => h) (by rfl) (Below.refl _ _) ?hyf23 ?restf23
            case hyf23 => (intro W hSw; obtain ⟨y1, y2, y3, y4⟩ := HK.out W (below_undrew hSw); go_simp; all_goals (with_reducible rfl))
            (try simp only [Act.put, List.setIfInBounds_toArray, List.set_cons_zero, List.set_cons_succ])
            refine takeT (i := 24) (v := ?vf24) rfl (by kernel_rfl) (by kernel_rfl) (by kernel_rfl) (fun _ _ _ h => h) (by rfl) (Below.refl _ _) ?hyf24 ?restf24
            case hyf24 => (intro W hSw; obtain ⟨y1, y2, y3, y4⟩ := HK.out W (below_undrew hSw); go_simp; all_goals (with_reducible rfl))
            (try simp only [Act.put, List.setIfInBounds_toArray, List.set_cons_zero, List.set_cons_succ])
            refine takeT (i := 25) (v := ?vf25) rfl (by kernel_rfl) (by kernel_rfl) (by kernel_rfl) (fun _ _ _ h => h) (by rfl) (Below.refl _ _) ?hyf25 ?restf25
            case hyf25 => (intro W hSw; obtain ⟨y1, y2, y3, y4⟩ := HK.out W (below_undrew hSw); go_simp; all_goals (with_reducible rfl))
            (try simp only [Act.put, List.setIfInBounds_toArray, List.set_cons_zero, List.set_cons_succ])
            refine takeT (i := 26) (v := ?vf26) rfl (by kernel_rfl) (by kernel_rfl) (by kernel_rfl) (fun _ _ _ h => h) (by rfl) (Below.refl _ _) ?hyf26 ?restf26
            case hyf26 => (intro W hSw; obtain ⟨y1, y2, y3, y4⟩ := HK.out W (below_undrew hSw); go_simp; all_goals (with_reducible rfl))
            (try simp only [Act.put, List.setIfInBounds_toArray, List.set_cons_zero, List.set_cons_succ])
            refine takeT (i := 27) (v := ?vf27) rfl (by kernel_rfl) (by kernel_rfl) (by kernel_rfl) (fun _ _ _ h => h) (by rfl) (Below.refl _ _) ?hyf27 ?restf27
            case hyf27 => (intro W hSw; obtain ⟨y1, y2, y3, y4⟩ := HK.out W (below_undrew hSw); go_simp; all_goals (with_reducible rfl))
            (try simp only [Act.put, List.setIfInBounds_toArray, List.set_cons_zero, List.set_cons_succ])
            refine takeT (i := 28) (v := ?vf28) rfl (by kernel_rfl) (by kernel_rfl) (by kernel_rfl) (fun _ _ _ h => h) (by rfl) (Below.refl _ _) ?hyf28 ?restf28
            case hyf28 => (intro W hSw; obtain ⟨y1, y2, y3, y4⟩ := HK.out W (below_undrew hSw); go_simp; all_goals (with_reducible rfl))
            (try simp only [Act.put, List.setIfInBounds_toArray, List.set_cons_zero, List.set_cons_succ])
            refine takeT (i := 29) (v := ?vf29) rfl (by kernel_rfl) (by kernel_rfl) (by kernel_rfl) (fun _ _ _ h => h) (by rfl) (Below.refl _ _) ?hyf29 ?restf29
            case hyf29 => (intro W hSw; obtain ⟨y1, y2, y3, y4⟩ := HK.out W (below_undrew hSw); go_simp; all_goals (with_reducible rfl))
            (try simp only [Act.put, List.setIfInBounds_toArray, List.set_cons_zero, List.set_cons_succ])
            refine takeT (i := 30) (v := ?vf30) rfl (by kernel_rfl) (by kernel_rfl) (by kernel_rfl) (fun _ _ _ h => h) (by rfl) (Below.refl _ _) ?hyf30 ?restf30
            case hyf30 => (intro W hSw; obtain ⟨y1, y2, y3, y4⟩ := HK.out W (below_undrew hSw); go_simp; all_goals (with_reducible rfl))
            (try simp only [Act.put, List.setIfInBounds_toArray, List.set_cons_zero, List.set_cons_succ])
            refine takeT (i := 31) (v := ?vf31) rfl (by kernel_rfl) (by kernel_rfl) (by kernel_rfl) (fun _ _ _ h => h) (by rfl) (Below.refl _ _) ?hyf31 ?restf31
            case hyf31 => (intro W hSw; obtain ⟨y1, y2, y3, y4⟩ := HK.out W (below_undrew hSw); go_simp; all_goals (with_reducible rfl))
            (try simp only [Act.put, List.setIfInBounds_toArray, List.set_cons_zero, List.set_cons_succ])
            refine takeT (i := 32) (v := ?vf32) rfl (by kernel_rfl) (by kernel_rfl) (by kernel_rfl) (fun _ _ _ h => h) (by rfl) (Below.refl _ _) ?hyf32 ?restf32
            case hyf32 => (intro W hSw; obtain ⟨y1, y2, y3, y4⟩ := HK.out W (below_undrew hSw); go_simp; all_goals (with_reducible rfl))
            (try simp only [Act.put, List.setIfInBounds_toArray, List.set_cons_zero, List.set_cons_succ])
            refine takeT (i := 33) (v := ?vf33) rfl (by kernel_rfl) (by kernel_rfl) (by kernel_rfl) (fun _ _ _ h => h) (by rfl) (Below.refl _ _) ?hyf33 ?restf33
            case hyf33 => (intro W hSw; obtain ⟨y1, y2, y3, y4⟩ := HK.out W (below_undrew hSw); go_simp; all_goals (with_reducible rfl))
            (try simp only [Act.put, List.setIfInBounds_toArray, List.set_cons_zero, List.set_cons_succ])
            refine takeT (i := 34) (v := ?vf34) rfl (by kernel_rfl) (by kernel_rfl) (by kernel_rfl) (fun _ _ _ h => h) (by rfl) (Below.refl _ _) ?hyf34 ?restf34
            case hyf34 => (intro W hSw; obtain ⟨y1, y2, y3, y4⟩ := HK.out W (below_undrew hSw); go_simp; all_goals (with_reducible rfl))
            (try simp only [Act.put, List.setIfInBounds_toArray, List.set_cons_zero, List.set_cons_succ])
            refine takeT (i := 35) (v := ?vf35) rfl (by kernel_rfl) (by kernel_rfl) (by kernel_rfl) (fun _ _ _ h => h) (by rfl) (Below.refl _ _) ?hyf35 ?restf35
            case hyf35 => (intro W hSw; obtain ⟨y1, y2, y3, y4⟩ := HK.out W (below_undrew hSw); go_simp; all_goals (with_reducible rfl))
            (try simp only [Act.put, List.setIfInBounds_toArray, List.set_cons_zero, List.set_cons_succ])
            refine takeT (i := 36) (v := ?vf36) rfl (by kernel_rfl) (by kernel_rfl) (by kernel_rfl) (fun _ _ _ h => h) (by rfl) (Below.refl _ _) ?hyf36 ?restf36
            case hyf36 => (intro W hSw; obtain ⟨y1, y2, y3, y4⟩ := HK.out W (below_undrew hSw); go_simp; all_goals (with_reducible rfl))
            (try simp only [Act.put, List.setIfInBounds_toArray, List.set_cons_zero, List.set_cons_succ])
            refine wpAnyH_done (by kernel_rfl) ?_ _
            go_wp2_with (first
              | (go_at_call 11; go_must (refine (pl_next_some HPm.out _ HBt.out.drew).mono ?_); rintro e w5 ⟨y, rfl, hpp, hok, hP5, hK5⟩; have HPP := hide hpp.symm; have HOy := hide hok; have HP5 := hide hP5; have HX5 := hide ((HXt.out.keep (Below.refl _ wt).drew).lies hK5 (Nat.lt_irrefl _)); have HX6 := hide (HX5.out.keep (new_below w5 (.cells #[.int .i64 y.k, .int .u64 y.fr, .int .u64 y.tt, .int .u64 y.tm, .int .u64 y.ix, .int .u64 y.lt, .int .u64 y.cm, .int .u64 y.hn, .bool y.rj, .slice y.ea y.en y.ec, .int .u64 y.si, .int .u64 y.st, .slice y.ma y.mn y.mc, .slice y.sa y.sn y.sc] 39))); have HY6 := hide (boxG_new w5 y w5.heap.size 39 rfl); clear hpp hok hP5 hK5)
              | (refine wp_storeN w5 rfl (.tmp 8) (.tmp 93) rfl w5.heap.size rfl y rfl rfl ?_)
              | (refine wp_loadGw _ (by rfl) (.tmp 7) rfl wr.heap.size 0 m rfl HX6.out.c ?_)
              | (refine wp_loadGw _ (by rfl) (.tmp 8) rfl w5.heap.size 0 y rfl (HY6.out.keep (by exact new_below _ _)).c ?_)
              | (go_at_call 13; go_must (refine (same_new w5 m y HPP.out (HOk.out.keep HP5.out.bel) HOy.out _ _ _ _ _ (by omega) (by omega)).mono ?_); rintro e w8 ⟨rfl, hb8⟩; have HPf := hide (HP5.out.keep hb8); clear hb8))
            go_roundw
            case rel => exact ⟨k + 1, by omega, by go_num, HPf.out⟩
            case measure => simp [intOf]; omega
        | false =>
          have hP := HP.out
          rw [due_pass HKl.out HMk.out (cut_no _ _ _ _ (by simp at hA hC; omega))] at hP
          have HPm := hide hP
          clear hP
          refine startT (by kernel_rfl) ?_
          refine takeT (i := 0) (v := ?vg0) rfl (by kernel_rfl) (by kernel_rfl) (by kernel_rfl) (fun _ _ _ h => h) (by rfl) (Below.refl _ _) ?hyg0 ?restg0
          case hyg0 => (intro W hSw; obtain ⟨y1, y2, y3, y4⟩ := HK.out W (below_undrew hSw); go_simp; all_goals (with_reducible rfl))
          (try simp only [Act.put, List.setIfInBounds_toArray, List.set_cons_zero, List.set_cons_succ])
          refine takeT (i := 1) (v := ?vg1) rfl (by kernel_rfl) (by kernel_rfl) (by kernel_rfl) (fun _ _ _ h => h) (by rfl) (Below.refl _ _) ?hyg1 ?restg1
          case hyg1 => (intro W hSw; obtain ⟨y1, y2, y3, y4⟩ := HK.out W (below_undrew hSw); go_simp; all_goals (with_reducible rfl))
          (try simp only [Act.put, List.setIfInBounds_toArray, List.set_cons_zero, List.set_cons_succ])
          refine takeT (i := 2) (v := ?vg2) rfl (by kernel_rfl) (by kernel_rfl) (by kernel_rfl) (fun _ _ _ h => h) (by rfl) (Below.refl _ _) ?hyg2 ?restg2
          case hyg2 => (intro W hSw; obtain ⟨y1, y2, y3, y4⟩ := HK.out W (below_undrew hSw); go_simp; all_goals (with_reducible rfl))
          (try simp only [Act.put, List.setIfInBounds_toArray, List.set_cons_zero, List.set_cons_succ])
          refine takeT (i := 3) (v := ?vg3) rfl (by kernel_rfl) (by kernel_rfl) (by kernel_rfl) (fun _ _ _ h => h) (by rfl) (Below.refl _ _) ?hyg3 ?restg3
          case hyg3 => (intro W hSw; obtain ⟨y1, y2, y3, y4⟩ := HK.out W (below_undrew hSw); go_simp; all_goals (with_reducible rfl))
          (try simp only [Act.put, List.setIfInBounds_toArray, List.set_cons_zero, List.set_cons_succ])
          refine takeT (i := 4) (v := ?vg4) rfl (by kernel_rfl) (by kernel_rfl) (by kernel_rfl) (fun _ _ _ h => h) (by rfl) (Below.refl _ _) ?hyg4 ?restg4
          case hyg4 => (intro W hSw; obtain ⟨y1, y2, y3, y4⟩ := HK.out W (below_undrew hSw); go_simp; all_goals (with_reducible rfl))
          (try simp only [Act.put, List.setIfInBounds_toArray, List.set_cons_zero, List.set_cons_succ])
          refine takeT (i := 5) (v := ?vg5) rfl (by kernel_rfl) (by kernel_rfl) (by kernel_rfl) (fun _ _ _ h => h) (by rfl) (Below.refl _ _) ?hyg5 ?restg5
          case hyg5 => (intro W hSw; obtain ⟨y1, y2, y3, y4⟩ := HK.out W (below_undrew hSw); go_simp; all_goals (with_reducible rfl))
          (try simp only [Act.put, List.setIfInBounds_toArray, List.set_cons_zero, List.set_cons_succ])
          refine takeT (i := 6) (v := ?vg6) rfl (by kernel_rfl) (by kernel_rfl) (by kernel_rfl) (fun _ _ _ h => h) (by rfl) (Below.refl _ _) ?hyg6 ?restg6
          case hyg6 => (intro W hSw; obtain ⟨y1, y2, y3, y4⟩ := HK.out W (below_undrew hSw); go_simp; all_goals (with_reducible rfl))
          (try simp only [Act.put, List.setIfInBounds_toArray, List.set_cons_zero, List.set_cons_succ])
          refine takeT (i := 7) (v := ?vg7) rfl (by kernel_rfl) (by kernel_rfl) (by kernel_rfl) (fun _ _ _ h => h) (by rfl) (Below.refl _ _) ?hyg7 ?restg7
          case hyg7 => (intro W hSw; obtain ⟨y1, y2, y3, y4⟩ := HK.out W (below_undrew hSw); go_simp; all_goals (with_reducible rfl))
          (try simp only [Act.put, List.setIfInBounds_toArray, List.set_cons_zero, List.set_cons_succ])
          refine takeT (i := 8) (v := ?vg8) rfl (by kernel_rfl) (by kernel_rfl) (by kernel_rfl) (fun _ _ _ h => h) (by rfl) (Below.refl _ _) ?hyg8 ?restg8
          case hyg8 => (intro W hSw; obtain ⟨y1, y2, y3, y4⟩ := HK.out W (below_undrew hSw); go_simp; all_goals (with_reducible rfl))
          (try simp only [Act.put, List.setIfInBounds_toArray, List.set_cons_zero, List.set_cons_succ])
          refine takeT (i := 9) (v := ?vg9) rfl (by kernel_rfl) (by kernel_rfl) (by kernel_rfl) (fun _ _ _ h => h) (by rfl) (Below.refl _ _) ?hyg9 ?restg9
          case hyg9 => (intro W hSw; obtain ⟨y1, y2, y3, y4⟩ := HK.out W (below_undrew hSw); go_simp; all_goals (with_reducible rfl))
          (try simp only [Act.put, List.setIfInBounds_toArray, List.set_cons_zero, List.set_cons_succ])
          refine skipT (i := 10) rfl (by kernel_rfl) (by kernel_rfl) (by kernel_rfl) (fun _ _ _ h => h) (by rfl) (Below.refl _ _) ?_
          (try simp only [Act.put, List.setIfInBounds_toArray, List.set_cons_zero, List.set_cons_succ])
          refine skipT (i := 11) rfl (by kernel_rfl) (by kernel_rfl) (by kernel_rfl) (fun _ _ _ h => h) (by rfl) (Below.refl _ _) ?_
          (try simp only [Act.put, List.setIfInBounds_toArray, List.set_cons_zero, List.set_cons_succ])
          refine skipT (i := 12) rfl (by kernel_rfl) (by kernel_rfl) (by kernel_rfl) (fun _ _ _ h => h) (by rfl) (Below.refl _ _) ?_
          (try simp only [Act.put, List.setIfInBounds_toArray, List.set_cons_zero, List.set_cons_succ])
          refine skipT (i := 13) rfl (by kernel_rfl) (by kernel_rfl) (by kernel_rfl) (fun _ _ _ h => h) (by rfl) (Below.refl _ _) ?_
          (try simp only [Act.put, List.setIfInBounds_toArray, List.set_cons_zero, List.set_cons_succ])
          refine skipT (i := 14) rfl (by kernel_rfl) (by kernel_rfl) (by kernel_rfl) (fun _ _ _ h => h) (by rfl) (Below.refl _ _) ?_
          (try simp only [Act.put, List.setIfInBounds_toArray, List.set_cons_zero, List.set_cons_succ])
          refine skipT (i := 15) rfl (by kernel_rfl) (by kernel_rfl) (by kernel_rfl) (fun _ _ _ h => h) (by rfl) (Below.refl _ _) ?_
          (try simp only [Act.put, List.setIfInBounds_toArray, List.set_cons_zero, List.set_cons_succ])
          refine skipT (i := 16) rfl (by kernel_rfl) (by kernel_rfl) (by kernel_rfl) (fun _ _ _ h => h) (by rfl) (Below.refl _ _) ?_
          (try simp only [Act.put, List.setIfInBounds_toArray, List.set_cons_zero, List.set_cons_succ])
          refine takeT (i := 17) (v := ?vg17) rfl (by kernel_rfl) (by kernel_rfl) (by kernel_rfl) (fun _ _ _ h => h) (by rfl) (Below.refl _ _) ?hyg17 ?restg17
          case hyg17 => (intro W hSw; obtain ⟨y1, y2, y3, y4⟩ := HK.out W (below_undrew hSw); go_simp; all_goals (with_reducible rfl))
          (try simp only [Act.put, List.setIfInBounds_toArray, List.set_cons_zero, List.set_cons_succ])
          refine takeT (i := 18) (v := ?vg18) rfl (by kernel_rfl) (by kernel_rfl) (by kernel_rfl) (fun _ _ _ h => h) (by rfl) (Below.refl _ _) ?hyg18 ?restg18
          case hyg18 => (intro W hSw; obtain ⟨y1, y2, y3, y4⟩ := HK.out W (below_undrew hSw); go_simp; all_goals (with_reducible rfl))
          (try simp only [Act.put, List.setIfInBounds_toArray, List.set_cons_zero, List.set_cons_succ])
          refine takeT (i := 19) (v := ?vg19) rfl (by kernel_rfl) (by kernel_rfl) (by kernel_rfl) (fun _ _ _ h => h) (by rfl) (Below.refl _ _) ?hyg19 ?restg19
          case hyg19 => (intro W hSw; obtain ⟨y1, y2, y3, y4⟩ := HK.out W (below_undrew hSw); go_simp; all_goals (with_reducible rfl))
          (try simp only [Act.put, List.setIfInBounds_toArray, List.set_cons_zero, List.set_cons_succ])
          refine takeT (i := 20) (v := ?vg20) rfl (by kernel_rfl) (by kernel_rfl) (by kernel_rfl) (fun _ _ _ h => h) (by rfl) (Below.refl _ _) ?hyg20 ?restg20
          case hyg20 => (intro W hSw; obtain ⟨y1, y2, y3, y4⟩ := HK.out W (below_undrew hSw); go_simp; all_goals (with_reducible rfl))
          (try simp only [Act.put, List.setIfInBounds_toArray, List.set_cons_zero, List.set_cons_succ])
          refine takeT (i := 21) (v := ?vg21) rfl (by kernel_rfl) (by kernel_rfl) (by kernel_rfl) (fun _ _ _ h => h) (by rfl) (Below.refl _ _) ?hyg21 ?restg21
          case hyg21 => (intro W hSw; obtain ⟨y1, y2, y3, y4⟩ := HK.out W (below_undrew hSw); go_simp; all_goals (with_reducible rfl))
          (try simp only [Act.put, List.setIfInBounds_toArray, List.set_cons_zero, List.set_cons_succ])
          refine takeT (i := 22) (v := ?vg22) rfl (by kernel_rfl) (by kernel_rfl) (by kernel_rfl) (fun _ _ _ h => h) (by rfl) (Below.refl _ _) ?hyg22 ?restg22
          case hyg22 => (intro W hSw; obtain ⟨y1, y2, y3, y4⟩ := HK.out W (below_undrew hSw); go_simp; all_goals (with_reducible rfl))
          (try simp only [Act.put, List.setIfInBounds_toArray, List.set_cons_zero, List.set_cons_succ])
          refine takeT (i := 23) (v := ?vg23) rfl (by kernel_rfl) (by kernel_rfl) (by kernel_rfl) (fun _ _ _ h => h) (by rfl) (Below.refl _ _) ?hyg23 ?restg23
          case hyg23 => (intro W hSw; obtain ⟨y1, y2, y3, y4⟩ := HK.out W (below_undrew hSw); go_simp; all_goals (with_reducible rfl))
          (try simp only [Act.put, List.setIfInBounds_toArray, List.set_cons_zero, List.set_cons_succ])
          refine takeT (i := 24) (v := ?vg24) rfl (by kernel_rfl) (by kernel_rfl) (by kernel_rfl) (fun _ _ _ h => h) (by rfl) (Below.refl _ _) ?hyg24 ?restg24
          case hyg24 => (intro W hSw; obtain ⟨y1, y2, y3, y4⟩ := HK.out W (below_undrew hSw); go_simp; all_goals (with_reducible rfl))
          (try simp only [Act.put, List.setIfInBounds_toArray, List.set_cons_zero, List.set_cons_succ])
          refine takeT (i := 25) (v := ?vg25) rfl (by kernel_rfl) (by kernel_rfl) (by kernel_rfl) (fun _ _ _ h => h) (by rfl) (Below.refl _ _) ?hyg25 ?restg25
          case hyg25 => (intro W hSw; obtain ⟨y1, y2, y3, y4⟩ := HK.out W (below_undrew hSw); go_simp; all_goals (with_reducible rfl))
          (try simp only [Act.put, List.setIfInBounds_toArray, List.set_cons_zero, List.set_cons_succ])
          refine takeT (i := 26) (v := ?vg26) rfl (by kernel_rfl) (by kernel_rfl) (by kernel_rfl) (fun _ _ _ h => h) (by rfl) (Below.refl _ _) ?hyg26 ?restg26
          case hyg26 => (intro W hSw; obtain ⟨y1, y2, y3, y4⟩ := HK.out W (below_undrew hSw); go_simp; all_goals (with_reducible rfl))
          (try simp only [Act.put, List.setIfInBounds_toArray, List.set_cons_zero, List.set_cons_succ])
          refine skipT (i := 27) rfl (by kernel_rfl) (by kernel_rfl) (by kernel_rfl) (fun _ _ _ h => h) (by rfl) (Below.refl _ _) ?_
          (try simp only [Act.put, List.setIfInBounds_toArray, List.set_cons_zero, List.set_cons_succ])
          refine skipT (i := 28) rfl (by kernel_rfl) (by kernel_rfl) (by kernel_rfl) (fun _ _ _ h => h) (by rfl) (Below.refl _ _) ?_
          (try simp only [Act.put, List.setIfInBounds_toArray, List.set_cons_zero, List.set_cons_succ])
          refine skipT (i := 29) rfl (by kernel_rfl) (by kernel_rfl) (by kernel_rfl) (fun _ _ _ h => h) (by rfl) (Below.refl _ _) ?_
          (try simp only [Act.put, List.setIfInBounds_toArray, List.set_cons_zero, List.set_cons_succ])
          refine skipT (i := 30) rfl (by kernel_rfl) (by kernel_rfl) (by kernel_rfl) (fun _ _ _ h => h) (by rfl) (Below.refl _ _) ?_
          (try simp only [Act.put, List.setIfInBounds_toArray, List.set_cons_zero, List.set_cons_succ])
          refine skipT (i := 31) rfl (by kernel_rfl) (by kernel_rfl) (by kernel_rfl) (fun _ _ _ h => h) (by rfl) (Below.refl _ _) ?_
          (try simp only [Act.put, List.setIfInBounds_toArray, List.set_cons_zero, List.set_cons_succ])
          refine skipT (i := 32) rfl (by kernel_rfl) (by kernel_rfl) (by kernel_rfl) (fun _ _ _ h => h) (by rfl) (Below.refl _ _) ?_
          (try simp only [Act.put, List.setIfInBounds_toArray, List.set_cons_zero, List.set_cons_succ])
          refine skipT (i := 33) rfl (by kernel_rfl) (by kernel_rfl) (by kernel_rfl) (fun _ _ _ h => h) (by rfl) (Below.refl _ _) ?_
          (try simp only [Act.put, List.setIfInBounds_toArray, List.set_cons_zero, List.set_cons_succ])
          refine takeT (i := 34) (v := ?vg34) rfl (by kernel_rfl) (by kernel_rfl) (by kernel_rfl) (fun _ _ _ h => h) (by rfl) (Below.refl _ _) ?hyg34 ?restg34
          case hyg34 => (intro W hSw; obtain ⟨y1, y2, y3, y4⟩ := HK.out W (below_undrew hSw); go_simp; all_goals (with_reducible rfl))
          (try simp only [Act.put, List.setIfInBounds_toArray, List.set_cons_zero, List.set_cons_succ])
          refine takeT (i := 35) (v := ?vg35) rfl (by kernel_rfl) (by kernel_rfl) (by kernel_rfl) (fun _ _ _ h => h) (by rfl) (Below.refl _ _) ?hyg35 ?restg35
          case hyg35 => (intro W hSw; obtain ⟨y1, y2, y3, y4⟩ := HK.out W (below_undrew hSw); go_simp; all_goals (with_reducible rfl))
          (try simp only [Act.put, List.setIfInBounds_toArray, List.set_cons_zero, List.set_cons_succ])
          refine takeT (i := 36) (v := ?vg36) rfl (by kernel_rfl) (by kernel_rfl) (by kernel_rfl) (fun _ _ _ h => h) (by rfl) (Below.refl _ _) ?hyg36 ?restg36
          case hyg36 => (intro W hSw; obtain ⟨y1, y2, y3, y4⟩ := HK.out W (below_undrew hSw); go_simp; all_goals (with_reducible rfl))
          (try simp only [Act.put, List.setIfInBounds_toArray, List.set_cons_zero, List.set_cons_succ])
          refine wpAnyH_done (by kernel_rfl) ?_ _
          go_wp2_with (first
            | (go_at_call 11; go_must (refine (pl_next_some HPm.out _ HBt.out.drew).mono ?_); rintro e w5 ⟨y, rfl, hpp, hok, hP5, hK5⟩; have HPP := hide hpp.symm; have HOy := hide hok; have HP5 := hide hP5; have HX5 := hide ((HXt.out.keep (Below.refl _ wt).drew).lies hK5 (Nat.lt_irrefl _)); have HX6 := hide (HX5.out.keep (new_below w5 (.cells #[.int .i64 y.k, .int .u64 y.fr, .int .u64 y.tt, .int .u64 y.tm, .int .u64 y.ix, .int .u64 y.lt, .int .u64 y.cm, .int .u64 y.hn, .bool y.rj, .slice y.ea y.en y.ec, .int .u64 y.si, .int .u64 y.st, .slice y.ma y.mn y.mc, .slice y.sa y.sn y.sc] 39))); have HY6 := hide (boxG_new w5 y w5.heap.size 39 rfl); clear hpp hok hP5 hK5)
            | (refine wp_storeN w5 rfl (.tmp 8) (.tmp 93) rfl w5.heap.size rfl y rfl rfl ?_)
            | (refine wp_loadGw _ (by rfl) (.tmp 7) rfl wr.heap.size 0 m rfl HX6.out.c ?_)
            | (refine wp_loadGw _ (by rfl) (.tmp 8) rfl w5.heap.size 0 y rfl (HY6.out.keep (by exact new_below _ _)).c ?_)
            | (go_at_call 13; go_must (refine (same_new w5 m y HPP.out (HOk.out.keep HP5.out.bel) HOy.out _ _ _ _ _ (by omega) (by omega)).mono ?_); rintro e w8 ⟨rfl, hb8⟩; have HPf := hide (HP5.out.keep hb8); clear hb8))
          go_roundw
          case rel => exact ⟨k + 1, by omega, by go_num, HPf.out⟩
          case measure => simp [intOf]; omega
    · have hkn : k = len0 := by omega
      subst hkn
      have hP := HP.out
      rw [due_end _ x0 k HL.out] at hP
      have HPe := hide hP
      clear hP HP
      go_wp2_with (first
        | (go_at_call 11; go_must (refine (pl_next_none HPe.out).mono ?_); rintro e w5 ⟨rfl, hb5⟩; have HB5 := hide hb5; clear hb5)
        | (refine wp_storeN w5 rfl (.tmp 10) (.tmp 109) rfl w5.heap.size rfl msg0 rfl rfl ?_))
      go_ret
      exact ⟨rfl, HB5.out.alloc HB5.out.size _⟩

end Go.Proofs.Ytodmieehdleohaa
