/- MeshPlain where nobody is cut off -/
import Derived.Test.YtodmieehdleohaaMshA
import Derived.Test.YtodmieehdleohaaMx7
import Derived.Test.YtodmieehdleohaaSmE
import Derived.Test.YtodmieehdleohaaTk
namespace Go.Proofs.Ytodmieehdleohaa
open Go.RowKit NumMath Go.ChangeShapes Go.WideShapes Go.Deep
set_option linter.unusedVariables false
set_option maxRecDepth 100000

set_option maxHeartbeats 8000000 in
theorem mplain_no (a0 : Option Addr) (len0 cap0 : Nat) (x0 : List MMsg) (w : World) (w0 : IsGs w a0 len0 cap0 x0) (hl : len0 ≤ 30) :
    Calls Try.prog 4 #[.slice a0 len0 cap0, .bool false] w fun e w' => e = .returned (.bool true) ∧ Below w.heap.size w w' := by
  have H0 := hide w0
  have HL := hide w0.1.1
  clear w0
  go_enter Try.func4, Try.ntmps4
  go_wp2_with (first
    | (go_at_call 5; go_must (refine (awake10_any _).mono ?_); rintro e wa ⟨rfl, hba⟩; have HA := hide hba; clear hba)
    | (go_at_call 6; go_must (refine (pm_new w _ HA.out).mono ?_); rintro e wn ⟨p, rfl, hM⟩; have HM := hide hM; clear hM)
    | (go_at_call 9; go_must (refine (pm_send HM.out a0 len0 cap0 x0 H0.out (by omega)).mono ?_); rintro e wq ⟨rfl, hP⟩; have HP0 := hide hP; clear hP))
  go_loopw [39] (fun i wr => ∃ (k : Nat), k ≤ len0 ∧ i = .int .i64 k ∧ PL w wr wa.heap.size p (fun _ _ => false) (dueL (fun _ _ => false) x0 k)) (fun i _ => len0 - (intOf i).toNat)
  case atStart => exact ⟨0, Nat.zero_le _, rfl, HP0.out⟩
  case round =>
    obtain ⟨k, hk, rfl, hP⟩ := hrel
    have HP := hide hP
    have HB := hide hP.bel
    clear hP HP0
    by_cases hlt : k < len0
    · obtain ⟨g, off, hga, hg, hC0⟩ := H0.out.1.at hlt
      subst hga
      have hkl : k < x0.length := by rw [HL.out]; exact hlt
      have hmem := msg_mem x0 k hkl
      have hOk := (H0.out.2 _ hmem).1
      have hCw := hC0.same (HB.out.block g hg)
      obtain ⟨m, hm⟩ : ∃ m, x0.getD k msg0 = m := ⟨_, rfl⟩
      rw [hm] at hOk hCw
      have HMk := hide hm
      have HOk := hide hOk
      have HCw := hide hCw
      have HKl := hide hkl
      clear hm hOk hCw hC0 hmem hkl
      have HX1 := hide (boxG_new wr m wr.heap.size 39 rfl)
      have HB1 := hide (new_below wr (.cells #[.int .i64 m.k, .int .u64 m.fr, .int .u64 m.tt, .int .u64 m.tm, .int .u64 m.ix, .int .u64 m.lt, .int .u64 m.cm, .int .u64 m.hn, .bool m.rj, .slice m.ea m.en m.ec, .int .u64 m.si, .int .u64 m.st, .slice m.ma m.mn m.mc, .slice m.sa m.sn m.sc] 39))
      have HBw := hide (HB.out.trans (HB1.out.mono HB.out.size))
      have HEs := hide (HOk.out.es.keep HBw.out)
      obtain ⟨-, -, -, -, -, -, -, -, -, c9, -, -, -, -⟩ := HX1.out.x
      by_cases gM : ¬ SmallM m.en m.es
      · go_wp2_with (first
          | (refine wp_loadG _ rfl (.tmp 41) rfl g (off + k * 14) m rfl HCw.out ?_)
          | (refine wp_storeN wr rfl (.tmp 7) (.tmp 42) rfl wr.heap.size rfl m rfl rfl ?_)
          | (go_at_call 7; go_must (refine (small_no _ m.ea m.en m.ec m.es _ HEs.out gM).mono ?_); rintro e ws ⟨rfl, hbs⟩))
        go_ret
        exact ⟨rfl, HBw.out.trans (hbs.mono HBw.out.size)⟩
      have HSm := hide (Classical.not_not.1 gM)
      clear gM
      by_cases gS : ¬ ((m.mn : Int) ≤ 9 ∧ (m.sn : Int) ≤ 200)
      · go_wp2_with (first
          | (refine wp_loadG _ rfl (.tmp 41) rfl g (off + k * 14) m rfl HCw.out ?_)
          | (refine wp_storeN wr rfl (.tmp 7) (.tmp 42) rfl wr.heap.size rfl m rfl rfl ?_)
          | (go_at_call 7; go_must (refine (small_yes _ m.ea m.en m.ec m.es _ HEs.out HSm.out).mono ?_); rintro e ws ⟨rfl, hbs⟩; have HBs := hide (HB1.out.trans (hbs.mono HB1.out.size)); have HXs := hide (HX1.out.keep hbs); obtain ⟨-, -, -, -, -, -, -, -, -, -, s10, s11, s12, s13⟩ := HXs.out.x; clear hbs)
          | (go_at_call 8; go_must (refine (smallS_no m.si m.st m.ma m.mn m.mc m.sa m.sn m.sc _ gS).mono ?_); rintro e wt ⟨rfl, hbt⟩))
        go_ret
        exact ⟨rfl, HB.out.trans ((HBs.out.trans (hbt.mono HBs.out.size)).mono HB.out.size)⟩
      have gS := Classical.not_not.1 gS
      go_wp2_with (first
          | (refine wp_loadG _ rfl (.tmp 41) rfl g (off + k * 14) m rfl HCw.out ?_)
          | (refine wp_storeN wr rfl (.tmp 7) (.tmp 42) rfl wr.heap.size rfl m rfl rfl ?_)
          | (go_at_call 7; go_must (refine (small_yes _ m.ea m.en m.ec m.es _ HEs.out HSm.out).mono ?_); rintro e ws ⟨rfl, hbs⟩; have HBs := hide (HB1.out.trans (hbs.mono HB1.out.size)); have HXs := hide (HX1.out.keep hbs); obtain ⟨-, -, -, -, -, -, -, -, -, -, s10, s11, s12, s13⟩ := HXs.out.x; clear hbs)
          | (go_at_call 8; go_must (refine (smallS_yes m.si m.st m.ma m.mn m.mc m.sa m.sn m.sc _ gS.1 gS.2).mono ?_); rintro e wt ⟨rfl, hbt⟩; have HBt := hide (HBs.out.trans (hbt.mono HBs.out.size)); have HXt := hide (HXs.out.keep hbt); obtain ⟨-, t1, t2, -⟩ := HXt.out.x; clear hbt))
      have HK := hide (fun W (hW : Below wt.heap.size wt W) => True.intro)
      have hP := HP.out
      rw [due_pass HKl.out HMk.out rfl] at hP
      have HPm := hide hP
      clear hP
      refine startT (by kernel_rfl) ?_
      refine takeT (i := 0) (v := ?vp0) rfl (by kernel_rfl) (by kernel_rfl) (by kernel_rfl) (fun _ _ _ h => h) (by rfl) (Below.refl _ _) ?hyp0 ?restp0
      case hyp0 => (intro W hSw; go_simp; all_goals (with_reducible rfl))
      (try simp only [Act.put, List.setIfInBounds_toArray, List.set_cons_zero, List.set_cons_succ])
      refine takeT (i := 1) (v := ?vp1) rfl (by kernel_rfl) (by kernel_rfl) (by kernel_rfl) (fun _ _ _ h => h) (by rfl) (Below.refl _ _) ?hyp1 ?restp1
      case hyp1 => (intro W hSw; go_simp; all_goals (with_reducible rfl))
      (try simp only [Act.put, List.setIfInBounds_toArray, List.set_cons_zero, List.set_cons_succ])
      refine skipT (i := 2) rfl (by kernel_rfl) (by kernel_rfl) (by kernel_rfl) (fun _ _ _ h => h) (by rfl) (Below.refl _ _) ?_
      (try simp only [Act.put, List.setIfInBounds_toArray, List.set_cons_zero, List.set_cons_succ])
      refine skipT (i := 3) rfl (by kernel_rfl) (by kernel_rfl) (by kernel_rfl) (fun _ _ _ h => h) (by rfl) (Below.refl _ _) ?_
      (try simp only [Act.put, List.setIfInBounds_toArray, List.set_cons_zero, List.set_cons_succ])
      refine skipT (i := 4) rfl (by kernel_rfl) (by kernel_rfl) (by kernel_rfl) (fun _ _ _ h => h) (by rfl) (Below.refl _ _) ?_
      (try simp only [Act.put, List.setIfInBounds_toArray, List.set_cons_zero, List.set_cons_succ])
      refine skipT (i := 5) rfl (by kernel_rfl) (by kernel_rfl) (by kernel_rfl) (fun _ _ _ h => h) (by rfl) (Below.refl _ _) ?_
      (try simp only [Act.put, List.setIfInBounds_toArray, List.set_cons_zero, List.set_cons_succ])
      refine skipT (i := 6) rfl (by kernel_rfl) (by kernel_rfl) (by kernel_rfl) (fun _ _ _ h => h) (by rfl) (Below.refl _ _) ?_
      (try simp only [Act.put, List.setIfInBounds_toArray, List.set_cons_zero, List.set_cons_succ])
      refine skipT (i := 7) rfl (by kernel_rfl) (by kernel_rfl) (by kernel_rfl) (fun _ _ _ h => h) (by rfl) (Below.refl _ _) ?_
      (try simp only [Act.put, List.setIfInBounds_toArray, List.set_cons_zero, List.set_cons_succ])
      refine skipT (i := 8) rfl (by kernel_rfl) (by kernel_rfl) (by kernel_rfl) (fun _ _ _ h => h) (by rfl) (Below.refl _ _) ?_
      (try simp only [Act.put, List.setIfInBounds_toArray, List.set_cons_zero, List.set_cons_succ])
      refine skipT (i := 9) rfl (by kernel_rfl) (by kernel_rfl) (by kernel_rfl) (fun _ _ _ h => h) (by rfl) (Below.refl _ _) ?_
      (try simp only [Act.put, List.setIfInBounds_toArray, List.set_cons_zero, List.set_cons_succ])
      refine skipT (i := 10) rfl (by kernel_rfl) (by kernel_rfl) (by kernel_rfl) (fun _ _ _ h => h) (by rfl) (Below.refl _ _) ?_
      (try simp only [Act.put, List.setIfInBounds_toArray, List.set_cons_zero, List.set_cons_succ])
      refine skipT (i := 11) rfl (by kernel_rfl) (by kernel_rfl) (by kernel_rfl) (fun _ _ _ h => h) (by rfl) (Below.refl _ _) ?_
      (try simp only [Act.put, List.setIfInBounds_toArray, List.set_cons_zero, List.set_cons_succ])
      refine skipT (i := 12) rfl (by kernel_rfl) (by kernel_rfl) (by kernel_rfl) (fun _ _ _ h => h) (by rfl) (Below.refl _ _) ?_
      (try simp only [Act.put, List.setIfInBounds_toArray, List.set_cons_zero, List.set_cons_succ])
      refine skipT (i := 13) rfl (by kernel_rfl) (by kernel_rfl) (by kernel_rfl) (fun _ _ _ h => h) (by rfl) (Below.refl _ _) ?_
      (try simp only [Act.put, List.setIfInBounds_toArray, List.set_cons_zero, List.set_cons_succ])
      refine skipT (i := 14) rfl (by kernel_rfl) (by kernel_rfl) (by kernel_rfl) (fun _ _ _ h => h) (by rfl) (Below.refl _ _) ?_
      (try simp only [Act.put, List.setIfInBounds_toArray, List.set_cons_zero, List.set_cons_succ])
      refine skipT (i := 15) rfl (by kernel_rfl) (by kernel_rfl) (by kernel_rfl) (fun _ _ _ h => h) (by rfl) (Below.refl _ _) ?_
      (try simp only [Act.put, List.setIfInBounds_toArray, List.set_cons_zero, List.set_cons_succ])
      refine skipT (i := 16) rfl (by kernel_rfl) (by kernel_rfl) (by kernel_rfl) (fun _ _ _ h => h) (by rfl) (Below.refl _ _) ?_
      (try simp only [Act.put, List.setIfInBounds_toArray, List.set_cons_zero, List.set_cons_succ])
      refine skipT (i := 17) rfl (by kernel_rfl) (by kernel_rfl) (by kernel_rfl) (fun _ _ _ h => h) (by rfl) (Below.refl _ _) ?_
      (try simp only [Act.put, List.setIfInBounds_toArray, List.set_cons_zero, List.set_cons_succ])
      refine skipT (i := 18) rfl (by kernel_rfl) (by kernel_rfl) (by kernel_rfl) (fun _ _ _ h => h) (by rfl) (Below.refl _ _) ?_
      (try simp only [Act.put, List.setIfInBounds_toArray, List.set_cons_zero, List.set_cons_succ])
      refine skipT (i := 19) rfl (by kernel_rfl) (by kernel_rfl) (by kernel_rfl) (fun _ _ _ h => h) (by rfl) (Below.refl _ _) ?_
      (try simp only [Act.put, List.setIfInBounds_toArray, List.set_cons_zero, List.set_cons_succ])
      refine skipT (i := 20) rfl (by kernel_rfl) (by kernel_rfl) (by kernel_rfl) (fun _ _ _ h => h) (by rfl) (Below.refl _ _) ?_
      (try simp only [Act.put, List.setIfInBounds_toArray, List.set_cons_zero, List.set_cons_succ])
      refine skipT (i := 21) rfl (by kernel_rfl) (by kernel_rfl) (by kernel_rfl) (fun _ _ _ h => h) (by rfl) (Below.refl _ _) ?_
      (try simp only [Act.put, List.setIfInBounds_toArray, List.set_cons_zero, List.set_cons_succ])
      refine skipT (i := 22) rfl (by kernel_rfl) (by kernel_rfl) (by kernel_rfl) (fun _ _ _ h => h) (by rfl) (Below.refl _ _) ?_
      (try simp only [Act.put, List.setIfInBounds_toArray, List.set_cons_zero, List.set_cons_succ])
      refine skipT (i := 23) rfl (by kernel_rfl) (by kernel_rfl) (by kernel_rfl) (fun _ _ _ h => h) (by rfl) (Below.refl _ _) ?_
      (try simp only [Act.put, List.setIfInBounds_toArray, List.set_cons_zero, List.set_cons_succ])
      refine skipT (i := 24) rfl (by kernel_rfl) (by kernel_rfl) (by kernel_rfl) (fun _ _ _ h => h) (by rfl) (Below.refl _ _) ?_
      (try simp only [Act.put, List.setIfInBounds_toArray, List.set_cons_zero, List.set_cons_succ])
      refine skipT (i := 25) rfl (by kernel_rfl) (by kernel_rfl) (by kernel_rfl) (fun _ _ _ h => h) (by rfl) (Below.refl _ _) ?_
      (try simp only [Act.put, List.setIfInBounds_toArray, List.set_cons_zero, List.set_cons_succ])
      refine skipT (i := 26) rfl (by kernel_rfl) (by kernel_rfl) (by kernel_rfl) (fun _ _ _ h => h) (by rfl) (Below.refl _ _) ?_
      (try simp only [Act.put, List.setIfInBounds_toArray, List.set_cons_zero, List.set_cons_succ])
      refine skipT (i := 27) rfl (by kernel_rfl) (by kernel_rfl) (by kernel_rfl) (fun _ _ _ h => h) (by rfl) (Below.refl _ _) ?_
      (try simp only [Act.put, List.setIfInBounds_toArray, List.set_cons_zero, List.set_cons_succ])
      refine skipT (i := 28) rfl (by kernel_rfl) (by kernel_rfl) (by kernel_rfl) (fun _ _ _ h => h) (by rfl) (Below.refl _ _) ?_
      (try simp only [Act.put, List.setIfInBounds_toArray, List.set_cons_zero, List.set_cons_succ])
      refine skipT (i := 29) rfl (by kernel_rfl) (by kernel_rfl) (by kernel_rfl) (fun _ _ _ h => h) (by rfl) (Below.refl _ _) ?_
      (try simp only [Act.put, List.setIfInBounds_toArray, List.set_cons_zero, List.set_cons_succ])
      refine skipT (i := 30) rfl (by kernel_rfl) (by kernel_rfl) (by kernel_rfl) (fun _ _ _ h => h) (by rfl) (Below.refl _ _) ?_
      (try simp only [Act.put, List.setIfInBounds_toArray, List.set_cons_zero, List.set_cons_succ])
      refine skipT (i := 31) rfl (by kernel_rfl) (by kernel_rfl) (by kernel_rfl) (fun _ _ _ h => h) (by rfl) (Below.refl _ _) ?_
      (try simp only [Act.put, List.setIfInBounds_toArray, List.set_cons_zero, List.set_cons_succ])
      refine skipT (i := 32) rfl (by kernel_rfl) (by kernel_rfl) (by kernel_rfl) (fun _ _ _ h => h) (by rfl) (Below.refl _ _) ?_
      (try simp only [Act.put, List.setIfInBounds_toArray, List.set_cons_zero, List.set_cons_succ])
      refine skipT (i := 33) rfl (by kernel_rfl) (by kernel_rfl) (by kernel_rfl) (fun _ _ _ h => h) (by rfl) (Below.refl _ _) ?_
      (try simp only [Act.put, List.setIfInBounds_toArray, List.set_cons_zero, List.set_cons_succ])
      refine skipT (i := 34) rfl (by kernel_rfl) (by kernel_rfl) (by kernel_rfl) (fun _ _ _ h => h) (by rfl) (Below.refl _ _) ?_
      (try simp only [Act.put, List.setIfInBounds_toArray, List.set_cons_zero, List.set_cons_succ])
      refine skipT (i := 35) rfl (by kernel_rfl) (by kernel_rfl) (by kernel_rfl) (fun _ _ _ h => h) (by rfl) (Below.refl _ _) ?_
      (try simp only [Act.put, List.setIfInBounds_toArray, List.set_cons_zero, List.set_cons_succ])
      refine takeT (i := 36) (v := ?vp36) rfl (by kernel_rfl) (by kernel_rfl) (by kernel_rfl) (fun _ _ _ h => h) (by rfl) (Below.refl _ _) ?hyp36 ?restp36
      case hyp36 => (intro W hSw; go_simp; all_goals (with_reducible rfl))
      (try simp only [Act.put, List.setIfInBounds_toArray, List.set_cons_zero, List.set_cons_succ])
      refine wpAnyH_done (by kernel_rfl) ?_ _
      go_wp2_with (first
        | (go_at_call 11; go_must (refine (pl_next_some HPm.out _ HBt.out.drew).mono ?_); rintro e w5 ⟨y, rfl, hpp, hok, hP5, hK5⟩; have HPP := hide hpp.symm; have HOy := hide hok; have HP5 := hide hP5; have HX5 := hide ((HXt.out.keep (Below.refl _ wt).drew).lies hK5 (Nat.lt_irrefl _)); have HX6 := hide (HX5.out.keep (new_below w5 (.cells #[.int .i64 y.k, .int .u64 y.fr, .int .u64 y.tt, .int .u64 y.tm, .int .u64 y.ix, .int .u64 y.lt, .int .u64 y.cm, .int .u64 y.hn, .bool y.rj, .slice y.ea y.en y.ec, .int .u64 y.si, .int .u64 y.st, .slice y.ma y.mn y.mc, .slice y.sa y.sn y.sc] 39))); have HY6 := hide (boxG_new w5 y w5.heap.size 39 rfl); clear hpp hok hP5 hK5)
        | (refine wp_storeN w5 rfl (.tmp 8) (.tmp 93) rfl w5.heap.size rfl y rfl rfl ?_)
        | (refine wp_loadGw _ (by rfl) (.tmp 7) rfl wr.heap.size 0 m rfl HX6.out.c ?_)
        | (refine wp_loadGw _ (by rfl) (.tmp 8) rfl w5.heap.size 0 y rfl (HY6.out.keep (by exact new_below _ _)).c ?_)
        | (go_at_call 13; go_must (refine (same_new w5 m y HPP.out (HOk.out.keep HP5.out.bel) HOy.out _ _ _ _ _ (by omega) (by omega)).mono ?_); rintro e w8 ⟨rfl, hb8⟩; have HPf := hide (HP5.out.keep hb8); clear hb8))
      go_roundw
      case rel => exact ⟨k + 1, by omega, by go_num, HPf.out⟩
      case measure => simp [intOf]; omega
    · have hkn : k = len0 := by omega
      subst hkn
      have hP := HP.out
      rw [due_end _ x0 k HL.out] at hP
      have HPe := hide hP
      clear hP HP
      go_wp2_with (first
        | (go_at_call 11; go_must (refine (pl_next_none HPe.out).mono ?_); rintro e w5 ⟨rfl, hb5⟩; have HB5 := hide hb5; clear hb5)
        | (refine wp_storeN w5 rfl (.tmp 10) (.tmp 109) rfl w5.heap.size rfl msg0 rfl rfl ?_))
      go_ret
      exact ⟨rfl, HB5.out.alloc HB5.out.size _⟩

end Go.Proofs.Ytodmieehdleohaa
