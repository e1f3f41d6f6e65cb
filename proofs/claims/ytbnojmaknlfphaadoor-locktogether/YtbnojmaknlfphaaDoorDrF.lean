/- The laws LockTogether, LockRings. -/
import Derived.Test.YtbnojmaknlfphaaDoorDrE
namespace Go.Proofs.YtbnojmaknlfphaaDoor
open Go.RowKit NumMath Go.ChangeShapes Go.WideShapes Go.Deep
set_option linter.unusedVariables false
set_option maxRecDepth 100000

theorem tog_at {held : List Lck} {ys : List ML} (h : held.Pairwise (fun k i => apartL i k = true ∨ fitsL i.md k.md = true)) (e : ys.map ML.l = held) : ∀ (z q : Nat) (mj mi : ML), ys[z]? = some mj → ys[q]? = some mi → z < q → apartL mi.l mj.l = true ∨ fitsL mi.l.md mj.l.md = true := by
  intro z q mj mi hz hq hlt
  subst e
  rw [List.pairwise_map] at h
  obtain ⟨h1, rfl⟩ := List.getElem?_eq_some_iff.1 hz
  obtain ⟨h2, rfl⟩ := List.getElem?_eq_some_iff.1 hq
  exact List.pairwise_iff_getElem.1 h z q h1 h2 hlt

set_option maxHeartbeats 8000000 in
theorem ltogether_any (a : Option Addr) (n c : Nat) (ds : List MQ) (w : World) (h : IsDeeds14 w a n c ds) (hF : FitW w) :
    Calls Tryd.prog 5 #[.slice a n c] w fun e w' => e = .returned (.bool true) ∧ Below w.heap.size w w' := by
  have HAw := hide (awake14_any w hF)
  have H := hide h
  have HF := hide hF
  have HL := hide h.1.1
  have hm : (n : Int) ≤ 9223372036854775807 := by have := h.1.2.1; have := h.1.2.2.1; unfold maxLen at this; omega
  clear h hF
  go_enter Tryd.func5, Tryd.ntmps5
  go_upto_region 3 with (first
    | (go_at_call 9; go_must (refine HAw.out.mono ?_); rintro e w1 ⟨rfl, hb1⟩; have HB1 := hide hb1; clear hb1))
  have HFw := hide (few14_any a n c ds w1 ⟨H.out.1.keep HB1.out, fun d hd => ⟨(H.out.2 d hd).1.keep HB1.out, (H.out.2 d hd).2⟩⟩)
  cases hsm : (ds.all smallQ && decide (n ≤ 40)) with
  | false =>
    rw [hsm] at HFw
    clear hsm
    go_wp2_with (first
      | (go_at_call 16; go_must (refine HFw.out.mono ?_); rintro e w2 ⟨rfl, hb2⟩; have HB2 := hide hb2; clear hb2))
    go_ret
    exact ⟨rfl, HB1.out.trans (HB2.out.mono HB1.out.size)⟩
  | true =>
    rw [hsm] at HFw
    have HSmall := hide (small_at hsm)
    clear hsm
    go_upto_region 5 with (first
      | (go_at_call 16; go_must (refine HFw.out.mono ?_); rintro e w2 ⟨rfl, hb2⟩; have HB2 := hide hb2; clear hb2))
    have HN2 := hide (HB1.out.trans (HB2.out.mono HB1.out.size))
    have HNw := hide (lnew w2 (HF.out.keep HN2.out))
    have HY2 := hide (H.out.1.keep HN2.out)
    have HG2 := hide (fun d hd => (⟨(H.out.2 d hd).1.keep HN2.out, (H.out.2 d hd).2⟩ : ML.got d.m w2))
    clear HAw HFw H HF
    go_wp2_with (first
      | (go_at_call 17; go_must (refine HNw.out.mono ?_); rintro e w3 ⟨rfl, hT3⟩; have HT3 : Hid (LawT w2 w3 w2.heap.size 0 (stT ds 0)) := hT3; clear hT3))
    go_loopg [17] n (fun gk i wr => ∃ k : Nat, gk = n - k ∧ i = .int .i64 k ∧ k ≤ n ∧ LawT w2 wr w2.heap.size k (stT ds k))
    case atStart => exact ⟨0, rfl, rfl, Nat.zero_le _, HT3.out⟩
    case round =>
      obtain ⟨k, rfl, rfl, hk, hT⟩ := hrel
      have HT := hide hT
      have hB2r := hT.b
      have hsw := hB2r.size
      clear hT
      by_cases hlt : k < n
      · have hlt' : (k : Int) < (n : Int) := by omega
        obtain ⟨d, hdk⟩ := dq_at (ds := ds) (k := k) (by have := HL.out; omega)
        obtain ⟨g, off, rfl, hg, hC⟩ := HY2.out.at hlt
        obtain ⟨d0, d1, d2, d3, d4, d5⟩ := at6_list (hC.same (hB2r.block g hg)) hdk
        have hmem := List.mem_of_getElem? hdk
        have HDk := hide (HG2.out d hmem)
        have HSm := hide (HSmall.out.1 d hmem)
        have HBN := hide (new_below wr (.cells #[.bool d.fr, .int .u64 d.m.l.tx, .int .i64 d.m.l.lv, .int .i64 d.m.l.md, .slice d.m.la d.m.ln d.m.lc, .slice d.m.ha d.m.hn d.m.hc] 39))
        have HSt := hide (stT_more hdk)
        have h40 := HSmall.out.2
        clear hC hdk hB2r hmem
        by_cases hfr : d.fr = true
        · have HFr := hide hfr
          rw [hfr] at d0 HBN
          have HLf := hide (lfree (HT.out.keep HBN.out) d.m.l.tx)
          clear hfr
          go_wp2_with (first
            | (go_at_call 18; go_must (refine HLf.out.mono ?_); rintro e w5 ⟨rfl, hT5⟩; have HT5 : Hid (LawT w2 w5 w2.heap.size (k + 1) (stT ds (k + 1))) := (by show LawT _ _ _ _ _; rw [HSt.out]; unfold runT; rw [if_pos HFr.out]; exact hT5.mono (by omega)); clear hT5)
            | (go_at_call 23; go_must (refine (lheld HT5.out (by have := HSmall.out.2; omega)).mono ?_); rintro e w6 ⟨ya, yn, yc, ys, rfl, hy1, hy2, hy3, hb6⟩; have HYY := hide hy1; have HYl := hide hy1.1; have HYo := hide hy3; have HT6 := hide (HT5.out.keep hb6); have HTog := hide (tog_at HT5.out.inv.tog hy2); clear hy1 hy2 hy3 hb6))
          have hyl := HYl.out
          have hynm : (yn : Int) ≤ 9223372036854775807 := by have := HYY.out.2.1; have := HYY.out.2.2.1; unfold maxLen at this; omega
          obtain ⟨wo, hwo⟩ : ∃ wo, wo = wr := ⟨_, rfl⟩
          subst hwo
          go_loopg [36] yn (fun gk i wq => ∃ q : Nat, gk = yn - q ∧ i = .int .i64 q ∧ q ≤ yn ∧ Below w6.heap.size w6 wq)
          case atStart => exact ⟨0, rfl, rfl, Nat.zero_le _, Below.refl _ _⟩
          case round =>
            obtain ⟨q, rfl, rfl, hq, hBq⟩ := hrel
            have HBq := hide hBq
            by_cases hql : q < yn
            · have hql' : (q : Int) < (yn : Int) := by omega
              obtain ⟨mi, hmi⟩ := ml_at (hs := ys) (k := q) (by omega)
              obtain ⟨b, hcut, hYc⟩ := isY_cut layK HYY.out q (by omega)
              have hcut' : ∀ W, (Instr.sliceAt 35 (.slice ya yn yc) none (some (.int .i64 (q : Int))) none).run Tryd.prog W = .ok (.slice b q yc) W := hcut
              have HMi := hide hmi
              clear hmi hcut hYc hBq
              go_wp2
              obtain ⟨wp, hwp⟩ : ∃ wp, wp = wr := ⟨_, rfl⟩
              subst hwp
              go_loopg [43] q (fun gk i wz => ∃ z : Nat, gk = q - z ∧ i = .int .i64 z ∧ z ≤ q ∧ Below w6.heap.size w6 wz)
              case atStart => exact ⟨0, rfl, rfl, Nat.zero_le _, HBq.out⟩
              case round =>
                obtain ⟨z, rfl, rfl, hz, hBz⟩ := hrel
                have HBz := hide hBz
                by_cases hzl : z < q
                · have hzl' : (z : Int) < (q : Int) := by omega
                  have hzy' : (z : Int) < (yn : Int) := by omega
                  obtain ⟨mj, hmj⟩ := ml_at (hs := ys) (k := z) (by omega)
                  obtain ⟨g6, o6, rfl, hg6, hC6⟩ := HYY.out.at hql
                  have HCi := hide (fun V (hV : Below wr.heap.size wr V) => at5_list (hC6.same ((hV.block g6 (Nat.lt_of_lt_of_le hg6 HBz.out.size)).trans (HBz.out.block g6 hg6))) HMi.out)
                  have HCj := hide (fun V (hV : Below wr.heap.size wr V) => at5_list (hC6.same ((hV.block g6 (Nat.lt_of_lt_of_le hg6 HBz.out.size)).trans (HBz.out.block g6 hg6))) hmj)
                  have HAp := hide (apart_any mi mj wr.drew (((HYo.out mi (List.mem_of_getElem? HMi.out)).keep HBz.out).keep (Below.refl _ wr).drew) (((HYo.out mj (List.mem_of_getElem? hmj)).keep HBz.out).keep (Below.refl _ wr).drew))
                  have HFt := hide (fun W => fits_any mi.l.md mj.l.md W)
                  have hpw := HTog.out z q mj mi hmj HMi.out hzl
                  clear hmj hC6 hBz
                  go_wp2_with fail
                  cases hap : apartL mi.l mj.l with
                  | true =>
                    rw [hap] at HAp
                    clear hpw hap
                    refine startT (by kernel_rfl) ?_
                    refine' takeT (i := 0) (v := _) rfl (by kernel_rfl) (by kernel_rfl) (by kernel_rfl) (fun _ _ _ h => h) (by rfl) (Below.refl _ _) ?_ ?_; rotate_left
                    · (intro V hSV; obtain ⟨i0, i1, i2, i3, i4⟩ := HCi.out V (below_undrew hSV); obtain ⟨j0, j1, j2, j3, j4⟩ := HCj.out V (below_undrew hSV); go_simp; all_goals (with_reducible rfl))
                    (try simp only [Act.put, List.setIfInBounds_toArray, List.set_cons_zero, List.set_cons_succ])
                    refine' takeT (i := 1) (v := _) rfl (by kernel_rfl) (by kernel_rfl) (by kernel_rfl) (fun _ _ _ h => h) (by rfl) (Below.refl _ _) ?_ ?_; rotate_left
                    · (intro V hSV; obtain ⟨i0, i1, i2, i3, i4⟩ := HCi.out V (below_undrew hSV); obtain ⟨j0, j1, j2, j3, j4⟩ := HCj.out V (below_undrew hSV); go_simp; all_goals (with_reducible rfl))
                    (try simp only [Act.put, List.setIfInBounds_toArray, List.set_cons_zero, List.set_cons_succ])
                    refine' takeT (i := 2) (v := _) rfl (by kernel_rfl) (by kernel_rfl) (by kernel_rfl) (fun _ _ _ h => h) (by rfl) (Below.refl _ _) ?_ ?_; rotate_left
                    · (intro V hSV; obtain ⟨i0, i1, i2, i3, i4⟩ := HCi.out V (below_undrew hSV); obtain ⟨j0, j1, j2, j3, j4⟩ := HCj.out V (below_undrew hSV); go_simp; all_goals (with_reducible rfl))
                    (try simp only [Act.put, List.setIfInBounds_toArray, List.set_cons_zero, List.set_cons_succ])
                    refine' takeT (i := 3) (v := _) rfl (by kernel_rfl) (by kernel_rfl) (by kernel_rfl) (fun _ _ _ h => h) (by rfl) (Below.refl _ _) ?_ ?_; rotate_left
                    · (intro V hSV; obtain ⟨i0, i1, i2, i3, i4⟩ := HCi.out V (below_undrew hSV); obtain ⟨j0, j1, j2, j3, j4⟩ := HCj.out V (below_undrew hSV); go_simp; all_goals (with_reducible rfl))
                    (try simp only [Act.put, List.setIfInBounds_toArray, List.set_cons_zero, List.set_cons_succ])
                    refine' takeT (i := 4) (v := _) rfl (by kernel_rfl) (by kernel_rfl) (by kernel_rfl) (fun _ _ _ h => h) (by rfl) (Below.refl _ _) ?_ ?_; rotate_left
                    · (intro V hSV; obtain ⟨i0, i1, i2, i3, i4⟩ := HCi.out V (below_undrew hSV); obtain ⟨j0, j1, j2, j3, j4⟩ := HCj.out V (below_undrew hSV); go_simp; all_goals (with_reducible rfl))
                    (try simp only [Act.put, List.setIfInBounds_toArray, List.set_cons_zero, List.set_cons_succ])
                    refine' takeT (i := 5) (v := _) rfl (by kernel_rfl) (by kernel_rfl) (by kernel_rfl) (fun _ _ _ h => h) (by rfl) (Below.refl _ _) ?_ ?_; rotate_left
                    · (intro V hSV; obtain ⟨i0, i1, i2, i3, i4⟩ := HCi.out V (below_undrew hSV); obtain ⟨j0, j1, j2, j3, j4⟩ := HCj.out V (below_undrew hSV); go_simp; all_goals (with_reducible rfl))
                    (try simp only [Act.put, List.setIfInBounds_toArray, List.set_cons_zero, List.set_cons_succ])
                    refine' takeT (i := 6) (v := _) rfl (by kernel_rfl) (by kernel_rfl) (by kernel_rfl) (fun _ _ _ h => h) (by rfl) (Below.refl _ _) ?_ ?_; rotate_left
                    · (intro V hSV; obtain ⟨i0, i1, i2, i3, i4⟩ := HCi.out V (below_undrew hSV); obtain ⟨j0, j1, j2, j3, j4⟩ := HCj.out V (below_undrew hSV); go_simp; all_goals (with_reducible rfl))
                    (try simp only [Act.put, List.setIfInBounds_toArray, List.set_cons_zero, List.set_cons_succ])
                    refine' takeT (i := 7) (v := _) rfl (by kernel_rfl) (by kernel_rfl) (by kernel_rfl) (fun _ _ _ h => h) (by rfl) (Below.refl _ _) ?_ ?_; rotate_left
                    · (intro V hSV; obtain ⟨i0, i1, i2, i3, i4⟩ := HCi.out V (below_undrew hSV); obtain ⟨j0, j1, j2, j3, j4⟩ := HCj.out V (below_undrew hSV); go_simp; all_goals (with_reducible rfl))
                    (try simp only [Act.put, List.setIfInBounds_toArray, List.set_cons_zero, List.set_cons_succ])
                    refine callT (i := 8) rfl (by kernel_rfl) (fun K hK => ?_)
                    go_simp
                    refine (HAp.out).mono ?_
                    rintro e w8 ⟨rfl, hq8⟩
                    refine hK.out _ _ (hq8) ?_
                    clear hK K
                    (try simp only [Act.put, List.setIfInBounds_toArray, List.set_cons_zero, List.set_cons_succ])
                    refine' takeT (i := 9) (v := _) rfl (by kernel_rfl) (by kernel_rfl) (by kernel_rfl) (fun _ _ _ h => h) (by rfl) (Below.refl _ _) ?_ ?_; rotate_left
                    · (intro V hSV; obtain ⟨i0, i1, i2, i3, i4⟩ := HCi.out V ((below_undrew hq8).trans (hSV.mono (below_undrew hq8).size)); obtain ⟨j0, j1, j2, j3, j4⟩ := HCj.out V ((below_undrew hq8).trans (hSV.mono (below_undrew hq8).size)); go_simp; all_goals (with_reducible rfl))
                    (try simp only [Act.put, List.setIfInBounds_toArray, List.set_cons_zero, List.set_cons_succ])
                    refine' takeT (i := 10) (v := _) rfl (by kernel_rfl) (by kernel_rfl) (by kernel_rfl) (fun _ _ _ h => h) (by rfl) (Below.refl _ _) ?_ ?_; rotate_left
                    · (intro V hSV; obtain ⟨i0, i1, i2, i3, i4⟩ := HCi.out V ((below_undrew hq8).trans (hSV.mono (below_undrew hq8).size)); obtain ⟨j0, j1, j2, j3, j4⟩ := HCj.out V ((below_undrew hq8).trans (hSV.mono (below_undrew hq8).size)); go_simp; all_goals (with_reducible rfl))
                    (try simp only [Act.put, List.setIfInBounds_toArray, List.set_cons_zero, List.set_cons_succ])
                    refine skipT (i := 11) rfl (by kernel_rfl) (by kernel_rfl) (by kernel_rfl) (fun _ _ _ h => h) (by rfl) (Below.refl _ _) ?_
                    (try simp only [Act.put, List.setIfInBounds_toArray, List.set_cons_zero, List.set_cons_succ])
                    refine skipT (i := 12) rfl (by kernel_rfl) (by kernel_rfl) (by kernel_rfl) (fun _ _ _ h => h) (by rfl) (Below.refl _ _) ?_
                    (try simp only [Act.put, List.setIfInBounds_toArray, List.set_cons_zero, List.set_cons_succ])
                    refine skipT (i := 13) rfl (by kernel_rfl) (by kernel_rfl) (by kernel_rfl) (fun _ _ _ h => h) (by rfl) (Below.refl _ _) ?_
                    (try simp only [Act.put, List.setIfInBounds_toArray, List.set_cons_zero, List.set_cons_succ])
                    refine skipT (i := 14) rfl (by kernel_rfl) (by kernel_rfl) (by kernel_rfl) (fun _ _ _ h => h) (by rfl) (Below.refl _ _) ?_
                    (try simp only [Act.put, List.setIfInBounds_toArray, List.set_cons_zero, List.set_cons_succ])
                    refine skipT (i := 15) rfl (by kernel_rfl) (by kernel_rfl) (by kernel_rfl) (fun _ _ _ h => h) (by rfl) (Below.refl _ _) ?_
                    (try simp only [Act.put, List.setIfInBounds_toArray, List.set_cons_zero, List.set_cons_succ])
                    refine skipT (i := 16) rfl (by kernel_rfl) (by kernel_rfl) (by kernel_rfl) (fun _ _ _ h => h) (by rfl) (Below.refl _ _) ?_
                    (try simp only [Act.put, List.setIfInBounds_toArray, List.set_cons_zero, List.set_cons_succ])
                    refine skipT (i := 17) rfl (by kernel_rfl) (by kernel_rfl) (by kernel_rfl) (fun _ _ _ h => h) (by rfl) (Below.refl _ _) ?_
                    (try simp only [Act.put, List.setIfInBounds_toArray, List.set_cons_zero, List.set_cons_succ])
                    refine skipT (i := 18) rfl (by kernel_rfl) (by kernel_rfl) (by kernel_rfl) (fun _ _ _ h => h) (by rfl) (Below.refl _ _) ?_
                    (try simp only [Act.put, List.setIfInBounds_toArray, List.set_cons_zero, List.set_cons_succ])
                    refine skipT (i := 19) rfl (by kernel_rfl) (by kernel_rfl) (by kernel_rfl) (fun _ _ _ h => h) (by rfl) (Below.refl _ _) ?_
                    (try simp only [Act.put, List.setIfInBounds_toArray, List.set_cons_zero, List.set_cons_succ])
                    refine skipT (i := 20) rfl (by kernel_rfl) (by kernel_rfl) (by kernel_rfl) (fun _ _ _ h => h) (by rfl) (Below.refl _ _) ?_
                    (try simp only [Act.put, List.setIfInBounds_toArray, List.set_cons_zero, List.set_cons_succ])
                    refine skipT (i := 21) rfl (by kernel_rfl) (by kernel_rfl) (by kernel_rfl) (fun _ _ _ h => h) (by rfl) (Below.refl _ _) ?_
                    (try simp only [Act.put, List.setIfInBounds_toArray, List.set_cons_zero, List.set_cons_succ])
                    refine skipT (i := 22) rfl (by kernel_rfl) (by kernel_rfl) (by kernel_rfl) (fun _ _ _ h => h) (by rfl) (Below.refl _ _) ?_
                    (try simp only [Act.put, List.setIfInBounds_toArray, List.set_cons_zero, List.set_cons_succ])
                    refine' takeT (i := 23) (v := _) rfl (by kernel_rfl) (by kernel_rfl) (by kernel_rfl) (fun _ _ _ h => h) (by rfl) (Below.refl _ _) ?_ ?_; rotate_left
                    · (intro V hSV; obtain ⟨i0, i1, i2, i3, i4⟩ := HCi.out V ((below_undrew hq8).trans (hSV.mono (below_undrew hq8).size)); obtain ⟨j0, j1, j2, j3, j4⟩ := HCj.out V ((below_undrew hq8).trans (hSV.mono (below_undrew hq8).size)); go_simp; all_goals (with_reducible rfl))
                    (try simp only [Act.put, List.setIfInBounds_toArray, List.set_cons_zero, List.set_cons_succ])
                    refine wpAnyH_done (by kernel_rfl) ?_ _
                    go_wp2
                    go_roundg (q - (z + 1))
                    case measure => omega
                    case rel => exact ⟨z + 1, rfl, by go_num, by omega, HBz.out.trans ((below_undrew hq8).mono HBz.out.size)⟩
                  | false =>
                    rw [hap] at HAp hpw
                    have hft : fitsL mi.l.md mj.l.md = true := by simpa using hpw
                    rw [hft] at HFt
                    clear hpw hap hft
                    refine startT (by kernel_rfl) ?_
                    refine' takeT (i := 0) (v := _) rfl (by kernel_rfl) (by kernel_rfl) (by kernel_rfl) (fun _ _ _ h => h) (by rfl) (Below.refl _ _) ?_ ?_; rotate_left
                    · (intro V hSV; obtain ⟨i0, i1, i2, i3, i4⟩ := HCi.out V (below_undrew hSV); obtain ⟨j0, j1, j2, j3, j4⟩ := HCj.out V (below_undrew hSV); go_simp; all_goals (with_reducible rfl))
                    (try simp only [Act.put, List.setIfInBounds_toArray, List.set_cons_zero, List.set_cons_succ])
                    refine' takeT (i := 1) (v := _) rfl (by kernel_rfl) (by kernel_rfl) (by kernel_rfl) (fun _ _ _ h => h) (by rfl) (Below.refl _ _) ?_ ?_; rotate_left
                    · (intro V hSV; obtain ⟨i0, i1, i2, i3, i4⟩ := HCi.out V (below_undrew hSV); obtain ⟨j0, j1, j2, j3, j4⟩ := HCj.out V (below_undrew hSV); go_simp; all_goals (with_reducible rfl))
                    (try simp only [Act.put, List.setIfInBounds_toArray, List.set_cons_zero, List.set_cons_succ])
                    refine' takeT (i := 2) (v := _) rfl (by kernel_rfl) (by kernel_rfl) (by kernel_rfl) (fun _ _ _ h => h) (by rfl) (Below.refl _ _) ?_ ?_; rotate_left
                    · (intro V hSV; obtain ⟨i0, i1, i2, i3, i4⟩ := HCi.out V (below_undrew hSV); obtain ⟨j0, j1, j2, j3, j4⟩ := HCj.out V (below_undrew hSV); go_simp; all_goals (with_reducible rfl))
                    (try simp only [Act.put, List.setIfInBounds_toArray, List.set_cons_zero, List.set_cons_succ])
                    refine' takeT (i := 3) (v := _) rfl (by kernel_rfl) (by kernel_rfl) (by kernel_rfl) (fun _ _ _ h => h) (by rfl) (Below.refl _ _) ?_ ?_; rotate_left
                    · (intro V hSV; obtain ⟨i0, i1, i2, i3, i4⟩ := HCi.out V (below_undrew hSV); obtain ⟨j0, j1, j2, j3, j4⟩ := HCj.out V (below_undrew hSV); go_simp; all_goals (with_reducible rfl))
                    (try simp only [Act.put, List.setIfInBounds_toArray, List.set_cons_zero, List.set_cons_succ])
                    refine' takeT (i := 4) (v := _) rfl (by kernel_rfl) (by kernel_rfl) (by kernel_rfl) (fun _ _ _ h => h) (by rfl) (Below.refl _ _) ?_ ?_; rotate_left
                    · (intro V hSV; obtain ⟨i0, i1, i2, i3, i4⟩ := HCi.out V (below_undrew hSV); obtain ⟨j0, j1, j2, j3, j4⟩ := HCj.out V (below_undrew hSV); go_simp; all_goals (with_reducible rfl))
                    (try simp only [Act.put, List.setIfInBounds_toArray, List.set_cons_zero, List.set_cons_succ])
                    refine' takeT (i := 5) (v := _) rfl (by kernel_rfl) (by kernel_rfl) (by kernel_rfl) (fun _ _ _ h => h) (by rfl) (Below.refl _ _) ?_ ?_; rotate_left
                    · (intro V hSV; obtain ⟨i0, i1, i2, i3, i4⟩ := HCi.out V (below_undrew hSV); obtain ⟨j0, j1, j2, j3, j4⟩ := HCj.out V (below_undrew hSV); go_simp; all_goals (with_reducible rfl))
                    (try simp only [Act.put, List.setIfInBounds_toArray, List.set_cons_zero, List.set_cons_succ])
                    refine' takeT (i := 6) (v := _) rfl (by kernel_rfl) (by kernel_rfl) (by kernel_rfl) (fun _ _ _ h => h) (by rfl) (Below.refl _ _) ?_ ?_; rotate_left
                    · (intro V hSV; obtain ⟨i0, i1, i2, i3, i4⟩ := HCi.out V (below_undrew hSV); obtain ⟨j0, j1, j2, j3, j4⟩ := HCj.out V (below_undrew hSV); go_simp; all_goals (with_reducible rfl))
                    (try simp only [Act.put, List.setIfInBounds_toArray, List.set_cons_zero, List.set_cons_succ])
                    refine' takeT (i := 7) (v := _) rfl (by kernel_rfl) (by kernel_rfl) (by kernel_rfl) (fun _ _ _ h => h) (by rfl) (Below.refl _ _) ?_ ?_; rotate_left
                    · (intro V hSV; obtain ⟨i0, i1, i2, i3, i4⟩ := HCi.out V (below_undrew hSV); obtain ⟨j0, j1, j2, j3, j4⟩ := HCj.out V (below_undrew hSV); go_simp; all_goals (with_reducible rfl))
                    (try simp only [Act.put, List.setIfInBounds_toArray, List.set_cons_zero, List.set_cons_succ])
                    refine callT (i := 8) rfl (by kernel_rfl) (fun K hK => ?_)
                    go_simp
                    refine (HAp.out).mono ?_
                    rintro e w8 ⟨rfl, hq8⟩
                    refine hK.out _ _ (hq8) ?_
                    clear hK K
                    (try simp only [Act.put, List.setIfInBounds_toArray, List.set_cons_zero, List.set_cons_succ])
                    refine' takeT (i := 9) (v := _) rfl (by kernel_rfl) (by kernel_rfl) (by kernel_rfl) (fun _ _ _ h => h) (by rfl) (Below.refl _ _) ?_ ?_; rotate_left
                    · (intro V hSV; obtain ⟨i0, i1, i2, i3, i4⟩ := HCi.out V ((below_undrew hq8).trans (hSV.mono (below_undrew hq8).size)); obtain ⟨j0, j1, j2, j3, j4⟩ := HCj.out V ((below_undrew hq8).trans (hSV.mono (below_undrew hq8).size)); go_simp; all_goals (with_reducible rfl))
                    (try simp only [Act.put, List.setIfInBounds_toArray, List.set_cons_zero, List.set_cons_succ])
                    refine' takeT (i := 10) (v := _) rfl (by kernel_rfl) (by kernel_rfl) (by kernel_rfl) (fun _ _ _ h => h) (by rfl) (Below.refl _ _) ?_ ?_; rotate_left
                    · (intro V hSV; obtain ⟨i0, i1, i2, i3, i4⟩ := HCi.out V ((below_undrew hq8).trans (hSV.mono (below_undrew hq8).size)); obtain ⟨j0, j1, j2, j3, j4⟩ := HCj.out V ((below_undrew hq8).trans (hSV.mono (below_undrew hq8).size)); go_simp; all_goals (with_reducible rfl))
                    (try simp only [Act.put, List.setIfInBounds_toArray, List.set_cons_zero, List.set_cons_succ])
                    refine' takeT (i := 11) (v := _) rfl (by kernel_rfl) (by kernel_rfl) (by kernel_rfl) (fun _ _ _ h => h) (by rfl) (Below.refl _ _) ?_ ?_; rotate_left
                    · (intro V hSV; obtain ⟨i0, i1, i2, i3, i4⟩ := HCi.out V ((below_undrew hq8).trans (hSV.mono (below_undrew hq8).size)); obtain ⟨j0, j1, j2, j3, j4⟩ := HCj.out V ((below_undrew hq8).trans (hSV.mono (below_undrew hq8).size)); go_simp; all_goals (with_reducible rfl))
                    (try simp only [Act.put, List.setIfInBounds_toArray, List.set_cons_zero, List.set_cons_succ])
                    refine' takeT (i := 12) (v := _) rfl (by kernel_rfl) (by kernel_rfl) (by kernel_rfl) (fun _ _ _ h => h) (by rfl) (Below.refl _ _) ?_ ?_; rotate_left
                    · (intro V hSV; obtain ⟨i0, i1, i2, i3, i4⟩ := HCi.out V ((below_undrew hq8).trans (hSV.mono (below_undrew hq8).size)); obtain ⟨j0, j1, j2, j3, j4⟩ := HCj.out V ((below_undrew hq8).trans (hSV.mono (below_undrew hq8).size)); go_simp; all_goals (with_reducible rfl))
                    (try simp only [Act.put, List.setIfInBounds_toArray, List.set_cons_zero, List.set_cons_succ])
                    refine' takeT (i := 13) (v := _) rfl (by kernel_rfl) (by kernel_rfl) (by kernel_rfl) (fun _ _ _ h => h) (by rfl) (Below.refl _ _) ?_ ?_; rotate_left
                    · (intro V hSV; obtain ⟨i0, i1, i2, i3, i4⟩ := HCi.out V ((below_undrew hq8).trans (hSV.mono (below_undrew hq8).size)); obtain ⟨j0, j1, j2, j3, j4⟩ := HCj.out V ((below_undrew hq8).trans (hSV.mono (below_undrew hq8).size)); go_simp; all_goals (with_reducible rfl))
                    (try simp only [Act.put, List.setIfInBounds_toArray, List.set_cons_zero, List.set_cons_succ])
                    refine' takeT (i := 14) (v := _) rfl (by kernel_rfl) (by kernel_rfl) (by kernel_rfl) (fun _ _ _ h => h) (by rfl) (Below.refl _ _) ?_ ?_; rotate_left
                    · (intro V hSV; obtain ⟨i0, i1, i2, i3, i4⟩ := HCi.out V ((below_undrew hq8).trans (hSV.mono (below_undrew hq8).size)); obtain ⟨j0, j1, j2, j3, j4⟩ := HCj.out V ((below_undrew hq8).trans (hSV.mono (below_undrew hq8).size)); go_simp; all_goals (with_reducible rfl))
                    (try simp only [Act.put, List.setIfInBounds_toArray, List.set_cons_zero, List.set_cons_succ])
                    refine' takeT (i := 15) (v := _) rfl (by kernel_rfl) (by kernel_rfl) (by kernel_rfl) (fun _ _ _ h => h) (by rfl) (Below.refl _ _) ?_ ?_; rotate_left
                    · (intro V hSV; obtain ⟨i0, i1, i2, i3, i4⟩ := HCi.out V ((below_undrew hq8).trans (hSV.mono (below_undrew hq8).size)); obtain ⟨j0, j1, j2, j3, j4⟩ := HCj.out V ((below_undrew hq8).trans (hSV.mono (below_undrew hq8).size)); go_simp; all_goals (with_reducible rfl))
                    (try simp only [Act.put, List.setIfInBounds_toArray, List.set_cons_zero, List.set_cons_succ])
                    refine' takeT (i := 16) (v := _) rfl (by kernel_rfl) (by kernel_rfl) (by kernel_rfl) (fun _ _ _ h => h) (by rfl) (Below.refl _ _) ?_ ?_; rotate_left
                    · (intro V hSV; obtain ⟨i0, i1, i2, i3, i4⟩ := HCi.out V ((below_undrew hq8).trans (hSV.mono (below_undrew hq8).size)); obtain ⟨j0, j1, j2, j3, j4⟩ := HCj.out V ((below_undrew hq8).trans (hSV.mono (below_undrew hq8).size)); go_simp; all_goals (with_reducible rfl))
                    (try simp only [Act.put, List.setIfInBounds_toArray, List.set_cons_zero, List.set_cons_succ])
                    refine' takeT (i := 17) (v := _) rfl (by kernel_rfl) (by kernel_rfl) (by kernel_rfl) (fun _ _ _ h => h) (by rfl) (Below.refl _ _) ?_ ?_; rotate_left
                    · (intro V hSV; obtain ⟨i0, i1, i2, i3, i4⟩ := HCi.out V ((below_undrew hq8).trans (hSV.mono (below_undrew hq8).size)); obtain ⟨j0, j1, j2, j3, j4⟩ := HCj.out V ((below_undrew hq8).trans (hSV.mono (below_undrew hq8).size)); go_simp; all_goals (with_reducible rfl))
                    (try simp only [Act.put, List.setIfInBounds_toArray, List.set_cons_zero, List.set_cons_succ])
                    refine' takeT (i := 18) (v := _) rfl (by kernel_rfl) (by kernel_rfl) (by kernel_rfl) (fun _ _ _ h => h) (by rfl) (Below.refl _ _) ?_ ?_; rotate_left
                    · (intro V hSV; obtain ⟨i0, i1, i2, i3, i4⟩ := HCi.out V ((below_undrew hq8).trans (hSV.mono (below_undrew hq8).size)); obtain ⟨j0, j1, j2, j3, j4⟩ := HCj.out V ((below_undrew hq8).trans (hSV.mono (below_undrew hq8).size)); go_simp; all_goals (with_reducible rfl))
                    (try simp only [Act.put, List.setIfInBounds_toArray, List.set_cons_zero, List.set_cons_succ])
                    refine' takeT (i := 19) (v := _) rfl (by kernel_rfl) (by kernel_rfl) (by kernel_rfl) (fun _ _ _ h => h) (by rfl) (Below.refl _ _) ?_ ?_; rotate_left
                    · (intro V hSV; obtain ⟨i0, i1, i2, i3, i4⟩ := HCi.out V ((below_undrew hq8).trans (hSV.mono (below_undrew hq8).size)); obtain ⟨j0, j1, j2, j3, j4⟩ := HCj.out V ((below_undrew hq8).trans (hSV.mono (below_undrew hq8).size)); go_simp; all_goals (with_reducible rfl))
                    (try simp only [Act.put, List.setIfInBounds_toArray, List.set_cons_zero, List.set_cons_succ])
                    refine' takeT (i := 20) (v := _) rfl (by kernel_rfl) (by kernel_rfl) (by kernel_rfl) (fun _ _ _ h => h) (by rfl) (Below.refl _ _) ?_ ?_; rotate_left
                    · (intro V hSV; obtain ⟨i0, i1, i2, i3, i4⟩ := HCi.out V ((below_undrew hq8).trans (hSV.mono (below_undrew hq8).size)); obtain ⟨j0, j1, j2, j3, j4⟩ := HCj.out V ((below_undrew hq8).trans (hSV.mono (below_undrew hq8).size)); go_simp; all_goals (with_reducible rfl))
                    (try simp only [Act.put, List.setIfInBounds_toArray, List.set_cons_zero, List.set_cons_succ])
                    refine callT (i := 21) rfl (by kernel_rfl) (fun K hK => ?_)
                    go_simp
                    refine (HFt.out w8).mono ?_
                    rintro e w' ⟨rfl, hw⟩
                    have hw := hw.symm
                    subst hw
                    refine hK.out _ _ (Below.refl _ _) ?_
                    clear hK K
                    (try simp only [Act.put, List.setIfInBounds_toArray, List.set_cons_zero, List.set_cons_succ])
                    refine callT (i := 22) rfl (by kernel_rfl) (fun K hK => ?_)
                    go_simp
                    refine hK.out _ _ (Below.refl _ _) ?_
                    clear hK K
                    (try simp only [Act.put, List.setIfInBounds_toArray, List.set_cons_zero, List.set_cons_succ])
                    refine callT (i := 23) rfl (by kernel_rfl) (fun K hK => ?_)
                    go_simp
                    refine hK.out _ _ (Below.refl _ _) ?_
                    clear hK K
                    (try simp only [Act.put, List.setIfInBounds_toArray, List.set_cons_zero, List.set_cons_succ])
                    refine wpAnyH_done (by kernel_rfl) ?_ _
                    go_wp2
                    go_roundg (q - (z + 1))
                    case measure => omega
                    case rel => exact ⟨z + 1, rfl, by go_num, by omega, HBz.out.trans ((below_undrew hq8).mono HBz.out.size)⟩
                · obtain rfl : z = q := by omega
                  clear hBz
                  go_wp2
                  go_roundg (yn - (z + 1))
                  case measure => omega
                  case rel => exact ⟨z + 1, rfl, by go_num, by omega, HBz.out⟩
            · obtain rfl : q = yn := by omega
              clear hBq
              go_wp2
              go_roundg (n - (k + 1))
              case measure => omega
              case rel => exact ⟨k + 1, rfl, by go_num, by omega, HT6.out.keep HBq.out⟩
        · have HFr := hide hfr
          have hfr' : d.fr = false := by simpa using hfr
          rw [hfr'] at d0 HBN
          have HLa := hide (lask (HT.out.keep HBN.out) d.m HDk.out.1 HDk.out.2 HSm.out.1 HSm.out.2 (by omega))
          clear hfr hfr'
          go_wp2_with (first
            | (go_at_call 20; go_must (refine HLa.out.mono ?_); rintro e w5 ⟨rfl, hT5⟩; have HT5 : Hid (LawT w2 w5 w2.heap.size (k + 1) (stT ds (k + 1))) := (by show LawT _ _ _ _ _; rw [HSt.out]; unfold runT; rw [if_neg HFr.out]; exact hT5); clear hT5)
            | (go_at_call 23; go_must (refine (lheld HT5.out (by have := HSmall.out.2; omega)).mono ?_); rintro e w6 ⟨ya, yn, yc, ys, rfl, hy1, hy2, hy3, hb6⟩; have HYY := hide hy1; have HYl := hide hy1.1; have HYo := hide hy3; have HT6 := hide (HT5.out.keep hb6); have HTog := hide (tog_at HT5.out.inv.tog hy2); clear hy1 hy2 hy3 hb6))
          have hyl := HYl.out
          have hynm : (yn : Int) ≤ 9223372036854775807 := by have := HYY.out.2.1; have := HYY.out.2.2.1; unfold maxLen at this; omega
          obtain ⟨wo, hwo⟩ : ∃ wo, wo = wr := ⟨_, rfl⟩
          subst hwo
          go_loopg [36] yn (fun gk i wq => ∃ q : Nat, gk = yn - q ∧ i = .int .i64 q ∧ q ≤ yn ∧ Below w6.heap.size w6 wq)
          case atStart => exact ⟨0, rfl, rfl, Nat.zero_le _, Below.refl _ _⟩
          case round =>
            obtain ⟨q, rfl, rfl, hq, hBq⟩ := hrel
            have HBq := hide hBq
            by_cases hql : q < yn
            · have hql' : (q : Int) < (yn : Int) := by omega
              obtain ⟨mi, hmi⟩ := ml_at (hs := ys) (k := q) (by omega)
              obtain ⟨b, hcut, hYc⟩ := isY_cut layK HYY.out q (by omega)
              have hcut' : ∀ W, (Instr.sliceAt 35 (.slice ya yn yc) none (some (.int .i64 (q : Int))) none).run Tryd.prog W = .ok (.slice b q yc) W := hcut
              have HMi := hide hmi
              clear hmi hcut hYc hBq
              go_wp2
              obtain ⟨wp, hwp⟩ : ∃ wp, wp = wr := ⟨_, rfl⟩
              subst hwp
              go_loopg [43] q (fun gk i wz => ∃ z : Nat, gk = q - z ∧ i = .int .i64 z ∧ z ≤ q ∧ Below w6.heap.size w6 wz)
              case atStart => exact ⟨0, rfl, rfl, Nat.zero_le _, HBq.out⟩
              case round =>
                obtain ⟨z, rfl, rfl, hz, hBz⟩ := hrel
                have HBz := hide hBz
                by_cases hzl : z < q
                · have hzl' : (z : Int) < (q : Int) := by omega
                  have hzy' : (z : Int) < (yn : Int) := by omega
                  obtain ⟨mj, hmj⟩ := ml_at (hs := ys) (k := z) (by omega)
                  obtain ⟨g6, o6, rfl, hg6, hC6⟩ := HYY.out.at hql
                  have HCi := hide (fun V (hV : Below wr.heap.size wr V) => at5_list (hC6.same ((hV.block g6 (Nat.lt_of_lt_of_le hg6 HBz.out.size)).trans (HBz.out.block g6 hg6))) HMi.out)
                  have HCj := hide (fun V (hV : Below wr.heap.size wr V) => at5_list (hC6.same ((hV.block g6 (Nat.lt_of_lt_of_le hg6 HBz.out.size)).trans (HBz.out.block g6 hg6))) hmj)
                  have HAp := hide (apart_any mi mj wr.drew (((HYo.out mi (List.mem_of_getElem? HMi.out)).keep HBz.out).keep (Below.refl _ wr).drew) (((HYo.out mj (List.mem_of_getElem? hmj)).keep HBz.out).keep (Below.refl _ wr).drew))
                  have HFt := hide (fun W => fits_any mi.l.md mj.l.md W)
                  have hpw := HTog.out z q mj mi hmj HMi.out hzl
                  clear hmj hC6 hBz
                  go_wp2_with fail
                  cases hap : apartL mi.l mj.l with
                  | true =>
                    rw [hap] at HAp
                    clear hpw hap
                    refine startT (by kernel_rfl) ?_
                    refine' takeT (i := 0) (v := _) rfl (by kernel_rfl) (by kernel_rfl) (by kernel_rfl) (fun _ _ _ h => h) (by rfl) (Below.refl _ _) ?_ ?_; rotate_left
                    · (intro V hSV; obtain ⟨i0, i1, i2, i3, i4⟩ := HCi.out V (below_undrew hSV); obtain ⟨j0, j1, j2, j3, j4⟩ := HCj.out V (below_undrew hSV); go_simp; all_goals (with_reducible rfl))
                    (try simp only [Act.put, List.setIfInBounds_toArray, List.set_cons_zero, List.set_cons_succ])
                    refine' takeT (i := 1) (v := _) rfl (by kernel_rfl) (by kernel_rfl) (by kernel_rfl) (fun _ _ _ h => h) (by rfl) (Below.refl _ _) ?_ ?_; rotate_left
                    · (intro V hSV; obtain ⟨i0, i1, i2, i3, i4⟩ := HCi.out V (below_undrew hSV); obtain ⟨j0, j1, j2, j3, j4⟩ := HCj.out V (below_undrew hSV); go_simp; all_goals (with_reducible rfl))
                    (try simp only [Act.put, List.setIfInBounds_toArray, List.set_cons_zero, List.set_cons_succ])
                    refine' takeT (i := 2) (v := _) rfl (by kernel_rfl) (by kernel_rfl) (by kernel_rfl) (fun _ _ _ h => h) (by rfl) (Below.refl _ _) ?_ ?_; rotate_left
                    · (intro V hSV; obtain ⟨i0, i1, i2, i3, i4⟩ := HCi.out V (below_undrew hSV); obtain ⟨j0, j1, j2, j3, j4⟩ := HCj.out V (below_undrew hSV); go_simp; all_goals (with_reducible rfl))
                    (try simp only [Act.put, List.setIfInBounds_toArray, List.set_cons_zero, List.set_cons_succ])
                    refine' takeT (i := 3) (v := _) rfl (by kernel_rfl) (by kernel_rfl) (by kernel_rfl) (fun _ _ _ h => h) (by rfl) (Below.refl _ _) ?_ ?_; rotate_left
                    · (intro V hSV; obtain ⟨i0, i1, i2, i3, i4⟩ := HCi.out V (below_undrew hSV); obtain ⟨j0, j1, j2, j3, j4⟩ := HCj.out V (below_undrew hSV); go_simp; all_goals (with_reducible rfl))
                    (try simp only [Act.put, List.setIfInBounds_toArray, List.set_cons_zero, List.set_cons_succ])
                    refine' takeT (i := 4) (v := _) rfl (by kernel_rfl) (by kernel_rfl) (by kernel_rfl) (fun _ _ _ h => h) (by rfl) (Below.refl _ _) ?_ ?_; rotate_left
                    · (intro V hSV; obtain ⟨i0, i1, i2, i3, i4⟩ := HCi.out V (below_undrew hSV); obtain ⟨j0, j1, j2, j3, j4⟩ := HCj.out V (below_undrew hSV); go_simp; all_goals (with_reducible rfl))
                    (try simp only [Act.put, List.setIfInBounds_toArray, List.set_cons_zero, List.set_cons_succ])
                    refine' takeT (i := 5) (v := _) rfl (by kernel_rfl) (by kernel_rfl) (by kernel_rfl) (fun _ _ _ h => h) (by rfl) (Below.refl _ _) ?_ ?_; rotate_left
                    · (intro V hSV; obtain ⟨i0, i1, i2, i3, i4⟩ := HCi.out V (below_undrew hSV); obtain ⟨j0, j1, j2, j3, j4⟩ := HCj.out V (below_undrew hSV); go_simp; all_goals (with_reducible rfl))
                    (try simp only [Act.put, List.setIfInBounds_toArray, List.set_cons_zero, List.set_cons_succ])
                    refine' takeT (i := 6) (v := _) rfl (by kernel_rfl) (by kernel_rfl) (by kernel_rfl) (fun _ _ _ h => h) (by rfl) (Below.refl _ _) ?_ ?_; rotate_left
                    · (intro V hSV; obtain ⟨i0, i1, i2, i3, i4⟩ := HCi.out V (below_undrew hSV); obtain ⟨j0, j1, j2, j3, j4⟩ := HCj.out V (below_undrew hSV); go_simp; all_goals (with_reducible rfl))
                    (try simp only [Act.put, List.setIfInBounds_toArray, List.set_cons_zero, List.set_cons_succ])
                    refine' takeT (i := 7) (v := _) rfl (by kernel_rfl) (by kernel_rfl) (by kernel_rfl) (fun _ _ _ h => h) (by rfl) (Below.refl _ _) ?_ ?_; rotate_left
                    · (intro V hSV; obtain ⟨i0, i1, i2, i3, i4⟩ := HCi.out V (below_undrew hSV); obtain ⟨j0, j1, j2, j3, j4⟩ := HCj.out V (below_undrew hSV); go_simp; all_goals (with_reducible rfl))
                    (try simp only [Act.put, List.setIfInBounds_toArray, List.set_cons_zero, List.set_cons_succ])
                    refine callT (i := 8) rfl (by kernel_rfl) (fun K hK => ?_)
                    go_simp
                    refine (HAp.out).mono ?_
                    rintro e w8 ⟨rfl, hq8⟩
                    refine hK.out _ _ (hq8) ?_
                    clear hK K
                    (try simp only [Act.put, List.setIfInBounds_toArray, List.set_cons_zero, List.set_cons_succ])
                    refine' takeT (i := 9) (v := _) rfl (by kernel_rfl) (by kernel_rfl) (by kernel_rfl) (fun _ _ _ h => h) (by rfl) (Below.refl _ _) ?_ ?_; rotate_left
                    · (intro V hSV; obtain ⟨i0, i1, i2, i3, i4⟩ := HCi.out V ((below_undrew hq8).trans (hSV.mono (below_undrew hq8).size)); obtain ⟨j0, j1, j2, j3, j4⟩ := HCj.out V ((below_undrew hq8).trans (hSV.mono (below_undrew hq8).size)); go_simp; all_goals (with_reducible rfl))
                    (try simp only [Act.put, List.setIfInBounds_toArray, List.set_cons_zero, List.set_cons_succ])
                    refine' takeT (i := 10) (v := _) rfl (by kernel_rfl) (by kernel_rfl) (by kernel_rfl) (fun _ _ _ h => h) (by rfl) (Below.refl _ _) ?_ ?_; rotate_left
                    · (intro V hSV; obtain ⟨i0, i1, i2, i3, i4⟩ := HCi.out V ((below_undrew hq8).trans (hSV.mono (below_undrew hq8).size)); obtain ⟨j0, j1, j2, j3, j4⟩ := HCj.out V ((below_undrew hq8).trans (hSV.mono (below_undrew hq8).size)); go_simp; all_goals (with_reducible rfl))
                    (try simp only [Act.put, List.setIfInBounds_toArray, List.set_cons_zero, List.set_cons_succ])
                    refine skipT (i := 11) rfl (by kernel_rfl) (by kernel_rfl) (by kernel_rfl) (fun _ _ _ h => h) (by rfl) (Below.refl _ _) ?_
                    (try simp only [Act.put, List.setIfInBounds_toArray, List.set_cons_zero, List.set_cons_succ])
                    refine skipT (i := 12) rfl (by kernel_rfl) (by kernel_rfl) (by kernel_rfl) (fun _ _ _ h => h) (by rfl) (Below.refl _ _) ?_
                    (try simp only [Act.put, List.setIfInBounds_toArray, List.set_cons_zero, List.set_cons_succ])
                    refine skipT (i := 13) rfl (by kernel_rfl) (by kernel_rfl) (by kernel_rfl) (fun _ _ _ h => h) (by rfl) (Below.refl _ _) ?_
                    (try simp only [Act.put, List.setIfInBounds_toArray, List.set_cons_zero, List.set_cons_succ])
                    refine skipT (i := 14) rfl (by kernel_rfl) (by kernel_rfl) (by kernel_rfl) (fun _ _ _ h => h) (by rfl) (Below.refl _ _) ?_
                    (try simp only [Act.put, List.setIfInBounds_toArray, List.set_cons_zero, List.set_cons_succ])
                    refine skipT (i := 15) rfl (by kernel_rfl) (by kernel_rfl) (by kernel_rfl) (fun _ _ _ h => h) (by rfl) (Below.refl _ _) ?_
                    (try simp only [Act.put, List.setIfInBounds_toArray, List.set_cons_zero, List.set_cons_succ])
                    refine skipT (i := 16) rfl (by kernel_rfl) (by kernel_rfl) (by kernel_rfl) (fun _ _ _ h => h) (by rfl) (Below.refl _ _) ?_
                    (try simp only [Act.put, List.setIfInBounds_toArray, List.set_cons_zero, List.set_cons_succ])
                    refine skipT (i := 17) rfl (by kernel_rfl) (by kernel_rfl) (by kernel_rfl) (fun _ _ _ h => h) (by rfl) (Below.refl _ _) ?_
                    (try simp only [Act.put, List.setIfInBounds_toArray, List.set_cons_zero, List.set_cons_succ])
                    refine skipT (i := 18) rfl (by kernel_rfl) (by kernel_rfl) (by kernel_rfl) (fun _ _ _ h => h) (by rfl) (Below.refl _ _) ?_
                    (try simp only [Act.put, List.setIfInBounds_toArray, List.set_cons_zero, List.set_cons_succ])
                    refine skipT (i := 19) rfl (by kernel_rfl) (by kernel_rfl) (by kernel_rfl) (fun _ _ _ h => h) (by rfl) (Below.refl _ _) ?_
                    (try simp only [Act.put, List.setIfInBounds_toArray, List.set_cons_zero, List.set_cons_succ])
                    refine skipT (i := 20) rfl (by kernel_rfl) (by kernel_rfl) (by kernel_rfl) (fun _ _ _ h => h) (by rfl) (Below.refl _ _) ?_
                    (try simp only [Act.put, List.setIfInBounds_toArray, List.set_cons_zero, List.set_cons_succ])
                    refine skipT (i := 21) rfl (by kernel_rfl) (by kernel_rfl) (by kernel_rfl) (fun _ _ _ h => h) (by rfl) (Below.refl _ _) ?_
                    (try simp only [Act.put, List.setIfInBounds_toArray, List.set_cons_zero, List.set_cons_succ])
                    refine skipT (i := 22) rfl (by kernel_rfl) (by kernel_rfl) (by kernel_rfl) (fun _ _ _ h => h) (by rfl) (Below.refl _ _) ?_
                    (try simp only [Act.put, List.setIfInBounds_toArray, List.set_cons_zero, List.set_cons_succ])
                    refine' takeT (i := 23) (v := _) rfl (by kernel_rfl) (by kernel_rfl) (by kernel_rfl) (fun _ _ _ h => h) (by rfl) (Below.refl _ _) ?_ ?_; rotate_left
                    · (intro V hSV; obtain ⟨i0, i1, i2, i3, i4⟩ := HCi.out V ((below_undrew hq8).trans (hSV.mono (below_undrew hq8).size)); obtain ⟨j0, j1, j2, j3, j4⟩ := HCj.out V ((below_undrew hq8).trans (hSV.mono (below_undrew hq8).size)); go_simp; all_goals (with_reducible rfl))
                    (try simp only [Act.put, List.setIfInBounds_toArray, List.set_cons_zero, List.set_cons_succ])
                    refine wpAnyH_done (by kernel_rfl) ?_ _
                    go_wp2
                    go_roundg (q - (z + 1))
                    case measure => omega
                    case rel => exact ⟨z + 1, rfl, by go_num, by omega, HBz.out.trans ((below_undrew hq8).mono HBz.out.size)⟩
                  | false =>
                    rw [hap] at HAp hpw
                    have hft : fitsL mi.l.md mj.l.md = true := by simpa using hpw
                    rw [hft] at HFt
                    clear hpw hap hft
                    refine startT (by kernel_rfl) ?_
                    refine' takeT (i := 0) (v := _) rfl (by kernel_rfl) (by kernel_rfl) (by kernel_rfl) (fun _ _ _ h => h) (by rfl) (Below.refl _ _) ?_ ?_; rotate_left
                    · (intro V hSV; obtain ⟨i0, i1, i2, i3, i4⟩ := HCi.out V (below_undrew hSV); obtain ⟨j0, j1, j2, j3, j4⟩ := HCj.out V (below_undrew hSV); go_simp; all_goals (with_reducible rfl))
                    (try simp only [Act.put, List.setIfInBounds_toArray, List.set_cons_zero, List.set_cons_succ])
                    refine' takeT (i := 1) (v := _) rfl (by kernel_rfl) (by kernel_rfl) (by kernel_rfl) (fun _ _ _ h => h) (by rfl) (Below.refl _ _) ?_ ?_; rotate_left
                    · (intro V hSV; obtain ⟨i0, i1, i2, i3, i4⟩ := HCi.out V (below_undrew hSV); obtain ⟨j0, j1, j2, j3, j4⟩ := HCj.out V (below_undrew hSV); go_simp; all_goals (with_reducible rfl))
                    (try simp only [Act.put, List.setIfInBounds_toArray, List.set_cons_zero, List.set_cons_succ])
                    refine' takeT (i := 2) (v := _) rfl (by kernel_rfl) (by kernel_rfl) (by kernel_rfl) (fun _ _ _ h => h) (by rfl) (Below.refl _ _) ?_ ?_; rotate_left
                    · (intro V hSV; obtain ⟨i0, i1, i2, i3, i4⟩ := HCi.out V (below_undrew hSV); obtain ⟨j0, j1, j2, j3, j4⟩ := HCj.out V (below_undrew hSV); go_simp; all_goals (with_reducible rfl))
                    (try simp only [Act.put, List.setIfInBounds_toArray, List.set_cons_zero, List.set_cons_succ])
                    refine' takeT (i := 3) (v := _) rfl (by kernel_rfl) (by kernel_rfl) (by kernel_rfl) (fun _ _ _ h => h) (by rfl) (Below.refl _ _) ?_ ?_; rotate_left
                    · (intro V hSV; obtain ⟨i0, i1, i2, i3, i4⟩ := HCi.out V (below_undrew hSV); obtain ⟨j0, j1, j2, j3, j4⟩ := HCj.out V (below_undrew hSV); go_simp; all_goals (with_reducible rfl))
                    (try simp only [Act.put, List.setIfInBounds_toArray, List.set_cons_zero, List.set_cons_succ])
                    refine' takeT (i := 4) (v := _) rfl (by kernel_rfl) (by kernel_rfl) (by kernel_rfl) (fun _ _ _ h => h) (by rfl) (Below.refl _ _) ?_ ?_; rotate_left
                    · (intro V hSV; obtain ⟨i0, i1, i2, i3, i4⟩ := HCi.out V (below_undrew hSV); obtain ⟨j0, j1, j2, j3, j4⟩ := HCj.out V (below_undrew hSV); go_simp; all_goals (with_reducible rfl))
                    (try simp only [Act.put, List.setIfInBounds_toArray, List.set_cons_zero, List.set_cons_succ])
                    refine' takeT (i := 5) (v := _) rfl (by kernel_rfl) (by kernel_rfl) (by kernel_rfl) (fun _ _ _ h => h) (by rfl) (Below.refl _ _) ?_ ?_; rotate_left
                    · (intro V hSV; obtain ⟨i0, i1, i2, i3, i4⟩ := HCi.out V (below_undrew hSV); obtain ⟨j0, j1, j2, j3, j4⟩ := HCj.out V (below_undrew hSV); go_simp; all_goals (with_reducible rfl))
                    (try simp only [Act.put, List.setIfInBounds_toArray, List.set_cons_zero, List.set_cons_succ])
                    refine' takeT (i := 6) (v := _) rfl (by kernel_rfl) (by kernel_rfl) (by kernel_rfl) (fun _ _ _ h => h) (by rfl) (Below.refl _ _) ?_ ?_; rotate_left
                    · (intro V hSV; obtain ⟨i0, i1, i2, i3, i4⟩ := HCi.out V (below_undrew hSV); obtain ⟨j0, j1, j2, j3, j4⟩ := HCj.out V (below_undrew hSV); go_simp; all_goals (with_reducible rfl))
                    (try simp only [Act.put, List.setIfInBounds_toArray, List.set_cons_zero, List.set_cons_succ])
                    refine' takeT (i := 7) (v := _) rfl (by kernel_rfl) (by kernel_rfl) (by kernel_rfl) (fun _ _ _ h => h) (by rfl) (Below.refl _ _) ?_ ?_; rotate_left
                    · (intro V hSV; obtain ⟨i0, i1, i2, i3, i4⟩ := HCi.out V (below_undrew hSV); obtain ⟨j0, j1, j2, j3, j4⟩ := HCj.out V (below_undrew hSV); go_simp; all_goals (with_reducible rfl))
                    (try simp only [Act.put, List.setIfInBounds_toArray, List.set_cons_zero, List.set_cons_succ])
                    refine callT (i := 8) rfl (by kernel_rfl) (fun K hK => ?_)
                    go_simp
                    refine (HAp.out).mono ?_
                    rintro e w8 ⟨rfl, hq8⟩
                    refine hK.out _ _ (hq8) ?_
                    clear hK K
                    (try simp only [Act.put, List.setIfInBounds_toArray, List.set_cons_zero, List.set_cons_succ])
                    refine' takeT (i := 9) (v := _) rfl (by kernel_rfl) (by kernel_rfl) (by kernel_rfl) (fun _ _ _ h => h) (by rfl) (Below.refl _ _) ?_ ?_; rotate_left
                    · (intro V hSV; obtain ⟨i0, i1, i2, i3, i4⟩ := HCi.out V ((below_undrew hq8).trans (hSV.mono (below_undrew hq8).size)); obtain ⟨j0, j1, j2, j3, j4⟩ := HCj.out V ((below_undrew hq8).trans (hSV.mono (below_undrew hq8).size)); go_simp; all_goals (with_reducible rfl))
                    (try simp only [Act.put, List.setIfInBounds_toArray, List.set_cons_zero, List.set_cons_succ])
                    refine' takeT (i := 10) (v := _) rfl (by kernel_rfl) (by kernel_rfl) (by kernel_rfl) (fun _ _ _ h => h) (by rfl) (Below.refl _ _) ?_ ?_; rotate_left
                    · (intro V hSV; obtain ⟨i0, i1, i2, i3, i4⟩ := HCi.out V ((below_undrew hq8).trans (hSV.mono (below_undrew hq8).size)); obtain ⟨j0, j1, j2, j3, j4⟩ := HCj.out V ((below_undrew hq8).trans (hSV.mono (below_undrew hq8).size)); go_simp; all_goals (with_reducible rfl))
                    (try simp only [Act.put, List.setIfInBounds_toArray, List.set_cons_zero, List.set_cons_succ])
                    refine' takeT (i := 11) (v := _) rfl (by kernel_rfl) (by kernel_rfl) (by kernel_rfl) (fun _ _ _ h => h) (by rfl) (Below.refl _ _) ?_ ?_; rotate_left
                    · (intro V hSV; obtain ⟨i0, i1, i2, i3, i4⟩ := HCi.out V ((below_undrew hq8).trans (hSV.mono (below_undrew hq8).size)); obtain ⟨j0, j1, j2, j3, j4⟩ := HCj.out V ((below_undrew hq8).trans (hSV.mono (below_undrew hq8).size)); go_simp; all_goals (with_reducible rfl))
                    (try simp only [Act.put, List.setIfInBounds_toArray, List.set_cons_zero, List.set_cons_succ])
                    refine' takeT (i := 12) (v := _) rfl (by kernel_rfl) (by kernel_rfl) (by kernel_rfl) (fun _ _ _ h => h) (by rfl) (Below.refl _ _) ?_ ?_; rotate_left
                    · (intro V hSV; obtain ⟨i0, i1, i2, i3, i4⟩ := HCi.out V ((below_undrew hq8).trans (hSV.mono (below_undrew hq8).size)); obtain ⟨j0, j1, j2, j3, j4⟩ := HCj.out V ((below_undrew hq8).trans (hSV.mono (below_undrew hq8).size)); go_simp; all_goals (with_reducible rfl))
                    (try simp only [Act.put, List.setIfInBounds_toArray, List.set_cons_zero, List.set_cons_succ])
                    refine' takeT (i := 13) (v := _) rfl (by kernel_rfl) (by kernel_rfl) (by kernel_rfl) (fun _ _ _ h => h) (by rfl) (Below.refl _ _) ?_ ?_; rotate_left
                    · (intro V hSV; obtain ⟨i0, i1, i2, i3, i4⟩ := HCi.out V ((below_undrew hq8).trans (hSV.mono (below_undrew hq8).size)); obtain ⟨j0, j1, j2, j3, j4⟩ := HCj.out V ((below_undrew hq8).trans (hSV.mono (below_undrew hq8).size)); go_simp; all_goals (with_reducible rfl))
                    (try simp only [Act.put, List.setIfInBounds_toArray, List.set_cons_zero, List.set_cons_succ])
                    refine' takeT (i := 14) (v := _) rfl (by kernel_rfl) (by kernel_rfl) (by kernel_rfl) (fun _ _ _ h => h) (by rfl) (Below.refl _ _) ?_ ?_; rotate_left
                    · (intro V hSV; obtain ⟨i0, i1, i2, i3, i4⟩ := HCi.out V ((below_undrew hq8).trans (hSV.mono (below_undrew hq8).size)); obtain ⟨j0, j1, j2, j3, j4⟩ := HCj.out V ((below_undrew hq8).trans (hSV.mono (below_undrew hq8).size)); go_simp; all_goals (with_reducible rfl))
                    (try simp only [Act.put, List.setIfInBounds_toArray, List.set_cons_zero, List.set_cons_succ])
                    refine' takeT (i := 15) (v := _) rfl (by kernel_rfl) (by kernel_rfl) (by kernel_rfl) (fun _ _ _ h => h) (by rfl) (Below.refl _ _) ?_ ?_; rotate_left
                    · (intro V hSV; obtain ⟨i0, i1, i2, i3, i4⟩ := HCi.out V ((below_undrew hq8).trans (hSV.mono (below_undrew hq8).size)); obtain ⟨j0, j1, j2, j3, j4⟩ := HCj.out V ((below_undrew hq8).trans (hSV.mono (below_undrew hq8).size)); go_simp; all_goals (with_reducible rfl))
                    (try simp only [Act.put, List.setIfInBounds_toArray, List.set_cons_zero, List.set_cons_succ])
                    refine' takeT (i := 16) (v := _) rfl (by kernel_rfl) (by kernel_rfl) (by kernel_rfl) (fun _ _ _ h => h) (by rfl) (Below.refl _ _) ?_ ?_; rotate_left
                    · (intro V hSV; obtain ⟨i0, i1, i2, i3, i4⟩ := HCi.out V ((below_undrew hq8).trans (hSV.mono (below_undrew hq8).size)); obtain ⟨j0, j1, j2, j3, j4⟩ := HCj.out V ((below_undrew hq8).trans (hSV.mono (below_undrew hq8).size)); go_simp; all_goals (with_reducible rfl))
                    (try simp only [Act.put, List.setIfInBounds_toArray, List.set_cons_zero, List.set_cons_succ])
                    refine' takeT (i := 17) (v := _) rfl (by kernel_rfl) (by kernel_rfl) (by kernel_rfl) (fun _ _ _ h => h) (by rfl) (Below.refl _ _) ?_ ?_; rotate_left
                    · (intro V hSV; obtain ⟨i0, i1, i2, i3, i4⟩ := HCi.out V ((below_undrew hq8).trans (hSV.mono (below_undrew hq8).size)); obtain ⟨j0, j1, j2, j3, j4⟩ := HCj.out V ((below_undrew hq8).trans (hSV.mono (below_undrew hq8).size)); go_simp; all_goals (with_reducible rfl))
                    (try simp only [Act.put, List.setIfInBounds_toArray, List.set_cons_zero, List.set_cons_succ])
                    refine' takeT (i := 18) (v := _) rfl (by kernel_rfl) (by kernel_rfl) (by kernel_rfl) (fun _ _ _ h => h) (by rfl) (Below.refl _ _) ?_ ?_; rotate_left
                    · (intro V hSV; obtain ⟨i0, i1, i2, i3, i4⟩ := HCi.out V ((below_undrew hq8).trans (hSV.mono (below_undrew hq8).size)); obtain ⟨j0, j1, j2, j3, j4⟩ := HCj.out V ((below_undrew hq8).trans (hSV.mono (below_undrew hq8).size)); go_simp; all_goals (with_reducible rfl))
                    (try simp only [Act.put, List.setIfInBounds_toArray, List.set_cons_zero, List.set_cons_succ])
                    refine' takeT (i := 19) (v := _) rfl (by kernel_rfl) (by kernel_rfl) (by kernel_rfl) (fun _ _ _ h => h) (by rfl) (Below.refl _ _) ?_ ?_; rotate_left
                    · (intro V hSV; obtain ⟨i0, i1, i2, i3, i4⟩ := HCi.out V ((below_undrew hq8).trans (hSV.mono (below_undrew hq8).size)); obtain ⟨j0, j1, j2, j3, j4⟩ := HCj.out V ((below_undrew hq8).trans (hSV.mono (below_undrew hq8).size)); go_simp; all_goals (with_reducible rfl))
                    (try simp only [Act.put, List.setIfInBounds_toArray, List.set_cons_zero, List.set_cons_succ])
                    refine' takeT (i := 20) (v := _) rfl (by kernel_rfl) (by kernel_rfl) (by kernel_rfl) (fun _ _ _ h => h) (by rfl) (Below.refl _ _) ?_ ?_; rotate_left
                    · (intro V hSV; obtain ⟨i0, i1, i2, i3, i4⟩ := HCi.out V ((below_undrew hq8).trans (hSV.mono (below_undrew hq8).size)); obtain ⟨j0, j1, j2, j3, j4⟩ := HCj.out V ((below_undrew hq8).trans (hSV.mono (below_undrew hq8).size)); go_simp; all_goals (with_reducible rfl))
                    (try simp only [Act.put, List.setIfInBounds_toArray, List.set_cons_zero, List.set_cons_succ])
                    refine callT (i := 21) rfl (by kernel_rfl) (fun K hK => ?_)
                    go_simp
                    refine (HFt.out w8).mono ?_
                    rintro e w' ⟨rfl, hw⟩
                    have hw := hw.symm
                    subst hw
                    refine hK.out _ _ (Below.refl _ _) ?_
                    clear hK K
                    (try simp only [Act.put, List.setIfInBounds_toArray, List.set_cons_zero, List.set_cons_succ])
                    refine callT (i := 22) rfl (by kernel_rfl) (fun K hK => ?_)
                    go_simp
                    refine hK.out _ _ (Below.refl _ _) ?_
                    clear hK K
                    (try simp only [Act.put, List.setIfInBounds_toArray, List.set_cons_zero, List.set_cons_succ])
                    refine callT (i := 23) rfl (by kernel_rfl) (fun K hK => ?_)
                    go_simp
                    refine hK.out _ _ (Below.refl _ _) ?_
                    clear hK K
                    (try simp only [Act.put, List.setIfInBounds_toArray, List.set_cons_zero, List.set_cons_succ])
                    refine wpAnyH_done (by kernel_rfl) ?_ _
                    go_wp2
                    go_roundg (q - (z + 1))
                    case measure => omega
                    case rel => exact ⟨z + 1, rfl, by go_num, by omega, HBz.out.trans ((below_undrew hq8).mono HBz.out.size)⟩
                · obtain rfl : z = q := by omega
                  clear hBz
                  go_wp2
                  go_roundg (yn - (z + 1))
                  case measure => omega
                  case rel => exact ⟨z + 1, rfl, by go_num, by omega, HBz.out⟩
            · obtain rfl : q = yn := by omega
              clear hBq
              go_wp2
              go_roundg (n - (k + 1))
              case measure => omega
              case rel => exact ⟨k + 1, rfl, by go_num, by omega, HT6.out.keep HBq.out⟩
      · obtain rfl : k = n := by omega
        clear hB2r
        go_wp2
        go_ret
        exact ⟨rfl, HN2.out.trans (HT.out.b.mono HN2.out.size)⟩

end Go.Proofs.YtbnojmaknlfphaaDoor
