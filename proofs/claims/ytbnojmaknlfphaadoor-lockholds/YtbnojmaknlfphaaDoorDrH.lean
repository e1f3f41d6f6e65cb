/- The law LockHolds. -/
import Derived.Test.YtbnojmaknlfphaaDoorDrE
import Derived.Test.YtbnojmaknlfphaaDoorLkB
namespace Go.Proofs.YtbnojmaknlfphaaDoor
open Go.RowKit NumMath Go.ChangeShapes Go.WideShapes Go.Deep
set_option linter.unusedVariables false
set_option maxRecDepth 100000

theorem any_moreK {p : ML → Bool} {hs : List ML} {k : Nat} {m : ML} (h : hs[k]? = some m) : (hs.take (k + 1)).any p = ((hs.take k).any p || p m) := by
  rw [List.take_add_one, h, List.any_append]
  simp

theorem any_mem (us : List ML) (x : Lck) : us.any (fun m => decide (m.l = x)) = decide (x ∈ us.map ML.l) := by
  by_cases h : x ∈ us.map ML.l
  · rw [decide_eq_true h]
    obtain ⟨m, hm, e⟩ := List.mem_map.1 h
    exact List.any_eq_true.2 ⟨m, hm, by simpa using e⟩
  · rw [decide_eq_false h, List.any_eq_false]
    intro m hm e
    exact h (List.mem_map.2 ⟨m, hm, by simpa using e⟩)

theorem same_one (a b : ML) : decide ([a].map ML.l = [b].map ML.l) = decide (a.l = b.l) := by
  by_cases h : a.l = b.l <;> simp [h]

theorem is_one2 (w : World) (m x : ML) : IsY layK (((w.alloc (.cells #[.int .u64 m.l.tx, .int .i64 m.l.lv, .int .i64 m.l.md, .slice m.la m.ln m.lc, .slice m.ha m.hn m.hc] 25)).alloc (.cells #[.int .u64 m.l.tx, .int .i64 m.l.lv, .int .i64 m.l.md, .slice m.la m.ln m.lc, .slice m.ha m.hn m.hc] 25)).alloc (.cells #[.int .u64 x.l.tx, .int .i64 x.l.lv, .int .i64 x.l.md, .slice x.la x.ln x.lc, .slice x.ha x.hn x.hc] 25)) (some ⟨w.heap.size + 1, 0, none⟩) 1 1 [m] ∧ IsY layK (((w.alloc (.cells #[.int .u64 m.l.tx, .int .i64 m.l.lv, .int .i64 m.l.md, .slice m.la m.ln m.lc, .slice m.ha m.hn m.hc] 25)).alloc (.cells #[.int .u64 m.l.tx, .int .i64 m.l.lv, .int .i64 m.l.md, .slice m.la m.ln m.lc, .slice m.ha m.hn m.hc] 25)).alloc (.cells #[.int .u64 x.l.tx, .int .i64 x.l.lv, .int .i64 x.l.md, .slice x.la x.ln x.lc, .slice x.ha x.hn x.hc] 25)) (some ⟨w.heap.size + 2, 0, none⟩) 1 1 [x] := by
  have h1 : OwnY layK ((w.alloc (.cells #[.int .u64 m.l.tx, .int .i64 m.l.lv, .int .i64 m.l.md, .slice m.la m.ln m.lc, .slice m.ha m.hn m.hc] 25)).alloc (.cells #[.int .u64 m.l.tx, .int .i64 m.l.lv, .int .i64 m.l.md, .slice m.la m.ln m.lc, .slice m.ha m.hn m.hc] 25)) 0 (.slice (some ⟨w.heap.size + 1, 0, none⟩) 1 1) [m] := by
    have := ownY_one (L := layK) (w.alloc (.cells #[.int .u64 m.l.tx, .int .i64 m.l.lv, .int .i64 m.l.md, .slice m.la m.ln m.lc, .slice m.ha m.hn m.hc] 25)) 0 #[.int .u64 m.l.tx, .int .i64 m.l.lv, .int .i64 m.l.md, .slice m.la m.ln m.lc, .slice m.ha m.hn m.hc] m (Nat.zero_le _) rfl
    simp only [World.size_alloc] at this
    exact this
  have h2 : OwnY layK (((w.alloc (.cells #[.int .u64 m.l.tx, .int .i64 m.l.lv, .int .i64 m.l.md, .slice m.la m.ln m.lc, .slice m.ha m.hn m.hc] 25)).alloc (.cells #[.int .u64 m.l.tx, .int .i64 m.l.lv, .int .i64 m.l.md, .slice m.la m.ln m.lc, .slice m.ha m.hn m.hc] 25)).alloc (.cells #[.int .u64 x.l.tx, .int .i64 x.l.lv, .int .i64 x.l.md, .slice x.la x.ln x.lc, .slice x.ha x.hn x.hc] 25)) 0 (.slice (some ⟨w.heap.size + 2, 0, none⟩) 1 1) [x] := by
    have := ownY_one (L := layK) ((w.alloc (.cells #[.int .u64 m.l.tx, .int .i64 m.l.lv, .int .i64 m.l.md, .slice m.la m.ln m.lc, .slice m.ha m.hn m.hc] 25)).alloc (.cells #[.int .u64 m.l.tx, .int .i64 m.l.lv, .int .i64 m.l.md, .slice m.la m.ln m.lc, .slice m.ha m.hn m.hc] 25)) 0 #[.int .u64 x.l.tx, .int .i64 x.l.lv, .int .i64 x.l.md, .slice x.la x.ln x.lc, .slice x.ha x.hn x.hc] x (Nat.zero_le _) rfl
    simp only [World.size_alloc] at this
    exact this
  exact ⟨(h1.keep (new_below _ _)).is, h2.is⟩

set_option maxHeartbeats 8000000 in
theorem lholds_any (a : Option Addr) (n c : Nat) (ds : List MQ) (x : ML) (w : World) (h : IsDeeds14 w a n c ds) (hx : x.handed w) (hF : FitW w) :
    Calls Tryd.prog 8 #[.slice a n c, .agg #[.int .u64 x.l.tx, .int .i64 x.l.lv, .int .i64 x.l.md, .slice x.la x.ln x.lc, .slice x.ha x.hn x.hc]] w fun e w' => e = .returned (.bool true) ∧ Below w.heap.size w w' := by
  obtain ⟨wb, hwb⟩ : ∃ W, W = w.alloc (.cells #[.int .u64 x.l.tx, .int .i64 x.l.lv, .int .i64 x.l.md, .slice x.la x.ln x.lc, .slice x.ha x.hn x.hc] 25) := ⟨_, rfl⟩
  have hnb : Below w.heap.size w wb := by rw [hwb]; exact new_below _ _
  have hsb : wb.heap.size = w.heap.size + 1 := by rw [hwb]; simp
  have HXb : Hid (At5 wb w.heap.size 0 x) := by show At5 _ _ _ _; rw [hwb]; exact at5_new w x
  have HAw := hide (awake14_any wb (hF.keep hnb))
  have H := hide (⟨h.1.keep hnb, fun d hd => ⟨(h.2 d hd).1.keep hnb, (h.2 d hd).2⟩⟩ : IsDeeds14 wb a n c ds)
  have HF := hide (hF.keep hnb)
  have HXo := hide (hx.1.keep hnb)
  have HXu := hide hx.2.1
  have HL := hide h.1.1
  have hm : (n : Int) ≤ 9223372036854775807 := by have := h.1.2.1; have := h.1.2.2.1; unfold maxLen at this; omega
  have q1 : (x.ln : Int) ≤ 281474976710656 := by have := hx.2.2.1; omega
  have q2 : (x.hn : Int) ≤ 281474976710656 := by have := hx.2.2.2; omega
  have HNb := hide hnb
  have HSb := hide hsb
  clear h hx hF hnb hsb
  go_enter Tryd.func8, Tryd.ntmps8
  go_upto_region 1 with fail
  rw [← hwb]
  clear hwb
  go_upto_region 3 with (first
    | (go_at_call 9; go_must (refine HAw.out.mono ?_); rintro e w1 ⟨rfl, hb1⟩; have HB1 := hide hb1; clear hb1))
  have HFw := hide (few14_any a n c ds w1 ⟨H.out.1.keep HB1.out, fun d hd => ⟨(H.out.2 d hd).1.keep HB1.out, (H.out.2 d hd).2⟩⟩)
  have HXV := hide (fun V (hV : Below wb.heap.size wb V) => (HXb.out.same (hV.block w.heap.size (by have := HSb.out; omega))).zero)
  cases hsm : (ds.all smallQ && decide (n ≤ 40)) with
  | false =>
    rw [hsm] at HFw
    clear hsm
    go_wp2_with (first
      | (go_at_call 16; go_must (refine HFw.out.mono ?_); rintro e w2 ⟨rfl, hb2⟩; have HB2 := hide hb2; clear hb2))
    go_ret
    exact ⟨rfl, HNb.out.trans ((HB1.out.trans (HB2.out.mono HB1.out.size)).mono (by have := HSb.out; omega))⟩
  | true =>
    rw [hsm] at HFw
    have HSmall := hide (small_at hsm)
    clear hsm
    by_cases hx1 : x.ln ≤ 20
    · have hx1I : ¬ (20 : Int) < (x.ln : Int) := by omega
      have hx1N : ¬ 20 < x.ln := by omega
      by_cases hx2 : x.hn ≤ 20
      · have hx2I : ¬ (20 : Int) < (x.hn : Int) := by omega
        have hx2N : ¬ 20 < x.hn := by omega
        go_upto_region 5 with (first
          | (go_at_call 16; go_must (refine HFw.out.mono ?_); rintro e w2 ⟨rfl, hb2⟩; have HB2 := hide hb2; obtain ⟨x0, x1, x2, x3, x4⟩ := HXV.out w2 (HB1.out.trans (hb2.mono HB1.out.size)); clear hb2))
        have HNb2 := hide (HB1.out.trans (HB2.out.mono HB1.out.size))
        have HN2 := hide (HNb.out.trans (HNb2.out.mono (by have := HSb.out; omega)))
        have HNw := hide (lnew w2 (HF.out.keep HNb2.out))
        have HY2 := hide (H.out.1.keep HNb2.out)
        have HG2 := hide (fun d hd => (⟨(H.out.2 d hd).1.keep HNb2.out, (H.out.2 d hd).2⟩ : ML.got d.m w2))
        have HXo2 := hide (HXo.out.keep HNb2.out)
        have HXV2 := hide (fun V (hV : Below w2.heap.size w2 V) => HXV.out V (HNb2.out.trans (hV.mono HNb2.out.size)))
        clear HAw HFw H HF x0 x1 x2 x3 x4 hx1I hx1N hx2I hx2N
        go_upto_region 6 with (first
          | (go_at_call 17; go_must (refine HNw.out.mono ?_); rintro e w3 ⟨rfl, hT3⟩; have HT3 : Hid (LawT w2 w3 w2.heap.size 0 (stT ds 0)) := hT3; clear hT3))
        go_wp2
        go_loopg [36] n (fun gk i wr => ∃ k : Nat, gk = n - k ∧ i = .int .i64 k ∧ k ≤ n ∧ LawT w2 wr w2.heap.size k (stT ds k))
        case atStart => exact ⟨0, rfl, rfl, Nat.zero_le _, HT3.out⟩
        case round =>
          obtain ⟨k, rfl, rfl, hk, hT⟩ := hrel
          have HT := hide hT
          have hB2r := hT.b
          have hsw := hB2r.size
          clear hT
          by_cases hlt : k < n
          · have hlt' : (k : Int) < (n : Int) := by omega
            obtain ⟨d, hdk⟩ := dq_at (ds := ds) (k := k) (by have := HL.out; omega)
            obtain ⟨g, off, rfl, hg, hC⟩ := HY2.out.at hlt
            obtain ⟨d0, d1, d2, d3, d4, d5⟩ := at6_list (hC.same (hB2r.block g hg)) hdk
            have hmem := List.mem_of_getElem? hdk
            have HDk := hide (HG2.out d hmem)
            have HSm := hide (HSmall.out.1 d hmem)
            have HBN := hide (new_below wr (.cells #[.bool d.fr, .int .u64 d.m.l.tx, .int .i64 d.m.l.lv, .int .i64 d.m.l.md, .slice d.m.la d.m.ln d.m.lc, .slice d.m.ha d.m.hn d.m.hc] 39))
            have HSt := hide (stT_more hdk)
            have h40 := HSmall.out.2
            clear hC hdk hB2r hmem
            by_cases hfr : d.fr = true
            · have HFr := hide hfr
              rw [hfr] at d0 HBN
              have HLf := hide (lfree (HT.out.keep HBN.out) d.m.l.tx)
              clear hfr
              go_wp2_with (first
                | (go_at_call 18; go_must (refine HLf.out.mono ?_); rintro e w5 ⟨rfl, hT5⟩; have HT5 : Hid (LawT w2 w5 w2.heap.size (k + 1) (stT ds (k + 1))) := (by show LawT _ _ _ _ _; rw [HSt.out]; unfold runT; rw [if_pos HFr.out]; exact hT5.mono (by omega)); clear hT5)
        )
              go_roundg (n - (k + 1))
              case measure => omega
              case rel => exact ⟨k + 1, rfl, by go_num, by omega, HT5.out⟩
            · have HFr := hide hfr
              have hfr' : d.fr = false := by simpa using hfr
              rw [hfr'] at d0 HBN
              have HLa := hide (lask (HT.out.keep HBN.out) d.m HDk.out.1 HDk.out.2 HSm.out.1 HSm.out.2 (by omega))
              clear hfr hfr'
              go_wp2_with (first
                | (go_at_call 20; go_must (refine HLa.out.mono ?_); rintro e w5 ⟨rfl, hT5⟩; have HT5 : Hid (LawT w2 w5 w2.heap.size (k + 1) (stT ds (k + 1))) := (by show LawT _ _ _ _ _; rw [HSt.out]; unfold runT; rw [if_neg HFr.out]; exact hT5); clear hT5)
        )
              go_roundg (n - (k + 1))
              case measure => omega
              case rel => exact ⟨k + 1, rfl, by go_num, by omega, HT5.out⟩
          · obtain rfl : k = n := by omega
            obtain ⟨x0, x1, x2, x3, x4⟩ := HXV2.out wr hB2r
            obtain ⟨T, hT⟩ : ∃ T, T = stT ds k := ⟨_, rfl⟩
            have HTk : Hid (LawT w2 wr w2.heap.size k T) := by show LawT _ _ _ _ _; rw [hT]; exact HT.out
            have HAsk := hide (lask HTk.out x HXo2.out HXu.out hx1 hx2 (by have := HSmall.out.2; omega))
            have HHo := hide (ask_holds HTk.out.inv x.l)
            obtain ⟨r, hr⟩ : ∃ r, r = askL T x.l := ⟨_, rfl⟩
            rw [← hr] at HAsk HHo
            obtain ⟨rt, rb, rc⟩ := r
            clear hB2r hr hT
            go_upto_region 15 with (first
              | (go_at_call 20; go_must (refine HAsk.out.mono ?_); rintro e w6 ⟨rfl, hT6⟩; have HT6 := hide hT6; clear hT6))
            have hk40 : k ≤ 40 := HSmall.out.2
            have hb26 := HT6.out.b
            have HXV6 := hide (fun V (hV : Below w6.heap.size w6 V) => HXV2.out V (hb26.trans (hV.mono hb26.size)))
            have HXo6 := hide (HXo2.out.keep hb26)
            clear hb26 x0 x1 x2 x3 x4
            go_wp2_with (first
              | (go_at_call 23; go_must (refine (lheld HT6.out (by omega)).mono ?_); rintro e w7 ⟨ya, yn, yc, ys, rfl, hy1, hy2, hy3, hb7⟩; have HYY := hide hy1; have HYl := hide hy1.1; have HYm := hide hy2; have HYo := hide hy3; have HB7 := hide hb7; clear hy1 hy2 hy3 hb7))
            have hyl := HYl.out
            have hynm : (yn : Int) ≤ 9223372036854775807 := by have := HYY.out.2.1; have := HYY.out.2.2.1; unfold maxLen at this; omega
            go_loopg [61, 10] yn (fun gk i v wq => ∃ q : Nat, gk = yn - q ∧ i = .int .i64 q ∧ q ≤ yn ∧ v = .bool ((ys.take q).any (fun m => coversL m.l x.l)) ∧ Below w7.heap.size w7 wq)
            case atStart => exact ⟨0, rfl, rfl, Nat.zero_le _, rfl, Below.refl _ _⟩
            case round =>
              obtain ⟨q, rfl, rfl, hq, rfl, hBq⟩ := hrel
              have HBq := hide hBq
              by_cases hql : q < yn
              · have hql' : (q : Int) < (yn : Int) := by omega
                obtain ⟨mi, hmi⟩ := ml_at (hs := ys) (k := q) (by omega)
                obtain ⟨g6, o6, rfl, hg6, hC6⟩ := HYY.out.at hql
                obtain ⟨c0, c1, c2, c3, c4⟩ := at5_list (hC6.same (hBq.block g6 hg6)) hmi
                have HBm := hide (new_below wr (.cells #[.int .u64 mi.l.tx, .int .i64 mi.l.lv, .int .i64 mi.l.md, .slice mi.la mi.ln mi.lc, .slice mi.ha mi.hn mi.hc] 25))
                have hb6 := HB7.out.trans ((hBq.trans (HBm.out.mono hBq.size)).mono HB7.out.size)
                obtain ⟨x0, x1, x2, x3, x4⟩ := HXV6.out _ hb6
                have HCo := hide (covers_any mi x _ ((HYo.out mi (List.mem_of_getElem? hmi)).keep (hBq.trans (HBm.out.mono hBq.size))) (HXo6.out.keep hb6))
                have HAm := hide (any_moreK (p := fun m => coversL m.l x.l) hmi)
                obtain ⟨zc, hzc⟩ : ∃ z, coversL mi.l x.l = z := ⟨_, rfl⟩
                rw [hzc] at HCo HAm
                obtain ⟨za, hza⟩ : ∃ z, (ys.take q).any (fun m => coversL m.l x.l) = z := ⟨_, rfl⟩
                rw [hza] at HAm
                have HZa := hide hza
                rw [hza]
                clear hmi hC6 hBq hb6 hzc hza
                cases za with
                | true =>
                  go_wp2
                  go_roundg (yn - (q + 1))
                  case measure => omega
                  case rel => exact ⟨q + 1, rfl, by go_num, by omega, by rw [HAm.out]; rfl, HBq.out.trans (HBm.out.mono HBq.out.size)⟩
                | false =>
                  go_wp2_with (first
                    | (go_at_call 15; go_must (refine HCo.out.mono ?_); rintro e w8 ⟨rfl, hb8⟩; have HB8 := hide hb8; clear hb8))
                  go_roundg (yn - (q + 1))
                  case measure => omega
                  case rel => exact ⟨q + 1, rfl, by go_num, by omega, by rw [HAm.out]; rfl, HBq.out.trans ((HBm.out.trans (HB8.out.mono (by simp))).mono HBq.out.size)⟩
              · obtain rfl : q = yn := by omega
                have ek : ys.take q = ys := List.take_of_length_le (by omega)
                have HHz := hide (show (ys.take q).any (fun m => coversL m.l x.l) = rt.held.any (fun h => coversL h x.l) by rw [ek, ← HYm.out, List.any_map]; rfl)
                rw [HHz.out]
                have HTq := hide (HT6.out.keep (HB7.out.trans (HBq.out.mono HB7.out.size)))
                have HBr6 := hide (HB7.out.trans (HBq.out.mono HB7.out.size))
                obtain ⟨zh, hzh⟩ : ∃ z, rt.held.any (fun h => coversL h x.l) = z := ⟨_, rfl⟩
                rw [hzh]
                have HZh := hide hzh
                clear hBq hzh HHz HYY HYl HYm HYo hyl hynm ek
                go_wp2_with (first
                  | (go_at_call 24; go_must (refine (lwaiting HTq.out (by omega)).mono ?_); rintro e w9 ⟨ua, un, uc, us, rfl, hy1, hy2, hy3, hb9⟩; have HYY := hide hy1; have HYl := hide hy1.1; have HYm := hide hy2; have HYo := hide hy3; have HB9 := hide hb9; clear hy1 hy2 hy3 hb9))
                have hyl := HYl.out
                have hynm : (un : Int) ≤ 9223372036854775807 := by have := HYY.out.2.1; have := HYY.out.2.2.1; unfold maxLen at this; omega
                have HB69 := hide (HBr6.out.trans (HB9.out.mono HBr6.out.size))
                go_loopg [75, 11] un (fun gk i v wq => ∃ q : Nat, gk = un - q ∧ i = .int .i64 q ∧ q ≤ un ∧ v = .bool ((us.take q).any (fun m => decide (m.l = x.l))) ∧ Below w9.heap.size w9 wq)
                case atStart => exact ⟨0, rfl, rfl, Nat.zero_le _, rfl, Below.refl _ _⟩
                case round =>
                  obtain ⟨j, rfl, rfl, hj, rfl, hBq⟩ := hrel
                  have HBq := hide hBq
                  by_cases hql : j < un
                  · have hql' : (j : Int) < (un : Int) := by omega
                    obtain ⟨mi, hmi⟩ := ml_at (hs := us) (k := j) (by omega)
                    obtain ⟨g6, o6, rfl, hg6, hC6⟩ := HYY.out.at hql
                    obtain ⟨c0, c1, c2, c3, c4⟩ := at5_list (hC6.same (hBq.block g6 hg6)) hmi
                    have hbm := new_below wr (.cells #[.int .u64 mi.l.tx, .int .i64 mi.l.lv, .int .i64 mi.l.md, .slice mi.la mi.ln mi.lc, .slice mi.ha mi.hn mi.hc] 25)
                    have hb6 := HB69.out.trans ((hBq.trans (hbm.mono hBq.size)).mono HB69.out.size)
                    obtain ⟨x0, x1, x2, x3, x4⟩ := HXV6.out _ hb6
                    have hbm2 := hbm.trans ((new_below (wr.alloc (.cells #[.int .u64 mi.l.tx, .int .i64 mi.l.lv, .int .i64 mi.l.md, .slice mi.la mi.ln mi.lc, .slice mi.ha mi.hn mi.hc] 25)) (.cells #[.int .u64 mi.l.tx, .int .i64 mi.l.lv, .int .i64 mi.l.md, .slice mi.la mi.ln mi.lc, .slice mi.ha mi.hn mi.hc] 25)).mono hbm.size)
                    obtain ⟨z0, z1, z2, z3, z4⟩ := HXV6.out _ (HB69.out.trans ((hBq.trans (hbm2.mono hBq.size)).mono HB69.out.size))
                    have hbm3 := hbm2.trans ((new_below ((wr.alloc (.cells #[.int .u64 mi.l.tx, .int .i64 mi.l.lv, .int .i64 mi.l.md, .slice mi.la mi.ln mi.lc, .slice mi.ha mi.hn mi.hc] 25)).alloc (.cells #[.int .u64 mi.l.tx, .int .i64 mi.l.lv, .int .i64 mi.l.md, .slice mi.la mi.ln mi.lc, .slice mi.ha mi.hn mi.hc] 25)) (.cells #[.int .u64 x.l.tx, .int .i64 x.l.lv, .int .i64 x.l.md, .slice x.la x.ln x.lc, .slice x.ha x.hn x.hc] 25)).mono hbm2.size)
                    have HSl := hide (sameLocks_any (some ⟨wr.heap.size + 1, 0, none⟩) 1 1 [mi] (some ⟨wr.heap.size + 2, 0, none⟩) 1 1 [x] (((wr.alloc (.cells #[.int .u64 mi.l.tx, .int .i64 mi.l.lv, .int .i64 mi.l.md, .slice mi.la mi.ln mi.lc, .slice mi.ha mi.hn mi.hc] 25)).alloc (.cells #[.int .u64 mi.l.tx, .int .i64 mi.l.lv, .int .i64 mi.l.md, .slice mi.la mi.ln mi.lc, .slice mi.ha mi.hn mi.hc] 25)).alloc (.cells #[.int .u64 x.l.tx, .int .i64 x.l.lv, .int .i64 x.l.md, .slice x.la x.ln x.lc, .slice x.ha x.hn x.hc] 25)) (is_one2 wr mi x).1 (is_one2 wr mi x).2 (fun y hy => by rw [List.mem_singleton.1 hy]; exact (HYo.out mi (List.mem_of_getElem? hmi)).keep (hBq.trans (hbm3.mono hBq.size))) (fun y hy => by rw [List.mem_singleton.1 hy]; exact HXo6.out.keep (HB69.out.trans ((hBq.trans (hbm3.mono hBq.size)).mono HB69.out.size))))
                    rw [same_one] at HSl
                    have HAm := hide (any_moreK (p := fun m => decide (m.l = x.l)) hmi)
                    obtain ⟨zc, hzc⟩ : ∃ z, decide (mi.l = x.l) = z := ⟨_, rfl⟩
                    rw [hzc] at HSl HAm
                    obtain ⟨za, hza⟩ : ∃ z, (us.take j).any (fun m => decide (m.l = x.l)) = z := ⟨_, rfl⟩
                    rw [hza] at HAm
                    have HBm := hide hbm
                    have HBm3 := hide hbm3
                    rw [hza]
                    clear hmi hC6 hBq hb6 hzc hza hbm hbm2 hbm3
                    cases za with
                    | true =>
                      go_wp2
                      go_roundg (un - (j + 1))
                      case measure => omega
                      case rel => exact ⟨j + 1, rfl, by go_num, by omega, by rw [HAm.out]; rfl, HBq.out.trans (HBm.out.mono HBq.out.size)⟩
                    | false =>
                      go_wp2_with (first
                        | (go_at_call 22; go_must (refine HSl.out.mono ?_); rintro e w8 ⟨rfl, hb8⟩; have HB8 := hide hb8; clear hb8))
                      go_roundg (un - (j + 1))
                      case measure => omega
                      case rel => exact ⟨j + 1, rfl, by go_num, by omega, by rw [HAm.out]; rfl, HBq.out.trans ((HBm3.out.trans (HB8.out.mono (by simp; omega))).mono HBq.out.size)⟩
                  · obtain rfl : j = un := by omega
                    have ek : us.take j = us := List.take_of_length_le (by omega)
                    have hwz : (us.take j).any (fun m => decide (m.l = x.l)) = decide (x.l ∈ rt.wait) := by rw [ek, ← HYm.out]; exact any_mem us x.l
                    rw [hwz]
                    have HEnd := hide (HN2.out.trans ((HT6.out.b.trans ((HB69.out.trans (HBq.out.mono HB69.out.size)).mono HT6.out.b.size)).mono HN2.out.size))
                    clear hBq hwz ek
                    rcases HHo.out with ⟨e1, e2⟩ | ⟨e1, e2, e3⟩ | ⟨e1, ⟨e2, e3, e4⟩ | ⟨e2, e3, e4⟩⟩
                    · have e1 : rc = 1 := e1
                      have e2 : rb = false := e2
                      subst e1 e2
                      obtain ⟨zw, hzw⟩ : ∃ z, decide (x.l ∈ rt.wait) = z := ⟨_, rfl⟩
                      rw [hzw]
                      go_wp2
                      go_ret
                      exact ⟨rfl, HEnd.out⟩
                    · have e2 : rb = false := e2
                      have hw : decide (x.l ∈ rt.wait) = false := decide_eq_false e3
                      rw [hw]
                      subst e2
                      rcases e1 with e1 | e1
                      · have e1 : rc = 131 := e1
                        subst e1
                        go_wp2
                        go_ret
                        exact ⟨rfl, HEnd.out⟩
                      · have e1 : rc = 132 := e1
                        subst e1
                        go_wp2
                        go_ret
                        exact ⟨rfl, HEnd.out⟩
                    · have e1 : rc = 0 := e1
                      have e2 : rb = true := e2
                      have hw : decide (x.l ∈ rt.wait) = false := decide_eq_false e4
                      have hz : zh = true := by rw [← HZh.out]; exact e3
                      rw [hw]
                      subst e1 e2 hz
                      go_wp2
                      go_ret
                      exact ⟨rfl, HEnd.out⟩
                    · have e1 : rc = 0 := e1
                      have e2 : rb = false := e2
                      have hw : decide (x.l ∈ rt.wait) = true := decide_eq_true e4
                      have hz : zh = false := by rw [← HZh.out]; exact e3
                      rw [hw]
                      subst e1 e2 hz
                      go_wp2
                      go_ret
                      exact ⟨rfl, HEnd.out⟩
      · have hx2I : (20 : Int) < (x.hn : Int) := by omega
        have hx2N : 20 < x.hn := by omega
        clear hx1 hx2
        go_wp2_with (first
          | (go_at_call 16; go_must (refine HFw.out.mono ?_); rintro e w2 ⟨rfl, hb2⟩; have HB2 := hide hb2; obtain ⟨x0, x1, x2, x3, x4⟩ := HXV.out w2 (HB1.out.trans (hb2.mono HB1.out.size)); clear hb2))
        go_ret
        exact ⟨rfl, HNb.out.trans ((HB1.out.trans (HB2.out.mono HB1.out.size)).mono (by have := HSb.out; omega))⟩
    · have hx1I : (20 : Int) < (x.ln : Int) := by omega
      have hx1N : 20 < x.ln := by omega
      clear hx1
      go_wp2_with (first
        | (go_at_call 16; go_must (refine HFw.out.mono ?_); rintro e w2 ⟨rfl, hb2⟩; have HB2 := hide hb2; obtain ⟨x0, x1, x2, x3, x4⟩ := HXV.out w2 (HB1.out.trans (hb2.mono HB1.out.size)); clear hb2))
      go_ret
      exact ⟨rfl, HNb.out.trans ((HB1.out.trans (HB2.out.mono HB1.out.size)).mono (by have := HSb.out; omega))⟩

end Go.Proofs.YtbnojmaknlfphaaDoor
