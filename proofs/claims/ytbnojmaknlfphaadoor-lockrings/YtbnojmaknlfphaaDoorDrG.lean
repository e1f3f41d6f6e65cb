/- The law LockRings. -/
import Derived.Test.YtbnojmaknlfphaaDoorDrE
namespace Go.Proofs.YtbnojmaknlfphaaDoor
open Go.RowKit NumMath Go.ChangeShapes Go.WideShapes Go.Deep
set_option linter.unusedVariables false
set_option maxRecDepth 100000

set_option maxHeartbeats 8000000 in
theorem lrings_any (a : Option Addr) (n c : Nat) (ds : List MQ) (w : World) (h : IsDeeds14 w a n c ds) (hF : FitW w) :
    Calls Tryd.prog 6 #[.slice a n c] w fun e w' => e = .returned (.bool true) ∧ Below w.heap.size w w' := by
  have HAw := hide (awake14_any w hF)
  have H := hide h
  have HF := hide hF
  have HL := hide h.1.1
  have hm : (n : Int) ≤ 9223372036854775807 := by have := h.1.2.1; have := h.1.2.2.1; unfold maxLen at this; omega
  clear h hF
  go_enter Tryd.func6, Tryd.ntmps6
  go_upto_region 3 with (first
    | (go_at_call 9; go_must (refine HAw.out.mono ?_); rintro e w1 ⟨rfl, hb1⟩; have HB1 := hide hb1; clear hb1))
  have HFw := hide (few14_any a n c ds w1 ⟨H.out.1.keep HB1.out, fun d hd => ⟨(H.out.2 d hd).1.keep HB1.out, (H.out.2 d hd).2⟩⟩)
  cases hsm : (ds.all smallQ && decide (n ≤ 40)) with
  | false =>
    rw [hsm] at HFw
    clear hsm
    go_wp2_with (first
      | (go_at_call 16; go_must (refine HFw.out.mono ?_); rintro e w2 ⟨rfl, hb2⟩; have HB2 := hide hb2; clear hb2))
    go_ret
    exact ⟨rfl, HB1.out.trans (HB2.out.mono HB1.out.size)⟩
  | true =>
    rw [hsm] at HFw
    have HSmall := hide (small_at hsm)
    clear hsm
    go_upto_region 5 with (first
      | (go_at_call 16; go_must (refine HFw.out.mono ?_); rintro e w2 ⟨rfl, hb2⟩; have HB2 := hide hb2; clear hb2))
    have HN2 := hide (HB1.out.trans (HB2.out.mono HB1.out.size))
    have HNw := hide (lnew w2 (HF.out.keep HN2.out))
    have HY2 := hide (H.out.1.keep HN2.out)
    have HG2 := hide (fun d hd => (⟨(H.out.2 d hd).1.keep HN2.out, (H.out.2 d hd).2⟩ : ML.got d.m w2))
    clear HAw HFw H HF
    go_wp2_with (first
      | (go_at_call 17; go_must (refine HNw.out.mono ?_); rintro e w3 ⟨rfl, hT3⟩; have HT3 : Hid (LawT w2 w3 w2.heap.size 0 (stT ds 0)) := hT3; clear hT3))
    go_loopg [17] n (fun gk i wr => ∃ k : Nat, gk = n - k ∧ i = .int .i64 k ∧ k ≤ n ∧ LawT w2 wr w2.heap.size k (stT ds k))
    case atStart => exact ⟨0, rfl, rfl, Nat.zero_le _, HT3.out⟩
    case round =>
      obtain ⟨k, rfl, rfl, hk, hT⟩ := hrel
      have HT := hide hT
      have hB2r := hT.b
      have hsw := hB2r.size
      clear hT
      by_cases hlt : k < n
      · have hlt' : (k : Int) < (n : Int) := by omega
        obtain ⟨d, hdk⟩ := dq_at (ds := ds) (k := k) (by have := HL.out; omega)
        obtain ⟨g, off, rfl, hg, hC⟩ := HY2.out.at hlt
        obtain ⟨d0, d1, d2, d3, d4, d5⟩ := at6_list (hC.same (hB2r.block g hg)) hdk
        have hmem := List.mem_of_getElem? hdk
        have HDk := hide (HG2.out d hmem)
        have HSm := hide (HSmall.out.1 d hmem)
        have HBN := hide (new_below wr (.cells #[.bool d.fr, .int .u64 d.m.l.tx, .int .i64 d.m.l.lv, .int .i64 d.m.l.md, .slice d.m.la d.m.ln d.m.lc, .slice d.m.ha d.m.hn d.m.hc] 39))
        have HSt := hide (stT_more hdk)
        have h40 := HSmall.out.2
        clear hC hdk hB2r hmem
        by_cases hfr : d.fr = true
        · have HFr := hide hfr
          rw [hfr] at d0 HBN
          have HLf := hide (lfree (HT.out.keep HBN.out) d.m.l.tx)
          clear hfr
          go_wp2_with (first
            | (go_at_call 18; go_must (refine HLf.out.mono ?_); rintro e w5 ⟨rfl, hT5⟩; have HT5 : Hid (LawT w2 w5 w2.heap.size (k + 1) (stT ds (k + 1))) := (by show LawT _ _ _ _ _; rw [HSt.out]; unfold runT; rw [if_pos HFr.out]; exact hT5.mono (by omega)); clear hT5)
            | (go_at_call 24; go_must (refine (lwaiting (HT5.out.keep HB6.out) (by have := HSmall.out.2; omega)).mono ?_); rintro e w7 ⟨ya, yn, yc, ys, rfl, hy1, hy2, hy3, hb7⟩; have HYY := hide hy1; have HYl := hide hy1.1; have HYm := hide hy2; have HE7 := hide (HE6.out.keep hb7); have HT7 := hide ((HT5.out.keep HB6.out).keep hb7); clear hy1 hy2 hy3 hb7)
            | (go_at_call 26; go_must (refine (ledges HT5.out (by have := HSmall.out.2; omega)).mono ?_); rintro e w6 ⟨ea, en, ec, rfl, he6, hel, hb6⟩; have HE6 := hide he6; have HEl := hide hel; have HB6 := hide hb6; clear he6 hel hb6))
          have hyl := HYl.out
          have hynm : (yn : Int) ≤ 9223372036854775807 := by have := HYY.out.2.1; have := HYY.out.2.2.1; unfold maxLen at this; omega
          have hne : ∀ w, (binOp .neq 51 (.slice none 0 0) (.slice none 0 0)).run Tryd.prog w = .ok (.bool false) w := fun w => by kernel_rfl
          obtain ⟨wo, hwo⟩ : ∃ wo, wo = wr := ⟨_, rfl⟩
          subst hwo
          go_loopg [37] yn (fun gk i wq => ∃ q : Nat, gk = yn - q ∧ i = .int .i64 q ∧ q ≤ yn ∧ Below w7.heap.size w7 wq)
          case atStart => exact ⟨0, rfl, rfl, Nat.zero_le _, Below.refl _ _⟩
          case round =>
            obtain ⟨q, rfl, rfl, hq, hBq⟩ := hrel
            have HBq := hide hBq
            by_cases hql : q < yn
            · have hql' : (q : Int) < (yn : Int) := by omega
              obtain ⟨mi, hmi⟩ := ml_at (hs := ys) (k := q) (by omega)
              obtain ⟨g6, o6, rfl, hg6, hC6⟩ := HYY.out.at hql
              obtain ⟨c0, c1, c2, c3, c4⟩ := at5_list (hC6.same (hBq.block g6 hg6)) hmi
              have HBm := hide (new_below wr (.cells #[.int .u64 mi.l.tx, .int .i64 mi.l.lv, .int .i64 mi.l.md, .slice mi.la mi.ln mi.lc, .slice mi.ha mi.hn mi.hc] 25))
              have hmem : mi.l ∈ (stT ds (k + 1)).wait := by rw [← HYm.out]; exact List.mem_map.2 ⟨mi, List.mem_of_getElem? hmi, rfl⟩
              have HCy := hide (pcycleN_any ea en ec _ mi.l.tx _ (HE7.out.keep (hBq.trans (HBm.out.mono hBq.size))) HEl.out (HT7.out.u mi.l (List.mem_append_right _ hmem)).1)
              have HNo := hide ((cycle_none_iff _ _).2 (HT7.out.inv.ring mi.l.tx))
              clear hmi hC6 hBq hmem
              go_wp2_with (first
                | (go_at_call 28; go_must (refine HCy.out.mono ?_); rintro e w8 ⟨v8, rfl, ho8, hb8, hnil⟩; have hnil := hnil HNo.out; subst hnil; have HB8 := hide hb8; clear ho8 hb8))
              go_roundg (yn - (q + 1))
              case measure => omega
              case rel => exact ⟨q + 1, rfl, by go_num, by omega, HBq.out.trans ((HBm.out.trans (HB8.out.mono (by simp))).mono HBq.out.size)⟩
            · obtain rfl : q = yn := by omega
              clear hBq
              go_wp2
              go_roundg (n - (k + 1))
              case measure => omega
              case rel => exact ⟨k + 1, rfl, by go_num, by omega, HT7.out.keep HBq.out⟩
        · have HFr := hide hfr
          have hfr' : d.fr = false := by simpa using hfr
          rw [hfr'] at d0 HBN
          have HLa := hide (lask (HT.out.keep HBN.out) d.m HDk.out.1 HDk.out.2 HSm.out.1 HSm.out.2 (by omega))
          clear hfr hfr'
          go_wp2_with (first
            | (go_at_call 20; go_must (refine HLa.out.mono ?_); rintro e w5 ⟨rfl, hT5⟩; have HT5 : Hid (LawT w2 w5 w2.heap.size (k + 1) (stT ds (k + 1))) := (by show LawT _ _ _ _ _; rw [HSt.out]; unfold runT; rw [if_neg HFr.out]; exact hT5); clear hT5)
            | (go_at_call 24; go_must (refine (lwaiting (HT5.out.keep HB6.out) (by have := HSmall.out.2; omega)).mono ?_); rintro e w7 ⟨ya, yn, yc, ys, rfl, hy1, hy2, hy3, hb7⟩; have HYY := hide hy1; have HYl := hide hy1.1; have HYm := hide hy2; have HE7 := hide (HE6.out.keep hb7); have HT7 := hide ((HT5.out.keep HB6.out).keep hb7); clear hy1 hy2 hy3 hb7)
            | (go_at_call 26; go_must (refine (ledges HT5.out (by have := HSmall.out.2; omega)).mono ?_); rintro e w6 ⟨ea, en, ec, rfl, he6, hel, hb6⟩; have HE6 := hide he6; have HEl := hide hel; have HB6 := hide hb6; clear he6 hel hb6))
          have hyl := HYl.out
          have hynm : (yn : Int) ≤ 9223372036854775807 := by have := HYY.out.2.1; have := HYY.out.2.2.1; unfold maxLen at this; omega
          have hne : ∀ w, (binOp .neq 51 (.slice none 0 0) (.slice none 0 0)).run Tryd.prog w = .ok (.bool false) w := fun w => by kernel_rfl
          obtain ⟨wo, hwo⟩ : ∃ wo, wo = wr := ⟨_, rfl⟩
          subst hwo
          go_loopg [37] yn (fun gk i wq => ∃ q : Nat, gk = yn - q ∧ i = .int .i64 q ∧ q ≤ yn ∧ Below w7.heap.size w7 wq)
          case atStart => exact ⟨0, rfl, rfl, Nat.zero_le _, Below.refl _ _⟩
          case round =>
            obtain ⟨q, rfl, rfl, hq, hBq⟩ := hrel
            have HBq := hide hBq
            by_cases hql : q < yn
            · have hql' : (q : Int) < (yn : Int) := by omega
              obtain ⟨mi, hmi⟩ := ml_at (hs := ys) (k := q) (by omega)
              obtain ⟨g6, o6, rfl, hg6, hC6⟩ := HYY.out.at hql
              obtain ⟨c0, c1, c2, c3, c4⟩ := at5_list (hC6.same (hBq.block g6 hg6)) hmi
              have HBm := hide (new_below wr (.cells #[.int .u64 mi.l.tx, .int .i64 mi.l.lv, .int .i64 mi.l.md, .slice mi.la mi.ln mi.lc, .slice mi.ha mi.hn mi.hc] 25))
              have hmem : mi.l ∈ (stT ds (k + 1)).wait := by rw [← HYm.out]; exact List.mem_map.2 ⟨mi, List.mem_of_getElem? hmi, rfl⟩
              have HCy := hide (pcycleN_any ea en ec _ mi.l.tx _ (HE7.out.keep (hBq.trans (HBm.out.mono hBq.size))) HEl.out (HT7.out.u mi.l (List.mem_append_right _ hmem)).1)
              have HNo := hide ((cycle_none_iff _ _).2 (HT7.out.inv.ring mi.l.tx))
              clear hmi hC6 hBq hmem
              go_wp2_with (first
                | (go_at_call 28; go_must (refine HCy.out.mono ?_); rintro e w8 ⟨v8, rfl, ho8, hb8, hnil⟩; have hnil := hnil HNo.out; subst hnil; have HB8 := hide hb8; clear ho8 hb8))
              go_roundg (yn - (q + 1))
              case measure => omega
              case rel => exact ⟨q + 1, rfl, by go_num, by omega, HBq.out.trans ((HBm.out.trans (HB8.out.mono (by simp))).mono HBq.out.size)⟩
            · obtain rfl : q = yn := by omega
              clear hBq
              go_wp2
              go_roundg (n - (k + 1))
              case measure => omega
              case rel => exact ⟨k + 1, rfl, by go_num, by omega, HT7.out.keep HBq.out⟩
      · obtain rfl : k = n := by omega
        clear hB2r
        go_wp2
        go_ret
        exact ⟨rfl, HN2.out.trans (HT.out.b.mono HN2.out.size)⟩

end Go.Proofs.YtbnojmaknlfphaaDoor
