/- The reference's Unkey of any bytes: as okey.Of. -/
import Derived.Test.YtfihjhcjkgpgfaaOkeyOfC
import Derived.Test.YtfihjhcjkgpgfaaOkeyConv
import Derived.BigRegion
import Derived.OneCell
namespace Go.Proofs.Ytfihjhcjkgpgfaa
open Go.RowKit NumMath
set_option linter.unusedVariables false

theorem OwnV.setOther {w : World} {base N i : Nat} {v : Value} {xs : List Val} (h : OwnV w base v xs) (hN : v.ownBlock ≠ some N) (u : Value) : OwnV (w.setCell ⟨N, i, none⟩ u) base v xs := ownsRow_setCell_other h hN u

theorem box_set {W : World} {N : Nat} {v a b c : Value} (h0 : W.cell? ⟨N, 0, none⟩ = some a) (h1 : W.cell? ⟨N, 1, none⟩ = some b) (h2 : W.cell? ⟨N, 2, none⟩ = some c) (hf : W.frozen? ⟨N, 2, none⟩ = false) :
    (W.setCell ⟨N, 2, none⟩ v).drew.cell? ⟨N, 0, none⟩ = some a ∧ (W.setCell ⟨N, 2, none⟩ v).drew.cell? ⟨N, 1, none⟩ = some b ∧ (W.setCell ⟨N, 2, none⟩ v).drew.cell? ⟨N, 2, none⟩ = some v ∧ (W.setCell ⟨N, 2, none⟩ v).drew.frozen? ⟨N, 2, none⟩ = false := by
  refine ⟨?_, ?_, ?_, ?_⟩
  · show (W.setCell ⟨N, 2, none⟩ v).cell? ⟨N, 0, none⟩ = some a
    rw [World.cell?_setCell_other]
    · exact h0
    · simp
  · show (W.setCell ⟨N, 2, none⟩ v).cell? ⟨N, 1, none⟩ = some b
    rw [World.cell?_setCell_other]
    · exact h1
    · simp
  · exact World.cell?_setCell_same _ _ _ h2
  · show (W.setCell ⟨N, 2, none⟩ v).frozen? ⟨N, 2, none⟩ = false
    rw [World.frozen?_setCell]
    exact hf

theorem strB_snoc (ts ys : List Int) : strB ts ++ strB ys = strB (ts ++ ys) := by
  apply ByteArray.ext
  rw [ByteArray.data_append]
  apply Array.toList_inj.1
  rw [Array.toList_append]
  show (strOfNums ts).data.toList ++ (strOfNums ys).data.toList = (strOfNums (ts ++ ys)).data.toList
  rw [strOfNums_data, strOfNums_data, strOfNums_data, List.map_append]

theorem unflip_way (u : Int) (h1 : 0 ≤ u) (h2 : u ≤ 18446744073709551615) : wrap64 (IntKind.u64.wrap (u - 9223372036854775808)) = unflipV u := by
  simp only [IntKind.wrap_u64]
  unfold unflipV wrap64
  omega

set_option maxRecDepth 20000 in
set_option maxHeartbeats 8000000 in
theorem runkey_any (a : Option Addr) (len cap : Nat) (xs : List Int) (w : World) (h : IsBytes w a len cap xs) (hbig : len ≤ 1000000000) :
    Calls Try.prog 16 #[.slice a len cap] w (OfPost w xs) := by
  have HV := hide h
  obtain ⟨hl, hlc, hm, hr, -⟩ := h
  have HL : Hid (xs.length = len) := hl
  have HR := hide hr
  have HM := hide hm
  clear hl hr
  unfold maxLen at hm
  go_enter Try.func16, Try.ntmps16
  go_wp2
  go_loopw [4, 5] (fun l i wr => ∃ j vs, j ≤ len ∧ i = .int .i64 (j : Nat) ∧ OwnV wr w.heap.size l vs ∧ (∀ x ∈ vs, Plain x) ∧ keyL vs = xs.take j ∧ vs.length ≤ j ∧ Below w.heap.size w wr) (fun _ i _ => len - (intOf i).toNat)
  case atStart => exact ⟨0, [], Nat.zero_le _, rfl, ownV_nil _ _, by simp, rfl, Nat.le_refl _, Below.refl _ _⟩
  case round =>
    obtain ⟨j, vs, hj, rfl, hown, hpl, hkey, hvl, hb⟩ := hrel
    have hsz := hb.size
    have HO := hide hown
    have HPl := hide hpl
    have HK := hide hkey
    have HW : Hid (u4.ownBlock ≠ some wr.heap.size) := fun hx => absurd (World.ownsRow.lt hown _ hx).2 (Nat.lt_irrefl _)
    clear hown hpl hkey
    by_cases hlt : j < len
    · obtain ⟨g, off, rfl, hg, hB⟩ := HV.out.at hlt
      have hx : j < xs.length := by rw [HL.out]; exact hlt
      have hcell := (hB.below hb hg) j hx
      have hcellA := cell_later ((Below.refl wr.heap.size wr).alloc (Nat.le_refl _) (.cells #[.int .i64 0, .int .i64 0, .string ⟨#[]⟩] 27)) hcell
      have HD := hide (drop_one xs j hx)
      have HBw := hide hB
      obtain ⟨r1, r2⟩ := nth_range xs HR.out j
      have hD1 : (xs.drop j).drop 1 = xs.drop (j + 1) := by rw [List.drop_drop]
      have HD1 := hide hD1
      have HX := hide hx
      clear hx hB hD1
      generalize xs.getD j 0 = c at *
      by_cases c1 : c = 1
      · subst c1
        have HOk := hide (null_yes (xs.drop j) (by rw [HD1.out]; exact HD.out))
        go_wp2_with (first
          | (at_builtin; go_must (refine wp_appV _ rfl (.tmp 112) (.tmp 114) rfl w.heap.size _ _ rfl ((HO.out.alloc _).alloc _) _ 0 1 1 [⟨0, 0, ⟨#[]⟩⟩] rfl rfl (cellsV_new _ ⟨0, 0, ⟨#[]⟩⟩ _ (by simp)) (by simp only [List.length_singleton]; omega) (by simp; omega) ?_); intro v3 w3 hown3 hg3 hb3; have HO3 := hide hown3; have hb3' := ((hb.alloc hsz _).alloc (by simp; omega) _).trans hb3; clear hown3 hg3 hb3))
        go_roundw
        case rel =>
          have hs := of_step xs j 1 vs ⟨0, 0, ByteArray.empty⟩ (Nat.le_of_lt HX.out) HK.out HOk.out
          refine ⟨j + 1, vs ++ [⟨0, 0, ⟨#[]⟩⟩], by omega, by go_num, HO3.out, ?_, hs.1, by rw [List.length_append, List.length_singleton]; omega, hb3'⟩
          intro x hx
          rcases List.mem_append.1 hx with hx | hx
          · exact HPl.out x hx
          · rw [List.mem_singleton.1 hx]; exact HOk.out.2.2.1
        case measure => simp [intOf]; omega
      · have c1' : (c == 1) = false := by simp [c1]
        by_cases c2 : c = 2
        · subst c2
          by_cases h9 : len - j < 9
          · have HNo := hide (of_no xs j vs HX.out HK.out HPl.out (int_no (xs.drop j) (by rw [HD1.out]; exact HD.out) (by have := HL.out; rw [List.length_drop]; omega)))
            have h9' : (len : Int) - (j : Int) < 9 := by omega
            go_wp2
            go_ret2
            exact ⟨.inr ⟨rfl, HNo.out⟩, hb.alloc hsz _⟩
          · have HOk := hide (int_yes (xs.drop j) (fun c hc => HR.out c (List.mem_of_mem_drop hc)) (by rw [HD1.out]; exact HD.out) (by have := HL.out; rw [List.length_drop]; omega))
            have h9' : ¬ (len : Int) - (j : Int) < 9 := by omega
            have hl8 : (((xs.drop j).drop 1).take 8).length = 8 := by have := HL.out; rw [List.length_take, List.length_drop, List.length_drop]; omega
            have hBr := bytesAt_some (bytesAt_drop (bytesAt_drop (HBw.out.below hb hg) j) 1) 8
            obtain ⟨ua, ub⟩ := ofV_range (((xs.drop j).drop 1).take 8)
            have HC := hide (fun W (hW : Below wr.heap.size wr W) => rof_row g (off + j + 1) 8 (cap - (j + 1)) (((xs.drop j).drop 1).take 8) W hl8 (by omega) (by have := HM.out; omega) (fun i hi => (hBr.below hW (by omega)) i (by rw [hl8]; exact hi)) (fun c hc => HR.out c (List.mem_of_mem_drop (List.mem_of_mem_drop (List.mem_of_mem_take hc)))))
            generalize ofV (((xs.drop j).drop 1).take 8) = u at *
            have hcv := unflip_way u ua ub
            clear hBr hl8
            go_wp2_with (first
              | (go_at_call 28; go_must (refine (HC.out _ ((Below.refl _ _).alloc (Nat.le_refl _) _)).mono ?_); rintro e w' ⟨rfl, rfl⟩)
              | (at_builtin; go_must (refine wp_appV _ rfl (.tmp 112) (.tmp 114) rfl w.heap.size _ _ rfl ((HO.out.alloc _).alloc _) _ 0 1 1 [⟨1, unflipV u, ⟨#[]⟩⟩] rfl rfl (cellsV_new _ ⟨1, unflipV u, ⟨#[]⟩⟩ _ (by simp)) (by simp only [List.length_singleton]; omega) (by simp; omega) ?_); intro v3 w3 hown3 hg3 hb3; have HO3 := hide hown3; have hb3' := ((hb.alloc hsz _).alloc (by simp; omega) _).trans hb3; clear hown3 hg3 hb3))
            go_roundw
            case rel =>
              have hs := of_step xs j 9 vs ⟨1, unflipV u, ByteArray.empty⟩ (Nat.le_of_lt HX.out) HK.out HOk.out
              have hs2 := hs.2
              have hL := HL.out
              refine ⟨j + 9, vs ++ [⟨1, unflipV u, ⟨#[]⟩⟩], by omega, by go_num, HO3.out, ?_, hs.1, by rw [List.length_append, List.length_singleton]; omega, hb3'⟩
              intro x hx
              rcases List.mem_append.1 hx with hx | hx
              · exact HPl.out x hx
              · rw [List.mem_singleton.1 hx]; exact HOk.out.2.2.1
            case measure => simp [intOf]; omega
        · have c2' : (c == 2) = false := by simp [c2]
          by_cases c3 : c = 3
          · subst c3
            have H3 := hide (show xs.drop j = 3 :: ([].flatMap esc ++ xs.drop (j + 1)) from HD.out)
            have hbA := (Below.refl wr.heap.size wr).alloc (Nat.le_refl _) (.cells #[.int .i64 2, .int .i64 0, .string ⟨#[]⟩] 27)
            have HbA := hide hbA
            obtain ⟨N, HNn⟩ : ∃ N, Hid (N = wr.heap.size) := ⟨_, rfl⟩
            have HB0 := hide (HBw.out.below hb hg)
            clear hbA
            have hlu : ∀ n, u4.ownBlock = some n → n ≠ N := fun n hn hx => HW.out (by rw [← HNn.out, ← hx]; exact hn)
            have HLu := hide hlu
            clear hlu
            go_wp2
            go_loopw [8] (fun k wq => ∃ kk p ts, kk = j + p ∧ kk ≤ len ∧ k = .int .i64 (kk : Nat) ∧ wq.cell? ⟨N, 0, none⟩ = some (.int .i64 2) ∧ wq.cell? ⟨N, 1, none⟩ = some (.int .i64 0) ∧ wq.cell? ⟨N, 2, none⟩ = some (.string (strB ts)) ∧ wq.frozen? ⟨N, 2, none⟩ = false ∧ xs.drop j = 3 :: (ts.flatMap esc ++ (xs.drop j).drop p) ∧ p = 1 + (ts.flatMap esc).length ∧ (∀ c ∈ ts, isB c) ∧ OwnV wq w.heap.size u4 vs ∧ Below w.heap.size w wq) (fun k _ => len + 1 - (intOf k).toNat)
            case atStart => exact ⟨j + 1, 1, [], rfl, by omega, by go_num, by rw [HNn.out]; simp, by rw [HNn.out]; simp, by rw [HNn.out]; simp; rfl, by rw [HNn.out]; simp, by rw [HD1.out]; exact H3.out, rfl, by simp, HO.out.keep HbA.out, hb.trans (HbA.out.mono hsz)⟩
            case round =>
              obtain ⟨kk, p, ts, ek, hkk, rfl, y0, y1, y2, yf, e1, e2, hts, hown, hb3⟩ := hrel
              have Y0 := hide y0
              have Y1 := hide y1
              have Y2 := hide y2
              have Yf := hide yf
              rw [HNn.out] at y0 y1 y2 yf
              have hsz3 := hb3.size
              have hNl : N < wr.heap.size := World.block_lt_of_cell? _ ⟨N, 2, none⟩ Y2.out
              have EK := hide ek
              have E1 := hide e1
              have E2 := hide e2
              have HTs := hide hts
              have HO3 := hide hown
              have HBr := hide (HBw.out.below hb3 hg)
              have hlen : ts.length ≤ 1000000000 := by have := esc_longer ts; omega
              have HLn := hide hlen
              have hyl : (xs.drop j).length = len - j := by rw [List.length_drop, HL.out]
              have HYl := hide hyl
              clear ek e1 e2 hts hown hlen hyl
              by_cases hlt3 : kk < len
              · have hx3 : kk < xs.length := by rw [HL.out]; exact hlt3
                have hdd : ∀ n, (xs.drop j).drop (p + n) = xs.drop (kk + n) := by intro n; have h2 := EK.out; rw [List.drop_drop]; congr 1; omega
                have HDD := hide hdd
                have hgd : ∀ n, (xs.drop j).getD (p + n) 0 = xs.getD (kk + n) 0 := by intro n; have h2 := EK.out; simp only [List.getD, List.getElem?_drop]; congr 2; omega
                have HGD := hide hgd
                have D1 := hide (drop_one xs kk hx3)
                have hcell0 := HBr.out kk hx3
                obtain ⟨r3, r4⟩ := nth_range xs HR.out kk
                have HG0 := hide (HGD.out 0)
                have hgN : g ≠ N := by have := HNn.out; omega
                have hgN' := hgN.symm
                rw [HNn.out] at hgN hgN'
                have hIB : IsBytes wr.drew (some ⟨g, off + kk, none⟩) 1 (cap - kk) [xs.getD kk 0] := ⟨rfl, by omega, by unfold maxLen; omega, by intro c hc; rw [List.mem_singleton.1 hc]; exact ⟨r3, r4⟩, .inr ⟨g, off + kk, rfl, by show g < wr.heap.size; omega, by intro i hi; have h0 : i = 0 := (by simpa using hi); subst h0; exact hcell0⟩⟩
                have hconv := hIB.conv
                clear hdd hgd hIB
                by_cases hlt4 : kk + 1 < len
                · have hx4 : kk + 1 < xs.length := by rw [HL.out]; exact hlt4
                  have D2 := hide (drop_two xs kk hx4)
                  have hcell1 := HBr.out (kk + 1) hx4
                  obtain ⟨r5, r6⟩ := nth_range xs HR.out (kk + 1)
                  have HG1 := hide (HGD.out 1)
                  clear hx3 hx4
                  generalize xs.getD kk 0 = c at *
                  generalize xs.getD (kk + 1) 0 = d at *
                  by_cases hc0 : c = 0
                  · subst hc0
                    by_cases hd1 : d = 1
                    · subst hd1
                      have HOk := hide (text_yes (xs.drop j) ts p E1.out E2.out HTs.out (by have h1 := HYl.out; have h2 := EK.out; omega) (by have h1 := HYl.out; have h2 := HM.out; omega) HG0.out HG1.out)
                      go_wp2_with (first
                        | (at_builtin; go_must (refine wp_appV _ rfl (.tmp 112) (.tmp 114) rfl w.heap.size _ _ rfl (HO3.out.alloc _) _ 0 1 1 [⟨2, 0, strB ts⟩] rfl rfl (cellsV_new _ ⟨2, 0, strB ts⟩ _ (by simp)) (by simp only [List.length_singleton]; omega) (by simp; omega) ?_); intro v4 w4 hown4 hg4 hb4; have HO4 := hide hown4; have hb4' := (hb3.alloc hsz3 _).trans hb4; clear hown4 hg4 hb4))
                      go_roundw
                      case rel =>
                        have hs := of_step xs j (p + 2) vs ⟨2, 0, strB ts⟩ (Nat.le_of_lt HX.out) HK.out HOk.out
                        have hs2 := hs.2
                        have hL := HL.out
                        have hE := EK.out
                        refine ⟨j + (p + 2), vs ++ [⟨2, 0, strB ts⟩], by omega, by rw [EK.out]; go_num, HO4.out, ?_, hs.1, by rw [List.length_append, List.length_singleton]; omega, hb4'⟩
                        intro x hx
                        rcases List.mem_append.1 hx with hx | hx
                        · exact HPl.out x hx
                        · rw [List.mem_singleton.1 hx]; exact HOk.out.2.2.1
                      case measure => have hE := EK.out; simp [intOf]; omega
                    · by_cases hd255 : d = 255
                      · subst hd255
                        have HS := hide (text_step (xs.drop j) ts p 0 2 E1.out E2.out HTs.out ⟨by omega, by omega⟩ (by have := HDD.out 0; rw [Nat.add_zero, Nat.add_zero] at this; rw [this, HDD.out 2, D2.out]; rfl) rfl)
                        have hsum : ¬ (strB ts).size + (strB [0]).size > 9223372036854775807 := by have := HLn.out; rw [strB_size, strB_size, List.length_singleton]; omega
                        have hap := strB_snoc ts [0]
                        go_wp2
                        go_region
                        all_goals
                          go_wp2
                          go_roundw
                          case rel =>
                            obtain ⟨s1, s2, s3⟩ := HS.out
                            rw [← HNn.out]
                            obtain ⟨b0, b1, b2, b3⟩ := box_set (v := .string (strB (ts ++ [0]))) Y0.out Y1.out Y2.out Yf.out
                            have hE := EK.out
                            have hNb : w.heap.size ≤ N := by have := HNn.out; omega
                            exact ⟨kk + 2, p + 2, ts ++ [0], by omega, by omega, by go_num, b0, b1, b2, b3, s1, s2, s3, (HO3.out.setOther (fun hx => HLu.out N hx rfl) _).keep (Below.refl _ _).drew, (hb3.setCell (p := ⟨N, 2, none⟩) hNb _).drew⟩
                          case measure => simp [intOf]; omega
                      · have HNo := hide (of_no xs j vs HX.out HK.out HPl.out (text_no (xs.drop j) ts p E1.out (fun us A h => esc_none us A d _ hd1 hd255 (h.trans (by have := HDD.out 0; rw [Nat.add_zero, Nat.add_zero] at this; rw [this, D2.out])))))
                        have hd1' : (d == 1) = false := by simp [hd1]
                        have hd2' : (d == 255) = false := by simp [hd255]
                        go_wp2
                        go_ret2
                        exact ⟨.inr ⟨rfl, HNo.out⟩, hb3⟩
                  · have hc0' : (c == 0) = false := by simp [hc0]
                    have HS := hide (text_step (xs.drop j) ts p c 1 E1.out E2.out HTs.out ⟨r3, r4⟩ (by have := HDD.out 0; rw [Nat.add_zero, Nat.add_zero] at this; rw [this, HDD.out 1, esc_other hc0]; exact D1.out) (by rw [esc_other hc0]; rfl))
                    have hsum : ¬ (strB ts).size + (strB [c]).size > 9223372036854775807 := by have := HLn.out; rw [strB_size, strB_size, List.length_singleton]; omega
                    have hap := strB_snoc ts [c]
                    go_wp2
                    go_region
                    all_goals
                      go_wp2
                      go_roundw
                      case rel =>
                        obtain ⟨s1, s2, s3⟩ := HS.out
                        rw [← HNn.out]
                        obtain ⟨b0, b1, b2, b3⟩ := box_set (v := .string (strB (ts ++ [c]))) Y0.out Y1.out Y2.out Yf.out
                        have hE := EK.out
                        have hNb : w.heap.size ≤ N := by have := HNn.out; omega
                        exact ⟨kk + 1, p + 1, ts ++ [c], by omega, by omega, by go_num, b0, b1, b2, b3, s1, s2, s3, (HO3.out.setOther (fun hx => HLu.out N hx rfl) _).keep (Below.refl _ _).drew, (hb3.setCell (p := ⟨N, 2, none⟩) hNb _).drew⟩
                      case measure => simp [intOf]; omega
                · clear hx3
                  generalize xs.getD kk 0 = c at *
                  by_cases hc0 : c = 0
                  · subst hc0
                    have HNo := hide (of_no xs j vs HX.out HK.out HPl.out (text_no (xs.drop j) ts p E1.out (fun us A h => esc_short us A _ (by have h1 := HYl.out; have h2 := EK.out; rw [List.length_drop]; omega) h)))
                    go_wp2
                    go_ret2
                    exact ⟨.inr ⟨rfl, HNo.out⟩, hb3⟩
                  · have hc0' : (c == 0) = false := by simp [hc0]
                    have HS := hide (text_step (xs.drop j) ts p c 1 E1.out E2.out HTs.out ⟨r3, r4⟩ (by have := HDD.out 0; rw [Nat.add_zero, Nat.add_zero] at this; rw [this, HDD.out 1, esc_other hc0]; exact D1.out) (by rw [esc_other hc0]; rfl))
                    have hsum : ¬ (strB ts).size + (strB [c]).size > 9223372036854775807 := by have := HLn.out; rw [strB_size, strB_size, List.length_singleton]; omega
                    have hap := strB_snoc ts [c]
                    go_wp2
                    go_region
                    all_goals
                      go_wp2
                      go_roundw
                      case rel =>
                        obtain ⟨s1, s2, s3⟩ := HS.out
                        rw [← HNn.out]
                        obtain ⟨b0, b1, b2, b3⟩ := box_set (v := .string (strB (ts ++ [c]))) Y0.out Y1.out Y2.out Yf.out
                        have hE := EK.out
                        have hNb : w.heap.size ≤ N := by have := HNn.out; omega
                        exact ⟨kk + 1, p + 1, ts ++ [c], by omega, by omega, by go_num, b0, b1, b2, b3, s1, s2, s3, (HO3.out.setOther (fun hx => HLu.out N hx rfl) _).keep (Below.refl _ _).drew, (hb3.setCell (p := ⟨N, 2, none⟩) hNb _).drew⟩
                      case measure => simp [intOf]; omega
              · have HNo := hide (of_no xs j vs HX.out HK.out HPl.out (text_no (xs.drop j) ts p E1.out (fun us A h => esc_short us A _ (by have h1 := HYl.out; have h2 := EK.out; rw [List.length_drop]; omega) h)))
                go_wp2
                go_ret2
                exact ⟨.inr ⟨rfl, HNo.out⟩, hb3⟩
          · have c3' : (c == 3) = false := by simp [c3]
            have HNo := hide (of_no xs j vs HX.out HK.out HPl.out (other_no (xs.drop j) c (by rw [HD1.out]; exact HD.out) c1 c2 c3))
            go_wp2
            go_ret2
            exact ⟨.inr ⟨rfl, HNo.out⟩, hb.alloc hsz _⟩
    · have hjl : j = len := by omega
      subst hjl
      go_wp2
      go_ret2
      refine ⟨.inl ⟨_, vs, rfl, HO.out, HPl.out, ?_⟩, hb⟩
      rw [HK.out, List.take_of_length_le (by rw [HL.out]; exact Nat.le_refl _)]

end Go.Proofs.Ytfihjhcjkgpgfaa
