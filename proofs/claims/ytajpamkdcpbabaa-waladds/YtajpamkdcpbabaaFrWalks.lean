/- frame.Size, sum, first, Put and Of, by frames in plain lists. -/
import Derived.Test.YtajpamkdcpbabaaFrMath
import Derived.Test.YtajpamkdcpbabaaNumB
import Derived.Test.YtajpamkdcpbabaaBytCut
import Derived.Deep.RegionWith
import Derived.BigRegion
namespace Go.Proofs.Ytajpamkdcpbabaa
open Go.RowKit NumMath
set_option linter.unusedVariables false

def sizeI (n : Int) : Int := if n < 0 ∨ 65536 < n then 0 else 8 + n

theorem size_any (n : Int) (w : World) (h1 : -9223372036854775808 ≤ n) (h2 : n ≤ 9223372036854775807) :
    Calls Try.prog 50 #[.int .i64 n] w fun e w' => e = .returned (.int .i64 (sizeI n)) ∧ w' = w := by
  by_cases h0 : n < 0
  · have HJ : Hid (sizeI n = 0) := if_pos (.inl h0)
    go_enter Try.func50, Try.ntmps50
    go_wp2
    go_ret
    exact ⟨ret1 HJ.out.symm, rfl⟩
  · by_cases h6 : 65536 < n
    · have HJ : Hid (sizeI n = 0) := if_pos (.inr h6)
      go_enter Try.func50, Try.ntmps50
      go_wp2
      go_ret
      exact ⟨ret1 HJ.out.symm, rfl⟩
    · have HJ : Hid (sizeI n = 8 + n) := if_neg (by omega)
      go_enter Try.func50, Try.ntmps50
      go_wp2
      go_ret
      exact ⟨ret1 HJ.out.symm, rfl⟩

set_option maxHeartbeats 400000 in
theorem fsum_any (a : Option Addr) (len cap : Nat) (xs : List Int) (b : Option Addr) (m c : Nat) (ys : List Int) (w : World) (h : IsBytes w a len cap xs) (k : IsBytes w b m c ys) :
    Calls Try.prog 52 #[.slice a len cap, .slice b m c] w fun e w' => e = .returned (.int .u32 (crcSumI (xs ++ ys))) ∧ w' = w := by
  have H := hide h
  have K := hide k
  obtain ⟨x1, x2⟩ := crcMI_range xs 4294967295 (by omega) (by omega) h.2.2.2.1
  obtain ⟨y1, y2⟩ := crcMI_range ys (crcMI 4294967295 xs) x1 x2 k.2.2.2.1
  have HX := hide (crc_ones _ y1 y2)
  have HS : Hid (crcSumI (xs ++ ys) = 4294967295 - crcMI (crcMI 4294967295 xs) ys) := by show _ = _; rw [← crcMI_append]; rfl
  clear h k
  generalize hM : crcMI 4294967295 xs = x at *
  have HM := hide hM
  clear hM
  go_enter Try.func52, Try.ntmps52
  go_wp2_with (first
    | (go_at_call_of 55 x; refine (more_any x b m c ys _ x1 x2 K.out).mono ?_; rintro e w' ⟨rfl, hw⟩; have hw := hw.symm; subst hw)
    | (go_at_call 55; refine (more_any 4294967295 a len cap xs _ (by omega) (by omega) H.out).mono ?_; rw [HM.out]; rintro e w' ⟨rfl, hw⟩; have hw := hw.symm; subst hw))
  go_ret
  exact ⟨ret1 (by rw [HS.out, HX.out]), rfl⟩

theorem of4_lt (xs : List Int) (hl : xs.length = 4) (h : AreB xs) : ofV xs < 4294967296 := by
  match xs, hl with
  | [a, b, c, d], _ =>
    have ha := h a (by simp)
    have hb := h b (by simp)
    have hc := h c (by simp)
    have hd := h d (by simp)
    simp only [ofV, List.foldl_cons, List.foldl_nil, ofStep]
    omega

def firstI (xs : List Int) : Int := match unfr xs with
  | none => 0
  | some t => 8 + (t.length : Int)

theorem firstI_none {xs : List Int} (h : unfr xs = none) : firstI xs = 0 := by unfold firstI; rw [h]
theorem firstI_some {xs t : List Int} (h : unfr xs = some t) : firstI xs = 8 + (t.length : Int) := by unfold firstI; rw [h]

theorem unfr_few {xs : List Int} (h : xs.length < 8) : unfr xs = none := if_pos h
theorem unfr_long {xs : List Int} {n : Nat} (hn : ofV (xs.take 4) = (n : Int)) (h : 65536 < n ∨ xs.length < 8 + n) : unfr xs = none := by
  unfold unfr
  split
  · rfl
  · rw [hn, if_pos (by omega)]
theorem unfr_bad {xs : List Int} {n : Nat} (hn : ofV (xs.take 4) = (n : Int)) (h : ofV ((xs.drop 4).take 4) ≠ crcSumI (xs.take 4 ++ (xs.drop 8).take n)) : unfr xs = none := by
  unfold unfr
  rw [hn, Int.toNat_natCast]
  split
  · rfl
  · split
    · rfl
    · first | rfl | rw [if_neg h]
theorem unfr_good {xs : List Int} {n : Nat} (hn : ofV (xs.take 4) = (n : Int)) (h1 : n ≤ 65536) (h2 : 8 + n ≤ xs.length) (h : ofV ((xs.drop 4).take 4) = crcSumI (xs.take 4 ++ (xs.drop 8).take n)) : unfr xs = some ((xs.drop 8).take n) := by
  unfold unfr
  rw [hn, Int.toNat_natCast, if_neg (by omega), if_neg (by omega), if_pos h]

set_option maxHeartbeats 2000000 in
theorem first_any (a : Option Addr) (len cap : Nat) (xs : List Int) (w : World) (h : IsBytes w a len cap xs) :
    Calls Try.prog 49 #[.slice a len cap] w fun e w' => e = .returned (.int .i64 (firstI xs)) ∧ w' = w := by
  have H := hide h
  have HL := hide h.1
  have hlc := h.2.1
  have hm : (cap : Int) ≤ 9223372036854775807 := by have := h.2.2.1; unfold maxLen at this; omega
  have HM := hide h.2.2.1
  by_cases h8 : len < 8
  · clear h
    have h8' : (len : Int) < 8 := by omega
    have HF : Hid (firstI xs = 0) := firstI_none (unfr_few (by rw [HL.out]; exact h8))
    clear h8
    go_enter Try.func49, Try.ntmps49
    go_wp2
    go_ret
    exact ⟨ret1 HF.out.symm, rfl⟩
  · obtain ⟨g, off, rfl, hg, hc⟩ := h.at (k := 0) (by omega)
    have HA : Hid (AreB xs) := h.2.2.2.1
    have H4 := hide (isB_head h hg hc 4 4 (by omega) (by omega) (by unfold maxLen; omega))
    have H44 := hide (isB_part h hg hc 4 4 4 (by omega) (by omega) (by unfold maxLen; omega))
    have r4 := of4_lt (xs.take 4) (by rw [List.length_take, h.1]; omega) (HA.out.take 4)
    have r4' := ofV_range (xs.take 4)
    have r44 := of4_lt ((xs.drop 4).take 4) (by rw [List.length_take, List.length_drop, h.1]; omega) ((HA.out.drop 4).take 4)
    have r44' := (ofV_range ((xs.drop 4).take 4)).1
    obtain ⟨n, hn⟩ := Int.eq_ofNat_of_zero_le r4'.1
    have HN := hide hn
    rw [hn] at r4
    clear r4' hn
    have HC := hide (nof_any _ 4 4 _ w H4.out)
    rw [HN.out] at HC
    have HC2 := hide (nof_any _ 4 4 _ w H44.out)
    have h8' : ¬ (len : Int) < 8 := by omega
    by_cases hbig : (65536 : Int) < (n : Int)
    · have HF : Hid (firstI xs = 0) := firstI_none (unfr_long HN.out (.inl (by omega)))
      have HZ : Hid (sizeI (n : Int) = 0) := if_pos (.inr (by omega))
      clear h hc
      go_enter Try.func49, Try.ntmps49
      go_wp2_with (first
        | (go_at_call 54; refine HC.out.mono ?_; rintro e w' ⟨rfl, hw⟩; have hw := hw.symm; subst hw; have hq1 : True := trivial)
        | (go_at_call 50; refine (size_any n _ (by omega) (by omega)).mono ?_; rw [HZ.out]; rintro e w' ⟨rfl, hw⟩; have hw := hw.symm; subst hw))
      go_ret
      exact ⟨ret1 HF.out.symm, rfl⟩
    · have HZ : Hid (sizeI (n : Int) = 8 + n) := if_neg (by omega)
      have hz0 : ((8 + (n : Int)) == 0) = false := by simp; omega
      by_cases hlong : (len : Int) < 8 + (n : Int)
      · have HF : Hid (firstI xs = 0) := firstI_none (unfr_long HN.out (.inr (by rw [HL.out]; omega)))
        clear h hc
        go_enter Try.func49, Try.ntmps49
        go_wp2_with (first
          | (go_at_call 54; refine HC.out.mono ?_; rintro e w' ⟨rfl, hw⟩; have hw := hw.symm; subst hw; have hq1 : True := trivial)
          | (go_at_call 50; refine (size_any n _ (by omega) (by omega)).mono ?_; rw [HZ.out]; rintro e w' ⟨rfl, hw⟩; have hw := hw.symm; subst hw))
        go_ret
        exact ⟨ret1 HF.out.symm, rfl⟩
      · obtain ⟨b8, hsl, h8b⟩ := isB_cut3 h 8 n n (by omega) (Nat.le_refl _) (by omega) 8 (8 + (n : Int)) (8 + (n : Int)) rfl (by omega) (by omega)
        have HB := hide (unfr_bad (xs := xs) HN.out)
        have HG := hide (unfr_good (xs := xs) HN.out (by omega) (by rw [HL.out]; omega))
        have hlt : ((xs.drop 8).take n).length = n := by rw [List.length_take, List.length_drop, HL.out]; omega
        have HLT := hide hlt
        clear hlt h hc
        have HS2 := hide (fsum_any _ 4 4 _ b8 n n _ w H4.out h8b)
        clear h8b
        obtain ⟨q, HQ⟩ : ∃ q, Hid (q = crcSumI (xs.take 4 ++ (xs.drop 8).take n)) := ⟨_, rfl⟩
        rw [← HQ.out] at HS2 HB HG
        obtain ⟨p, HP⟩ : ∃ p, Hid (p = ofV ((xs.drop 4).take 4)) := ⟨_, rfl⟩
        rw [← HP.out] at HC2 HB HG r44 r44'
        have hd : ∀ b : Bool, (p != q) = b → (if b = true then firstI xs = 0 else firstI xs = 8 + (n : Int)) := by
          intro b hb
          cases b
          · rw [if_neg (by simp)]
            rw [bne_eq_false_iff_eq] at hb
            rw [firstI_some (HG.out hb), HLT.out]
          · rw [if_pos rfl]
            exact firstI_none (HB.out (bne_iff_ne.1 hb))
        have HD := hide hd
        clear hd
        have hx : (↑len < 8 + (n : Int)) = False := by simp; omega
        cases hpq : (p != q)
        all_goals
          have HF := hide (HD.out _ hpq)
          go_enter Try.func49, Try.ntmps49
          go_wp2_with (first
            | (go_at_call 54; have hq2 := hq1; refine HC2.out.mono ?_; rintro e w' ⟨rfl, hw⟩; have hw := hw.symm; subst hw)
            | (go_at_call 54; refine HC.out.mono ?_; rintro e w' ⟨rfl, hw⟩; have hw := hw.symm; subst hw; have hq1 : True := trivial)
            | (go_at_call 50; refine (size_any n _ (by omega) (by omega)).mono ?_; rw [HZ.out]; rintro e w' ⟨rfl, hw⟩; have hw := hw.symm; subst hw)
            | (go_at_call 52; go_loud (refine HS2.out.mono ?_); rintro e w' ⟨rfl, hw⟩; have hw := hw.symm; subst hw))
          go_ret
          exact ⟨ret1 HF.out.symm, rfl⟩

/-- the text at the beginning, in memory of its own, and its frame's size; or that there is none -/
def OfPost (w : World) (xs : List Int) (e : Ending) (w' : World) : Prop :=
  (unfr xs = none ∧ e = .returned (.tuple #[.slice none 0 0, .int .i64 0, .int .i64 50]) ∧ w' = w) ∨
  ∃ t v, unfr xs = some t ∧ e = .returned (.tuple #[v, .int .i64 (8 + (t.length : Int)), .int .i64 0]) ∧ OwnB w' w.heap.size v t ∧ Below w.heap.size w w'

set_option maxHeartbeats 2000000 in
theorem frof_any (a : Option Addr) (len cap : Nat) (xs : List Int) (w : World) (h : IsBytes w a len cap xs) :
    Calls Try.prog 44 #[.slice a len cap] w fun e w' => OfPost w xs e w' := by
  have HA : Hid (AreB xs) := h.2.2.2.1
  have HL := hide h.1
  have H := hide h
  have hlc := h.2.1
  have hm : (cap : Int) ≤ 9223372036854775807 := by have := h.2.2.1; unfold maxLen at this; omega
  match hu : unfr xs with
  | none =>
    have HF := hide (firstI_none hu)
    have HU := hide hu
    clear h hu
    go_enter Try.func44, Try.ntmps44
    go_wp2_with (first
      | (go_at_call 49; refine (first_any a len cap xs _ H.out).mono ?_; rw [HF.out]; rintro e w' ⟨rfl, hw⟩; have hw := hw.symm; subst hw))
    go_ret3
    exact .inl ⟨HU.out, rfl, rfl⟩
  | some t =>
    have HF := hide (firstI_some hu)
    obtain ⟨t1, -, -, t4, -, t6⟩ := unfr_some HA.out hu
    rw [HL.out] at t4
    have HU := hide hu
    obtain ⟨b8, hsl, h8b⟩ := isB_cut3 h 8 t.length t.length t4 (Nat.le_refl _) (by omega) 8 (8 + (t.length : Int)) (8 + (t.length : Int)) rfl (by omega) (by omega)
    rw [← t6] at h8b
    have H8 := hide h8b.src
    have HT1 : Hid (t.length ≤ 1000000000) := Nat.le_trans t1 (by omega)
    have hz0 : ((8 + (t.length : Int)) == 0) = false := by simp; omega
    clear h hu h8b t6
    obtain ⟨n, HN⟩ : ∃ n, Hid (n = t.length) := ⟨_, rfl⟩
    rw [← HN.out] at HF H8 hsl t1 t4 hz0 HT1
    go_enter Try.func44, Try.ntmps44
    go_wp2_with (first
      | (go_at_call 49; refine (first_any a len cap xs _ H.out).mono ?_; rw [HF.out]; rintro e w' ⟨rfl, hw⟩; have hw := hw.symm; subst hw)
      | (go_at_call 35; refine (clone_src b8 n n t _ H8.out HT1.out).mono ?_; rintro e w1 ⟨v1, rfl, hown1, hb1⟩))
    go_ret3
    exact .inr ⟨t, v1, HU.out, by rw [← HN.out]; rfl, hown1, hb1⟩

def frA (xs : List Int) : List Int := if 65536 < xs.length then [] else frL xs

set_option maxHeartbeats 2000000 in
theorem frput_any (a : Option Addr) (len cap : Nat) (xs : List Int) (w : World) (h : IsBytes w a len cap xs) :
    Calls Try.prog 46 #[.slice a len cap] w fun e w' => ∃ v, e = .returned v ∧ OwnB w' w.heap.size v (frA xs) ∧ Below w.heap.size w w' := by
  have HA : Hid (AreB xs) := h.2.2.2.1
  have HL := hide h.1
  have H := hide h
  have hlc := h.2.1
  have hm : (cap : Int) ≤ 9223372036854775807 := by have := h.2.2.1; unfold maxLen at this; omega
  have hlm : (len : Int) ≤ 9223372036854775807 := by omega
  clear h
  by_cases hbig : (65536 : Int) < (len : Int)
  · have HZ : Hid (sizeI (len : Int) = 0) := if_pos (.inr hbig)
    have HF : Hid (frA xs = []) := if_pos (by rw [HL.out]; omega)
    go_enter Try.func46, Try.ntmps46
    go_wp2_with (first
      | (go_at_call 50; refine (size_any len _ (by omega) (by omega)).mono ?_; rw [HZ.out]; rintro e w' ⟨rfl, hw⟩; have hw := hw.symm; subst hw))
    go_ret
    exact ⟨_, rfl, by rw [HF.out]; exact ownB_nil _ _, Below.refl _ _⟩
  · have HZ : Hid (sizeI (len : Int) = ((8 + len : Nat) : Int)) := by show _ = _; rw [show sizeI (len : Int) = 8 + (len : Int) from if_neg (by omega)]; omega
    have HF : Hid (frA xs = frL xs) := if_neg (by rw [HL.out]; omega)
    have HFL : Hid (frL xs = putL (len : Int) 4 ++ putL (crcSumI (putL (len : Int) 4 ++ xs)) 4 ++ xs) := by show _ = _; unfold frL; rw [HL.out, List.append_assoc]
    obtain ⟨q1, q2⟩ := crcSumI_range (putL (len : Int) 4 ++ xs) ((areB_put _ _).app HA.out)
    have hz0 : (((8 + len : Nat) : Int) == 0) = false := by simp; omega
    obtain ⟨C, hC, hmk⟩ := made_bytes (8 + len) (by omega)
    have HC := hide hC
    have HZ2 : Hid (8 + len ≤ 1000000000) := by show _ ≤ _; omega
    have HX : Hid (xs.length ≤ 65536) := by show _ ≤ _; rw [HL.out]; omega
    clear hC
    obtain ⟨q, HQ⟩ : ∃ q, Hid (q = crcSumI (putL (len : Int) 4 ++ xs)) := ⟨_, rfl⟩
    rw [← HQ.out] at HFL q1 q2
    generalize 8 + len = z at *
    have q3 : q ≤ 18446744073709551615 := by omega
    have q4 : q < 18446744073709551616 := by omega
    go_enter Try.func46, Try.ntmps46
    go_wp2_with (first
      | (go_at_call 50; refine (size_any len _ (by omega) (by omega)).mono ?_; rw [HZ.out]; rintro e w' ⟨rfl, hw⟩; have hw := hw.symm; subst hw)
      | (go_at_call 51; have hq := hb3; go_must (with_reducible refine (put_new4 q _ q1 q3).mono ?_); rintro e w4 ⟨g4, rfl, hg4a, hg4b, hB4, hb4, -⟩; have hO4 := hO3.keep hb4; have hsz4 := hb4.size)
      | (go_at_call 51; refine (put_new4 (len : Int) _ (by omega) (by omega)).mono ?_; rintro e w1 ⟨g1, rfl, hg1a, hg1b, hB1, hb1, -⟩; have hsz1 := hb1.size; have hO2 := ownB_made w1 w1.heap.size z C HC.out HZ2.out (Nat.le_refl _))
      | (at_builtin; have hq := hO5; go_must (refine wp_joinB _ rfl _ _ rfl w1.heap.size _ _ rfl hO5 a len cap xs rfl (H.out.keep (hb1.trans (hb5.mono hsz1))).src (by have := HX.out; simp [putL_length]; omega) (by have := hb5.size; omega) ?_); intro v6 w6 hO6 hgr6 hat6; have hb6 := hO5.grown hgr6 (by have := hb5.size; omega))
      | (at_builtin; have hq := hO4; go_must (refine wp_joinB _ rfl _ _ rfl w1.heap.size _ _ rfl hO4 (some ⟨g4, 0, none⟩) 4 4 (putL q 4) rfl ⟨putL_length _ _, .inr ⟨g4, 0, rfl, hg4b, fun i hi => by rw [Nat.zero_add]; exact hB4 i hi⟩⟩ (by simp [putL_length]) (by have := hb3.size; omega) ?_); intro v5 w5 hO5 hgr5 hat5; have hb5 := (hb3.trans (hb4.mono (by have := hb3.size; omega))).trans (hO4.grown hgr5 (by have := hb3.size; omega)))
      | (at_builtin; go_must (refine wp_joinB _ rfl _ _ rfl w1.heap.size _ [] rfl hO2 (some ⟨g1, 0, none⟩) 4 4 (putL (len : Int) 4) rfl ⟨putL_length _ _, .inr ⟨g1, 0, rfl, by simp; omega, fun i hi => by rw [Nat.zero_add]; exact (hB1.below (new_below w1 _) hg1b) i hi⟩⟩ (by simp [putL_length]) (by simp) ?_); intro v3 w3 hO3 hgr3 hat3; have hb3 := (new_below w1 _).trans (hO2.grown hgr3 (by simp)); have HI3 := hide (show IsBytes w3 (some ⟨g1, 0, none⟩) 4 4 (putL (len : Int) 4) from ⟨putL_length _ _, by omega, by unfold maxLen; omega, putL_range _ _, .inr ⟨g1, 0, rfl, by have := hb3.size; omega, fun i hi => by rw [Nat.zero_add]; exact (hB1.below hb3 hg1b) i hi⟩⟩))
      | (go_at_call 52; refine (fsum_any _ 4 4 _ a len cap xs _ HI3.out (H.out.keep (hb1.trans (hb3.mono hsz1)))).mono ?_; rw [← HQ.out]; rintro e w' ⟨rfl, hw⟩; have hw := hw.symm; subst hw))
    go_ret
    refine ⟨v6, rfl, ?_, ?_⟩
    · rw [HF.out, HFL.out]
      exact hO6.mono hsz1
    · exact hb1.trans ((hb5.trans hb6).mono hsz1)

end Go.Proofs.Ytajpamkdcpbabaa
