/- The reference's Frame and Unframe, by frames in plain lists. -/
import Derived.Test.YtajpamkdcpbabaaFrWalks
import Derived.Deep.RegionHeld
namespace Go.Proofs.Ytajpamkdcpbabaa
open Go.RowKit NumMath
set_option linter.unusedVariables false

theorem strB_inj {xs ys : List Int} (hx : AreB xs) (hy : AreB ys) (h : bytesL xs = bytesL ys) : xs = ys := by
  induction xs generalizing ys with
  | nil => cases ys with
    | nil => rfl
    | cons b s => simp [bytesL] at h
  | cons a r ih => cases ys with
    | nil => simp [bytesL] at h
    | cons b s =>
      simp only [bytesL, List.map_cons, List.cons.injEq] at h
      rw [(byte_eq a b (hx a List.mem_cons_self) (hy b List.mem_cons_self)).1 h.1, ih (fun c hc => hx c (List.mem_cons_of_mem _ hc)) (fun c hc => hy c (List.mem_cons_of_mem _ hc)) h.2]

theorem strB_same {xs ys : List Int} (hx : AreB xs) (hy : AreB ys) : ((strB xs).toList == (strB ys).toList) = decide (xs = ys) := by
  rw [strB_list, strB_list, Bool.eq_iff_iff, beq_iff_eq, decide_eq_true_iff]
  exact ⟨strB_inj hx hy, fun h => by rw [h]⟩

theorem rput_new4 (u : Int) (w : World) (h1 : 0 ≤ u) (h2 : u ≤ 18446744073709551615) :
    Calls Try.prog 47 #[.int .u64 u, .int .i64 4] w fun e w' => ∃ v, e = .returned v ∧ OwnB w' w.heap.size v (putL u 4) ∧ Below w.heap.size w w' := by
  refine (rput_any u 4 w h1 h2 (by decide)).mono ?_
  rintro e w' ⟨v, rfl, hown, hb, -⟩
  exact ⟨v, rfl, by unfold OwnB; rw [putL_length]; exact hown, hb⟩

set_option maxHeartbeats 400000 in
theorem rframe_any (a : Option Addr) (len cap : Nat) (xs : List Int) (w : World) (h : IsBytes w a len cap xs) :
    Calls Try.prog 41 #[.slice a len cap] w fun e w' => ∃ v, e = .returned v ∧ OwnB w' w.heap.size v (frA xs) ∧ Below w.heap.size w w' := by
  have HA : Hid (AreB xs) := h.2.2.2.1
  have HL := hide h.1
  have H := hide h
  have hlc := h.2.1
  have hm : (cap : Int) ≤ 9223372036854775807 := by have := h.2.2.1; unfold maxLen at this; omega
  have hlm : (len : Int) ≤ 9223372036854775807 := by omega
  clear h
  by_cases hbig : (65536 : Int) < (len : Int)
  · have HF : Hid (frA xs = []) := if_pos (by rw [HL.out]; omega)
    go_enter Try.func41, Try.ntmps41
    go_wp2
    go_ret
    exact ⟨_, rfl, by rw [HF.out]; exact ownB_nil _ _, Below.refl _ _⟩
  · have HF : Hid (frA xs = frL xs) := if_neg (by rw [HL.out]; omega)
    have HFL : Hid (frL xs = putL (len : Int) 4 ++ putL (crcSumI (putL (len : Int) 4 ++ xs)) 4 ++ xs) := by show _ = _; unfold frL; rw [HL.out, List.append_assoc]
    obtain ⟨q1, q2⟩ := crcSumI_range (putL (len : Int) 4 ++ xs) ((areB_put _ _).app HA.out)
    have HX : Hid (xs.length ≤ 65536) := by show _ ≤ _; rw [HL.out]; omega
    have HAB : Hid (AreB (putL (len : Int) 4 ++ xs)) := (areB_put _ _).app HA.out
    obtain ⟨q, HQ⟩ : ∃ q, Hid (q = crcSumI (putL (len : Int) 4 ++ xs)) := ⟨_, rfl⟩
    rw [← HQ.out] at HFL q1 q2
    have q3 : q ≤ 18446744073709551615 := by omega
    have q4 : q < 18446744073709551616 := by omega
    have hl2 : (len : Int) ≤ 18446744073709551615 := by omega
    go_enter Try.func41, Try.ntmps41
    go_wp2_with (first
      | (go_at_call 47; have hq := hO3; go_must (with_reducible refine (rput_new4 q _ q1 q3).mono ?_); rintro e w4 ⟨v4, rfl, hO4, hb4⟩; obtain ⟨a4, n4, c4, rfl, hS4⟩ := hO4.any; have hb14 := (hb12.trans hb23).trans (hb4.mono (by omega)); have hO14 := hO1.keep hb14; have hsz4 := hb4.size)
      | (go_at_call 47; with_reducible refine (rput_new4 (len : Int) _ (by omega) hl2).mono ?_; rintro e w1 ⟨v1, rfl, hO1, hb1⟩; obtain ⟨a1, n1, c1, rfl, hS1⟩ := hO1.any; have hsz1 := hb1.size)
      | (at_builtin; have hq := hO5; go_must (refine wp_joinB _ rfl _ _ rfl w.heap.size _ _ rfl hO5 a len cap xs rfl (H.out.keep hb15).src (by have := HX.out; simp [putL_length]; omega) (by have := hb15.size; omega) ?_); intro v6 w6 hO6 hgr6 hat6; have hb6 := hO5.grown hgr6 (by have := hb15.size; omega))
      | (at_builtin; have hq := hO14; go_must (refine wp_joinB _ rfl _ _ rfl w.heap.size _ _ rfl hO14 a4 n4 c4 (putL q 4) rfl hS4 (by simp [putL_length]) (by omega) ?_); intro v5 w5 hO5 hgr5 hat5; have hb15 := (hb1.trans (hb14.mono hsz1)).trans (hO14.grown hgr5 (by omega)))
      | (at_builtin; have hq := hO2; go_must (refine wp_joinB _ rfl _ _ rfl w1.heap.size _ _ rfl hO2 a len cap xs rfl (H.out.keep (hb1.trans (hb12.mono hsz1))).src (by have := HX.out; simp [putL_length]; omega) hsz12 ?_); intro v3 w3 hO3 hgr3 hat3; have hb23 := hO2.grown hgr3 hsz12; have hsz23 := hb23.size; obtain ⟨a3, n3, c3, e3, hI3⟩ := hO3.at HAB.out; subst e3; have HI3 := hide hI3)
      | (at_builtin; go_must (refine wp_joinB _ rfl _ _ rfl w1.heap.size _ [] rfl (ownB_nil _ _) a1 n1 c1 (putL (len : Int) 4) rfl hS1 (by simp [putL_length]) (Nat.le_refl _) ?_); intro v2 w2 hO2 hgr2 hat2; have hb12 := (ownB_nil w1 w1.heap.size).grown hgr2 (Nat.le_refl _); have hsz12 := hb12.size; rw [List.nil_append] at hO2)
      | (go_at_call 48; refine (rsum_any a3 n3 c3 _ _ HI3.out).mono ?_; rw [← HQ.out]; rintro e w' ⟨rfl, hw⟩; have hw := hw.symm; subst hw))
    go_ret
    refine ⟨v6, rfl, ?_, ?_⟩
    · rw [HF.out, HFL.out]
      exact hO6
    · exact hb15.trans hb6

theorem unfr_yes {xs : List Int} {n : Nat} (hA : AreB xs) (h1 : n ≤ 65536) (h2 : 8 + n ≤ xs.length) (e : frL ((xs.drop 8).take n) = xs.take (8 + n)) : unfr xs = some ((xs.drop 8).take n) := by
  have hl : ((xs.drop 8).take n).length = n := by rw [List.length_take, List.length_drop]; omega
  have := unfr_fr ((xs.drop 8).take n) (xs.drop (8 + n)) (by omega) ((hA.drop 8).take n)
  rw [e, List.take_append_drop] at this
  exact this

theorem unfr_no {xs : List Int} {n : Nat} (hA : AreB xs) (hn : ofV (xs.take 4) = (n : Int)) (e : ¬ frL ((xs.drop 8).take n) = xs.take (8 + n)) : unfr xs = none := by
  match hu : unfr xs with
  | none => rfl
  | some t =>
    exfalso
    obtain ⟨h1, h2, h3, h4, h5, h6⟩ := unfr_some hA hu
    have hl : t.length = n := by omega
    rw [hl] at h6 h2
    apply e
    rw [← h6, h2, List.take_append_of_le_length (by rw [frL_length]; omega), List.take_of_length_le (by rw [frL_length]; omega)]

/-- the text at the beginning, where it lay, and its frame's size; or that there is none -/
def UnPost (w : World) (a : Option Addr) (len cap : Nat) (xs : List Int) (e : Ending) (w' : World) : Prop := Below w.heap.size w w' ∧
  ((unfr xs = none ∧ e = .returned (.tuple #[.slice none 0 0, .int .i64 0, .int .i64 50])) ∨
  ∃ t b n c, unfr xs = some t ∧ n = t.length ∧ e = .returned (.tuple #[.slice b n c, .int .i64 (8 + (n : Int)), .int .i64 0]) ∧ ∀ w0, IsBytes w0 a len cap xs → IsBytes w0 b n c t)

set_option maxHeartbeats 4000000 in
theorem runframe_any (a : Option Addr) (len cap : Nat) (xs : List Int) (w : World) (h : IsBytes w a len cap xs) :
    Calls Try.prog 32 #[.slice a len cap] w fun e w' => UnPost w a len cap xs e w' := by
  have H := hide h
  have HL := hide h.1
  have hlc := h.2.1
  have hm : (cap : Int) ≤ 9223372036854775807 := by have := h.2.2.1; unfold maxLen at this; omega
  have HA : Hid (AreB xs) := h.2.2.2.1
  by_cases h8 : len < 8
  · clear h
    have h8' : (len : Int) < 8 := by omega
    have HU := hide (unfr_few (xs := xs) (by rw [HL.out]; exact h8))
    clear h8
    go_enter Try.func32, Try.ntmps32
    go_wp2
    go_ret3
    exact ⟨Below.refl _ _, .inl ⟨HU.out, rfl⟩⟩
  · obtain ⟨b4, hs4, h4b⟩ := isB_cutTo h 4 (by omega) .i64 4 rfl
    have r4 := of4_lt (xs.take 4) (by rw [List.length_take, h.1]; omega) (HA.out.take 4)
    have r4' := ofV_range (xs.take 4)
    obtain ⟨n, hn⟩ := Int.eq_ofNat_of_zero_le r4'.1
    have HN := hide hn
    rw [hn] at r4
    have HC := hide (rnof_any _ _ _ _ w h4b)
    rw [hn] at HC
    clear r4' hn h4b
    have h8' : ¬ (len : Int) < 8 := by omega
    by_cases hbig : (65536 : Int) < (n : Int)
    · have HU := hide (unfr_long (xs := xs) HN.out (.inl (by omega)))
      clear h
      go_enter Try.func32, Try.ntmps32
      go_wp2_with (first
        | (go_at_call 45; refine HC.out.mono ?_; rintro e w' ⟨rfl, hw⟩; have hw := hw.symm; subst hw))
      go_ret3
      exact ⟨Below.refl _ _, .inl ⟨HU.out, rfl⟩⟩
    · by_cases hlong : (len : Int) - 8 < (n : Int)
      · have HU := hide (unfr_long (xs := xs) HN.out (.inr (by rw [HL.out]; omega)))
        clear h
        go_enter Try.func32, Try.ntmps32
        go_wp2_with (first
          | (go_at_call 45; refine HC.out.mono ?_; rintro e w' ⟨rfl, hw⟩; have hw := hw.symm; subst hw))
        go_ret3
        exact ⟨Below.refl _ _, .inl ⟨HU.out, rfl⟩⟩
      · obtain ⟨b8, hs8, h8W⟩ := isB_cut2W (a := a) (xs := xs) hlc 8 n (cap - 8) (by omega) (by omega) .i64 .u64 8 (8 + (n : Int)) rfl (by omega)
        have h8b := h8W w h
        obtain ⟨g, off, ea, hg, hc⟩ := h.at (k := 0) (by omega)
        subst ea
        have htb := isB_head h hg hc (8 + n) cap (by omega) (by omega) h.2.2.1
        have hc0 : (cap = 0) = False := by simp; omega
        have ht8 : (8 + (n : Int)).toNat = 8 + n := by omega
        have hcap8 : 8 + (n : Int) ≤ (cap : Int) := by omega
        have kw : IntKind.u64.wrap (8 + (n : Int)) = 8 + (n : Int) := by rw [IntKind.wrap_u64]; omega
        have H8 := hide h8b
        have H8W := hide h8W
        have HT := hide htb
        have hor : ((65536 : Int) < (n : Int) ∨ (len : Int) - 8 < (n : Int)) = False := by simp; omega
        have HY := hide (unfr_yes (xs := xs) (n := n) HA.out (by omega) (by rw [HL.out]; omega))
        have HNo := hide (unfr_no (xs := xs) HA.out HN.out)
        have hlt : ((xs.drop 8).take n).length = n := by rw [List.length_take, List.length_drop, HL.out]; omega
        have HLT := hide hlt
        have HF : Hid (frA ((xs.drop 8).take n) = frL ((xs.drop 8).take n)) := if_neg (by rw [hlt]; omega)
        have HSt := hide (strB_same (frL_are ((HA.out.drop 8).take n)) (HA.out.take (8 + n)))
        have HFr := hide (fun w h => rframe_any b8 n (cap - 8) ((xs.drop 8).take n) w h)
        rw [HF.out] at HFr
        generalize (xs.drop 8).take n = t at *
        generalize frL t = ft at *
        have q0 := (HT.out.keep (Below.refl w.heap.size w).drew).conv
        clear h hlt h8b h8W htb r4 hc
        cases hq : decide (ft = xs.take (8 + n))
        all_goals
          rw [hq] at HSt
          have hSt := HSt.out
          generalize xs.take (8 + n) = xt at *
          go_enter Try.func32, Try.ntmps32
          go_wp2_with (first
            | (go_at_call 45; refine HC.out.mono ?_; rintro e w' ⟨rfl, hw⟩; have hw := hw.symm; subst hw))
          go_region_held (fun _ => True) (trivial) (first
            | (go_at_call 41; refine (HFr.out _ (H8.out.keep (Below.refl w.heap.size w).drew)).mono ?_; rintro e w6 ⟨v6, rfl, hown6, hb6⟩; have q6 := hown6.holds.conv; have hb6' := below_undrew hb6; have q7 := (HT.out.keep hb6').conv; clear hown6 hb6))
          all_goals
            go_wp2
            go_ret3
            first
              | exact ⟨hb6', .inl ⟨HNo.out (of_decide_eq_false hq), rfl⟩⟩
              | exact ⟨hb6', .inr ⟨t, b8, n, cap - 8, HY.out (of_decide_eq_true hq), HLT.out.symm, rfl, H8W.out⟩⟩

end Go.Proofs.Ytajpamkdcpbabaa
