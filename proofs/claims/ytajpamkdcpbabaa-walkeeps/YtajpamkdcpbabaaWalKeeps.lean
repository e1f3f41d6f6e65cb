/- For any texts l and m and any int keep plenumlaw07.WalKeeps returns true (of more than 12 texts, or of one of more than 100 bytes, the law itself asks nothing): behind a crash that keeps so many bytes of what is not synced, Open tells all records that were added, and of those that were being added just the first ones whose frames are within these bytes; what was handed in is left as it was. No condition. -/
import Derived.Test.YtajpamkdcpbabaaRows
import Derived.WalkKit
import Derived.ProofKit
import Derived.OpenShut
import Derived.ShutString
import Derived.ChangeOld
import Derived.Below
import Derived.Test.YtajpamkdcpbabaaWl4
import Derived.Deep.RegionHeld
namespace Go.Proofs.Ytajpamkdcpbabaa.walKeeps
open Go.ChangeShapes Go.WideShapes Go.ChangeAt Go.RowKit
open Go.ChangeMaps (open_string shut_string)
set_option linter.unusedVariables false

theorem own : ownKnob Try.prog.godebug = none := by kernel_rfl
theorem laidOut : laidOutB Try.prog = true := by kernel_rfl

open NumMath

/-- how many texts are whole within so many bytes -/
theorem whole (M : List (List Int)) (K : Nat) : ∃ j, j ≤ M.length ∧ (flat (M.take j)).length ≤ K ∧ (j < M.length → K < (flat (M.take (j + 1))).length) := by
  induction M generalizing K with
  | nil => exact ⟨0, Nat.le_refl _, Nat.zero_le _, fun h => by simp at h⟩
  | cons t M ih =>
    by_cases h : K < 8 + t.length
    · exact ⟨0, Nat.zero_le _, Nat.zero_le _, fun _ => by simpa [flat_cons, flat_nil, frL_length] using h⟩
    · obtain ⟨j, h1, h2, h3⟩ := ih (K - (8 + t.length))
      refine ⟨j + 1, by simpa using h1, ?_, fun hj => ?_⟩
      · rw [List.take_succ_cons, flat_cons, List.length_append, frL_length]; omega
      · have := h3 (by simpa using hj)
        rw [List.take_succ_cons, flat_cons, List.length_append, frL_length]; omega

theorem flat_take_mono (M : List (List Int)) (i j : Nat) (h : i ≤ j) : (flat (M.take i)).length ≤ (flat (M.take j)).length := by
  have := flat_take_le (M.take j) i
  rw [List.take_take, Nat.min_eq_left h] at this
  exact this

theorem keeps_all (L M : List (List Int)) (keep : Int) (hL : Texts L) (hM : Texts M) : ∃ j, j ≤ M.length ∧ (flat (M.take j)).length ≤ keep.toNat ∧ (j < M.length → keep.toNat < (flat (M.take (j + 1))).length) ∧
    (∀ X, AllOf (crashL (flat L ++ flat M) (flat L).length keep []) X → X = L ++ M.take j) := by
  obtain ⟨j, h1, h2, h3⟩ := whole M keep.toNat
  refine ⟨j, h1, h2, h3, fun X hX => ?_⟩
  have e : crashL (flat L ++ flat M) (flat L).length keep [] = (flat (L ++ M)).take ((flat L).length + keep.toNat) := by
    unfold crashL
    rw [flat_app]
    simp
  rw [e] at hX
  have ha : ∀ i, (L ++ M).take (L.length + i) = L ++ M.take i := fun i => by rw [List.take_length_add_append]
  have hall := all_cut (L ++ M) ((flat L).length + keep.toNat) (L.length + j) (fun t ht => (List.mem_append.1 ht).elim (hL t) (hM t)) (by rw [List.length_append]; omega)
    (by rw [ha, flat_app, List.length_append]; omega)
    (fun hj => by
      rw [List.length_append] at hj
      have := h3 (by omega)
      rw [Nat.add_assoc, ha, flat_app, List.length_append]; omega)
  rw [ha] at hall
  exact all_one _ _ _ hX hall

set_option maxRecDepth 4000 in
set_option maxHeartbeats 4000000 in
theorem walk (a0 : Option Addr) (len0 cap0 : Nat) (x0 : List (List Int)) (a1 : Option Addr) (len1 cap1 : Nat) (x1 : List (List Int)) (a2 : Int) (w : World) (w0 : IsTexts w a0 len0 cap0 x0) (w1 : IsTexts w a1 len1 cap1 x1) (w2 : (Lit.int .i64 a2).wf = true) :
    Calls Try.prog 5 #[.slice a0 len0 cap0, .slice a1 len1 cap1, .int .i64 a2] w fun e w' => e = .returned (.bool true) ∧ Below w.heap.size w w' := by
  have H0 := hide w0
  have H1 := hide w1
  have hm0 : (len0 : Int) ≤ 9223372036854775807 := by have := w0.2.1; have := w0.2.2.1; unfold maxLen at this; omega
  have hm1 : (len1 : Int) ≤ 9223372036854775807 := by have := w1.2.1; have := w1.2.2.1; unfold maxLen at this; omega
  obtain ⟨n1, n2⟩ := wf_i64 w2
  clear w0 w1 w2
  cases hf0 : fewT x0
  · have HF := hide hf0
    clear hf0
    go_enter Try.func5, Try.ntmps5
    go_wp2_with (first
      | (go_at_call 20; refine (few07_any a0 len0 cap0 x0 _ (H0.out.keep hba)).mono ?_; rw [HF.out]; rintro e w' ⟨rfl, hw⟩; have hw := hw.symm; subst hw)
      | (go_at_call 8; refine (wlawake_any _).mono ?_; rintro e wa ⟨rfl, hba⟩))
    go_ret
    exact ⟨rfl, hba⟩
  cases hf1 : fewT x1
  · have HF := hide hf0
    have HF1 := hide hf1
    clear hf0 hf1
    go_enter Try.func5, Try.ntmps5
    go_wp2_with (first
      | (go_at_call 20; have hq := hf; refine (few07_any a1 len1 cap1 x1 _ (H1.out.keep hba)).mono ?_; rw [HF1.out]; rintro e w' ⟨rfl, hw⟩; have hw := hw.symm; subst hw)
      | (go_at_call 20; refine (few07_any a0 len0 cap0 x0 _ (H0.out.keep hba)).mono ?_; rw [HF.out]; rintro e w' ⟨rfl, hw⟩; have hw := hw.symm; subst hw; have hf := True.intro)
      | (go_at_call 8; refine (wlawake_any _).mono ?_; rintro e wa ⟨rfl, hba⟩))
    go_ret
    exact ⟨rfl, hba⟩
  obtain ⟨hT0, hl0, hq0⟩ := fewT_flat hf0 H0.out.are
  obtain ⟨hT1, hl1, hq1⟩ := fewT_flat hf1 H1.out.are
  have HF := hide hf0
  have HF1 := hide hf1
  have HT0 := hide hT0
  have HT1 := hide hT1
  have HL0 := hide hl0
  have HL1 := hide hl1
  obtain ⟨j, hj, hj1, hj2, hj3⟩ := keeps_all x0 x1 a2 hT0 hT1
  have HJ1 := hide hj1
  have HJ2 := hide hj2
  have HJ3 := hide hj3
  have E1 : Hid (dadd 100000 [] 0 (flat x0) = (0, flat x0, (flat x0).length)) := by
    show _ = _
    unfold dadd
    rw [if_neg (by simp only [List.length_nil]; omega), List.nil_append, List.length_nil, Nat.zero_add]
  have E2 : Hid (dapp 100000 (flat x0) (flat x1) = (0, flat x0 ++ flat x1)) := by
    show _ = _
    unfold dapp
    rw [if_neg (by omega)]
  have HC : Hid ((crashL (flat x0 ++ flat x1) (flat x0).length a2 []).length ≤ 1000000000) := by
    show _ ≤ _
    have := (crashL_length (flat x0 ++ flat x1) (flat x0).length a2 [] (by rw [List.length_append]; omega)).2
    rw [List.length_append] at this
    omega
  have HCA : Hid (AreB (crashL (flat x0 ++ flat x1) (flat x0).length a2 [])) := by
    intro c hc
    unfold crashL at hc
    rcases List.mem_append.1 hc with hc | hc
    · exact (flat_are hT0).app (flat_are hT1) c (List.mem_of_mem_take hc)
    · simp at hc
  have HLL : Hid ((flat x0 ++ flat x1).length ≤ 1000000000) := by show _ ≤ _; rw [List.length_append]; omega
  have HX0 := hide H0.out.1
  have HX1 := hide H1.out.1
  rw [HX1.out] at hj
  have HJ := hide hj
  obtain ⟨n6, hn6⟩ : ∃ n6, n6 = len0 + j := ⟨_, rfl⟩
  have HN6 := hide hn6
  have hk1 : ¬ (n6 : Int) < (len0 : Int) := by omega
  have hk2 : ¬ (len0 : Int) + (len1 : Int) < (n6 : Int) := by omega
  have hk3 : wrap64 ((len0 : Int) + (len1 : Int)) = (len0 : Int) + (len1 : Int) := by unfold wrap64; rw [HX0.out] at hq0; rw [HX1.out] at hq1; omega
  have hk4 : wrap64 ((n6 : Int) - (len0 : Int)) = (j : Int) := by unfold wrap64; rw [HX0.out] at hq0; rw [HX1.out] at hq1; omega
  have HQ0 : Hid (len0 ≤ 12) := by show _ ≤ _; rw [← HX0.out]; exact hq0
  have HQ1 : Hid (len1 ≤ 12) := by show _ ≤ _; rw [← HX1.out]; exact hq1
  clear hf0 hf1 hT0 hT1 hl0 hl1 hq0 hq1 hj hj1 hj2 hj3 hn6
  go_enter Try.func5, Try.ntmps5
  go_wp2_with (first
    | (go_at_call 13; have hq := hb5; go_must (refine (wopen_any wa.heap.size wa.heap.size 100000 _ _ _ HD5.out HCA.out HC.out).mono ?_); rintro e w6 ⟨q6, v6, L, rfl, hL, hO6, hd6, hp6, hw6, hq6, -⟩; have hL := HJ3.out _ hL; subst hL; obtain ⟨a6, n6', c6, rfl, hI6⟩ := hO6.ownT.is; have hn6 : n6 = n6' := HN6.out.trans (by rw [← hI6.1, List.length_append, HX0.out, List.length_take, HX1.out]; have := HJ.out; omega); subst hn6; have HI6 := hide hI6; have hb6 := hb5.trans ((HD5.out.below hp6 hs5).mono hba.size); clear hO6 hd6 hw6 hp6 hI6)
    | (go_at_call 27; go_must (refine (dcrash_any wa.heap.size wa.heap.size 100000 (flat x0 ++ flat x1) (flat x0).length a2 none 0 0 [] _ HD4.out ⟨rfl, .inl rfl⟩ (by decide) HLL.out (by rw [List.length_append]; omega)).mono ?_); rintro e w5 ⟨rfl, hd5, hp5⟩; have HD5 := hide hd5; have hb5 := hb4.trans ((HD4.out.below hp5 hs4).mono hba.size); have hs5 := Nat.le_trans hs4 hp5.size; clear hd5 hp5)
    | (go_at_call 11; go_must (refine (dapp_any wa.heap.size wa.heap.size 100000 (flat x0) (flat x0).length af nf cf (flat x1) _ HDf.out HSf.out (by decide) (by have := HL0.out; omega) (by rw [← HSf.out.1]; have := HL1.out; omega) hsf).mono ?_); rw [E2.out]; rintro e w4 ⟨rfl, hd4, hp4⟩; have HD4 := hide hd4; have hb4 := hbf.trans ((HDf.out.below hp4 hsf).mono hba.size); have hs4 := Nat.le_trans hsf hp4.size; clear hd4 hp4)
    | (go_at_call 26; go_must (refine (xframes_any a1 len1 cap1 x1 _ (H1.out.keep hb3) HT1.out (by have := HL1.out; omega)).mono ?_); rintro e wf ⟨vf, rfl, hOf, hbf⟩; obtain ⟨af, nf, cf, rfl, hSf⟩ := hOf.any; have HSf := hide hSf; have HDf := hide (HD3.out.keep hbf); have hsf := Nat.le_trans hs3 hbf.size; have hbf := hb3.trans (hbf.mono hb3.size); clear hOf hSf)
    | (go_at_call 21; go_must (refine (wadd_any wa.heap.size wa.heap.size 100000 [] 0 q a0 len0 cap0 x0 _ HD2.out HW2.out (H0.out.keep hb2) HT0.out (by have := HL0.out; omega) (by decide) (by decide) hs2).mono ?_); rw [E1.out]; rintro e w3 ⟨rfl, hd3, hp3⟩; have HD3 := hide hd3; have hb3 := hb2.trans ((HD2.out.below hp3 hs2).mono hba.size); have hs3 := Nat.le_trans hs2 hp3.size; clear hd3 hp3)
    | (go_at_call 13; go_must (refine (wopen_any wa.heap.size wa.heap.size 100000 [] 0 _ HD1.out (by intro c hc; cases hc) (by decide)).mono ?_); rintro e w2 ⟨q, v, L, rfl, hL, hO, hd2, hp2, hw2, hq, -⟩; have hL := all_nil hL; subst hL; obtain ⟨a2', n2', c2', rfl⟩ := hO.ownT.form; have HD2 : Hid (IsD w2 wa.heap.size wa.heap.size 100000 [] 0) := hd2; have HW2 := hide hw2; have hs2 := Nat.le_trans hs1 hp2.size; have hb2 := hb1.trans ((HD1.out.below hp2 hs1).mono hba.size); clear hO hd2 hw2 hp2)
    | (go_at_call 9; refine (dnew_any 100000 _).mono ?_; rintro e w1 ⟨rfl, hd1, hb1⟩; have HD1 : Hid (IsD w1 wa.heap.size wa.heap.size 100000 [] 0) := hd1; have hs1 := hb1.size; have hb1 := hba.trans (hb1.mono hba.size); clear hd1)
    | (go_at_call 20; have hq := hf; refine (few07_any a1 len1 cap1 x1 _ (H1.out.keep hba)).mono ?_; rw [HF1.out]; rintro e w' ⟨rfl, hw⟩; have hw := hw.symm; subst hw)
    | (go_at_call 20; refine (few07_any a0 len0 cap0 x0 _ (H0.out.keep hba)).mono ?_; rw [HF.out]; rintro e w' ⟨rfl, hw⟩; have hw := hw.symm; subst hw; have hf := True.intro)
    | (go_at_call 8; refine (wlawake_any _).mono ?_; rintro e wa ⟨rfl, hba⟩))
  go_loop [17, 18] (fun s i => ∃ k : Nat, k ≤ len1 ∧ s = .int .i64 ((flat (x1.take k)).length : Int) ∧ i = .int .i64 k) (fun _ i => len1 - (intOf i).toNat)
  case atStart => exact ⟨0, Nat.zero_le _, rfl, rfl⟩
  case round =>
    obtain ⟨k, hk, rfl, rfl⟩ := hrel
    by_cases hlt : k < len1
    · obtain ⟨g, off, b1, m1, c1, rfl, hg, hc, hI⟩ := (H1.out.keep hb6).at hlt
      have HS : Hid ((flat (x1.take (k + 1))).length = (flat (x1.take k)).length + (8 + m1)) := by
        show _ = _
        rw [flat_take_succ x1 k (by rw [HX1.out]; exact hlt), List.length_append, frL_length, hI.1]
      have hsle : (flat (x1.take k)).length + (8 + m1) ≤ 1296 := by
        have h1 := flat_take_le x1 (k + 1)
        rw [HS.out] at h1
        have := HL1.out
        omega
      have htest : k < j ↔ ((flat (x1.take k)).length : Int) + (8 + (m1 : Int)) ≤ a2 := by
        constructor
        · intro h
          have h1 := flat_take_mono x1 (k + 1) j h
          have h2 := HJ1.out
          rw [HS.out] at h1
          omega
        · intro h
          by_cases hkj : k < j
          · exact hkj
          · exfalso
            have h1 := flat_take_mono x1 (j + 1) (k + 1) (by omega)
            have h2 := HJ2.out (by rw [HX1.out]; omega)
            rw [HS.out] at h1
            omega
      have HTe := hide htest
      clear hI htest
      generalize (flat (x1.take k)).length = s at *
      by_cases hkj : k < j
      · have t1 := HTe.out.1 hkj
        have t2 : decide ((k : Int) < (n6 : Int) - (len0 : Int)) = true := by have := HN6.out; simp; omega
        have t4 : decide ((s : Int) + (8 + (m1 : Int)) ≤ a2) = true := by simp; omega
        go_wp2
        go_round
        case rel => exact ⟨k + 1, by omega, by rw [HS.out]; go_num, by go_num⟩
        case measure => simp [intOf]; omega
      · have t1 : ¬ (s : Int) + (8 + (m1 : Int)) ≤ a2 := fun h => hkj (HTe.out.2 h)
        have t2 : decide ((k : Int) < (n6 : Int) - (len0 : Int)) = false := by have := HN6.out; simp; omega
        have t4 : decide ((s : Int) + (8 + (m1 : Int)) ≤ a2) = false := by simp; omega
        go_wp2
        go_round
        case rel => exact ⟨k + 1, by omega, by rw [HS.out]; go_num, by go_num⟩
        case measure => simp [intOf]; omega
    · have hkl : k = len1 := by omega
      clear hk hlt
      generalize (flat (x1.take k)).length = s at *
      obtain ⟨b7, hcut7, hi7⟩ := isT_cutTo HI6.out len0 (by have := HN6.out; omega) .i64 (len0 : Int) rfl
      rw [List.take_left' HX0.out] at hi7
      obtain ⟨d8, hd8⟩ : ∃ d8, len0 + d8 = c6 := ⟨c6 - len0, by have := HN6.out; have := HI6.out.2.1; omega⟩
      obtain ⟨b8, hcut8, hi8⟩ := isT_cutFrom HI6.out len0 j d8 HN6.out.symm hd8 .i64 (len0 : Int) rfl
      rw [List.drop_left' HX0.out] at hi8
      obtain ⟨b9, hcut9, hi9⟩ := isT_cutTo (H1.out.keep hb6) j HJ.out .i64 ((n6 : Int) - (len0 : Int)) (by have := HN6.out; omega)
      have H7 := hide hi7
      have H8 := hide hi8
      have H9 := hide hi9
      clear hi7 hi8 hi9 hd8 hk1 hk2 hk3 hk4
      have hl1 : ¬ (k : Int) < (len1 : Int) := by omega
      clear hkl
      go_wp2
      go_region_held (fun _ => True) (trivial) (first
        | (go_at_call 18; have hq := hb7; go_must (refine (sameT_self b8 j d8 _ b9 j cap1 _ (H8.out.keep hb7) (H9.out.keep hb7)).mono ?_); rintro e w8 ⟨rfl, hb8⟩)
        | (go_at_call 18; go_must (refine (sameT_self b7 len0 c6 _ a0 len0 cap0 _ (H7.out.keep (Below.refl _ _).drew) (H0.out.keep hb6.drew)).mono ?_); rintro e w7 ⟨rfl, hb7⟩; have hb7 := below_undrew hb7))
      all_goals
        go_wp2
        go_ret
        exact ⟨rfl, hb6.trans ((hb7.trans (hb8.mono hb7.size)).mono hb6.size)⟩

set_option maxRecDepth 100000 in
theorem lifted (os : Os) (started : os.Started) (H : Type) (enc : TypeId × Value → H) :
    ReturnsInHanded {} Try.checked os 5 .any (Rows.walKeepsSpec.pre6 enc Try.prog Try.f5 Rows.walKeepsRow.domain false) (Rows.walKeepsSpec.post enc Try.prog Try.f5 false true false false) := by
  refine returnsInHanded_of_change (C := Try.checked) own started (by kernel_rfl) Try.func5
    (ChangeSpec.witness6 (enc := enc) (C := Try.checked) false ⟨#[], #[.slice none 0 0, .slice none 0 0, .int .i64 0], []⟩ 8 (by kernel_rfl) (by kernel_rfl) (by kernel_rfl) (by kernel_rfl)) ?_
  intro W base args ds gs before hval0 hW hcnd _
  have hval : ∀ (j : Nat) t v, Try.f5.params[j]? = some t → args[j]? = some v → Value.okWide Try.prog W .any base t v := hval0
  have hW' := hW
  obtain ⟨p, q, hA0, hV, rfl, hfz, hnd⟩ := hW
  have hA : DataW.TrodAll enc Try.prog W 0 (fun _ => true) true Try.f5.params.toList args.toList ds p := hA0
  rw [Try.params5] at hA hval
  obtain ⟨v0, vs0, d0, ds0, p0, q0, hargs, rfl, rfl, h0, r0⟩ := trodAll_cons hA
  obtain ⟨v1, vs1, d1, ds1, p1, q1, rfl, rfl, rfl, h1, r1⟩ := trodAll_cons r0
  obtain ⟨v2, vs2, d2, ds2, p2, q2, rfl, rfl, rfl, h2, r2⟩ := trodAll_cons r1
  obtain ⟨rfl, rfl, rfl⟩ := trodAll_nil r2
  obtain rfl : args = #[v0, v1, v2] := by cases args; simp_all
  obtain ⟨rfl, rfl⟩ := trodVars_none hV
  obtain ⟨a0, len0, cap0, rfl⟩ := okWide_slice Try.underlying32 (hval 0 32 v0 rfl rfl)
  have k0 := h0
  have lt0 : ∀ x ∈ p0, x.block < W.heap.size := by obtain ⟨m, hm⟩ := k0; exact DataW.trod_lt m _ _ _ hm
  obtain ⟨x0, w0⟩ : ∃ xs, IsTexts W a0 len0 cap0 xs := by
    obtain ⟨fuel, hf⟩ := h0
    exact open_texts (by simpa [Value.cells] using hf)
  obtain ⟨a1, len1, cap1, rfl⟩ := okWide_slice Try.underlying32 (hval 1 32 v1 rfl rfl)
  have k1 := h1
  have lt1 : ∀ x ∈ p1, x.block < W.heap.size := by obtain ⟨m, hm⟩ := k1; exact DataW.trod_lt m _ _ _ hm
  obtain ⟨x1, w1⟩ : ∃ xs, IsTexts W a1 len1 cap1 xs := by
    obtain ⟨fuel, hf⟩ := h1
    exact open_texts (by simpa [Value.cells] using hf)
  have k2 := h2
  have lt2 : ∀ x ∈ p2, x.block < W.heap.size := by obtain ⟨m, hm⟩ := k2; exact DataW.trod_lt m _ _ _ hm
  obtain ⟨a2, rfl, w2⟩ : ∃ n, v2 = .int .i64 n ∧ (Lit.int .i64 n).wf = true := by
    obtain ⟨n, hn, _, _, hw⟩ := open_int Try.underlying3 (hval 2 3 v2 rfl rfl) h2
    exact ⟨n, hn, hw⟩
  clear hA0 hval0
  refine (walk a0 len0 cap0 x0 a1 len1 cap1 x1 a2 W w0 w1 w2).mono fun e W' ⟨he, bel⟩ => ?_
  subst he
  exact ⟨_, rfl, _, _, _, [], _, [], hW', trodAll_mk1 (shut_bool Try.underlying4 _), (trodAll_cons_mk (Below.trod laidOut (by kernel_rfl) (of_decide_eq_true (by kernel_rfl)) k0 bel lt0) (trodAll_cons_mk (Below.trod laidOut (by kernel_rfl) (of_decide_eq_true (by kernel_rfl)) k1 bel lt1) (trodAll_cons_mk (Below.trod laidOut (by kernel_rfl) (of_decide_eq_true (by kernel_rfl)) k2 bel lt2) trodAll_mk0))), rfl, bel.frame _, fun h => by cases h⟩

theorem over : Rows.walKeepsRow.holds Try.pinned (OpenSpec.ofChange Rows.walKeepsSpec) :=
  OpenClaim.holds_of_wide 5 Try.f5 rfl rfl rfl rfl rfl rfl rfl ⟨rfl, rfl, rfl, rfl, rfl⟩ rfl rfl rfl rfl rfl (by kernel_rfl) Try.func5 (by kernel_rfl)
    (of_decide_eq_true (by kernel_rfl)) (by unfold Func.isWrapper; first | (rw [if_pos (by decide +kernel)]; kernel_rfl) | (rw [if_neg (by decide +kernel)]; exact ⟨rfl, rfl⟩))
    (fun os started H enc _ => lifted os started H enc)

theorem proved : Rows.WalKeepsSaid := over
end Go.Proofs.Ytajpamkdcpbabaa.walKeeps
namespace Go.Proofs.Ytajpamkdcpbabaa
theorem walKeeps_holds : Rows.WalKeepsSaid := walKeeps.proved
#print axioms walKeeps_holds
end Go.Proofs.Ytajpamkdcpbabaa
