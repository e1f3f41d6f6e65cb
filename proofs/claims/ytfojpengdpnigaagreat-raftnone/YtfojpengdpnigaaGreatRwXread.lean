/- The reference's Reader: N, I, Text, End. -/
import Derived.Test.YtfojpengdpnigaaGreatRwRead2
namespace Go.Proofs.YtfojpengdpnigaaGreat
open Go.RowKit NumMath
set_option linter.unusedVariables false

theorem pow128_9 : (128 : Nat) ^ 9 = 9223372036854775808 := by decide

/-- a number that was begun with k groups is not small -/
theorem grown_step (k m : Nat) (c : Int) (h1 : 0 ≤ c) (hk : k = 0 ∨ 128 ^ (k - 1) ≤ m) (h0 : k = 0 → ¬ c = 128) (hc : ¬ c < 128) (h2 : c < 256) : 128 ^ k ≤ m * 128 + (c % 128).toNat := by
  rcases hk with h | h
  · subst h
    have := h0 rfl
    rw [Nat.pow_zero]
    omega
  · by_cases hk0 : k = 0
    · subst hk0
      have := h0 rfl
      rw [Nat.pow_zero]
      omega
    · have e : 128 ^ k = 128 ^ (k - 1) * 128 := by rw [← Nat.pow_succ]; congr 1; omega
      rw [e]
      omega

theorem rdN_fst (most : Int) (xs : List Int) (h : numAt xs = none) : rdN most (some xs) = (0, none) := by unfold rdN; dsimp only; rw [h]
theorem rdN_big (most : Int) (xs : List Int) (n : Nat) (r : List Int) (h : numAt xs = some (n, r)) (hm : ¬ (n : Int) ≤ most) : rdN most (some xs) = (0, none) := by unfold rdN; dsimp only; rw [h]; dsimp only; rw [if_neg hm]
theorem rdN_fit (most : Int) (xs : List Int) (n : Nat) (r : List Int) (h : numAt xs = some (n, r)) (hm : (n : Int) ≤ most) : rdN most (some xs) = ((n : Int), some r) := by unfold rdN; dsimp only; rw [h]; dsimp only; rw [if_pos hm]

theorem scan_mul (c : Int) (m : Nat) (h1 : 0 ≤ c) (h2 : c < 256) (hm : m < 144115188075855872) : (m : Int) * 128 + c % 128 = ((m * 128 + (c % 128).toNat : Nat) : Int) := by omega

set_option maxRecDepth 20000 in
set_option maxHeartbeats 2000000 in
theorem xN_any (p q : Nat) (st : Option (List Int)) (most : Int) (w : World) (h : IsR false w p q st) (h1 : 0 ≤ most) (h2 : most ≤ 18446744073709551615) :
    Calls Tryz.prog 163 #[.pointer (some ⟨p, 0, none⟩), .int .u64 most] w fun e w' => e = .returned (.int .u64 (rdN most st).1) ∧ RPost false w p q (rdN most st).2 w' := by
  have H := hide h
  cases st with
  | none =>
    obtain ⟨f0, f1, -, a, len, cap, hc, -, -, e⟩ := h
    cases e
    go_enter Tryz.func163, Tryz.ntmps163
    go_wp2
    go_loopw [6] (fun i wr => i = .int .i64 0 ∧ wr = w) (fun _ _ => 0)
    case atStart => exact ⟨rfl, rfl⟩
    case round =>
      obtain ⟨rfl, rfl⟩ := hrel
      go_wp2_with (first | (go_at_call 182; refine (xfail_any p q none _ H.out).mono ?_; rintro e w2 ⟨rfl, hpost⟩; have HP := hide hpost; clear hpost))
      go_ret
      exact ⟨rfl, HP.out⟩
  | some xs =>
    have hf := h.flag
    simp only [Option.isSome_some, if_true] at hf
    obtain ⟨f0, f1, -, a, len, cap, hc, ha, -, hB⟩ := h
    have HA := hide ha
    have HB := hide hB
    have hlen := hB.1
    have hlc := hB.2.1
    have hmx := hB.2.2.1
    unfold maxLen at hmx
    have HL : Hid (xs.length = len) := hlen
    clear ha hB hlen
    go_enter Tryz.func163, Tryz.ntmps163
    go_wp2
    go_loopw [5, 6] (fun n i wr => ∃ k m : Nat, k ≤ len ∧ k ≤ 10 ∧ i = .int .i64 k ∧ n = .int .u64 m ∧ m < 18446744073709551616 ∧ (k = 0 ∨ 128 ^ (k - 1) ≤ m) ∧ scan (decide (k = 0)) m (xs.drop k) = numAt xs ∧ wr = w) (fun _ i _ => len - (intOf i).toNat)
    case atStart => exact ⟨0, 0, Nat.zero_le _, by omega, rfl, rfl, by omega, .inl rfl, rfl, rfl⟩
    case round =>
      obtain ⟨k, m, hk, hk10, rfl, rfl, hm, hgr, hscan, hw⟩ := hrel
      subst hw
      have HC := hide hscan
      have HG := hide hgr
      clear hscan hgr
      by_cases hlt : k < len
      · obtain ⟨g, off, rfl, hg, hB⟩ := HB.out.at hlt
        have hk' : k < xs.length := by rw [HL.out]; exact hlt
        have hcl := hB k hk'
        have HD := hide (dropAt xs k hk')
        obtain ⟨c1, c2⟩ := HB.out.nth k
        generalize xs.getD k 0 = c at *
        clear hB hk'
        have HQ := hide (HA.out (by omega) _ rfl)
        by_cases h10 : k = 10
        · subst h10
          have HX : Hid (numAt xs = none) := by
            show _ = _
            have h5 := HG.out
            have h6 := pow128_9
            rw [← HC.out, HD.out, scan, if_pos (.inr (by omega))]
          have HY := hide (rdN_fst most xs HX.out)
          go_wp2_with (first | (go_at_call 182; refine (xfail_any p q (some xs) _ H.out).mono ?_; rintro e w2 ⟨rfl, hpost⟩; have HP := hide hpost; clear hpost))
          go_ret
          rw [HY.out]
          exact ⟨rfl, HP.out⟩
        · have hk9 : k < 10 := by omega
          by_cases hb1 : k = 0 ∧ c = 128
          · obtain ⟨rfl, rfl⟩ := hb1
            rw [Nat.add_zero] at hcl
            have HX : Hid (numAt xs = none) := by
              show _ = _
              rw [← HC.out, HD.out, scan, if_pos (.inl ⟨rfl, rfl⟩)]
            have HY := hide (rdN_fst most xs HX.out)
            go_wp2_with (first | (go_at_call 182; refine (xfail_any p q (some xs) _ H.out).mono ?_; rintro e w2 ⟨rfl, hpost⟩; have HP := hide hpost; clear hpost))
            go_ret
            rw [HY.out]
            exact ⟨rfl, HP.out⟩
          · by_cases hb2 : (144115188075855872 : Int) ≤ (m : Int)
            · have HX : Hid (numAt xs = none) := by
                show _ = _
                rw [← HC.out, HD.out, scan, if_pos (.inr (by omega))]
              have HY := hide (rdN_fst most xs HX.out)
              by_cases hk0 : k = 0
              · have hc128 : ¬ c = 128 := fun e => hb1 ⟨hk0, e⟩
                have hcb : (c == 128) = false := by simpa using hc128
                subst hk0
                rw [Nat.add_zero] at hcl
                go_wp2_with (first | (go_at_call 182; refine (xfail_any p q (some xs) _ H.out).mono ?_; rintro e w2 ⟨rfl, hpost⟩; have HP := hide hpost; clear hpost))
                go_ret
                rw [HY.out]
                exact ⟨rfl, HP.out⟩
              · have hkb : ((k : Int) == 0) = false := by simpa using hk0
                go_wp2_with (first | (go_at_call 182; refine (xfail_any p q (some xs) _ H.out).mono ?_; rintro e w2 ⟨rfl, hpost⟩; have HP := hide hpost; clear hpost))
                go_ret
                rw [HY.out]
                exact ⟨rfl, HP.out⟩
            · have HE := hide (scan_mul c m c1 c2 (by omega))
              by_cases hb3 : c < 128
              · have HX : Hid (numAt xs = some (m * 128 + (c % 128).toNat, xs.drop (k + 1))) := by
                  show _ = _
                  rw [← HC.out, HD.out, scan, if_neg, if_pos hb3]
                  rintro (⟨h, h'⟩ | h)
                  · exact hb1 ⟨of_decide_eq_true h, h'⟩
                  · exact hb2 (by omega)
                by_cases hmost : (m : Int) * 128 + c % 128 ≤ most
                · have HY := hide (rdN_fit most xs _ _ HX.out (by have := HE.out; omega))
                  by_cases hk0 : k = 0
                  · have hc128 : ¬ c = 128 := fun e => hb1 ⟨hk0, e⟩
                    have hcb : (c == 128) = false := by simpa using hc128
                    subst hk0
                    rw [Nat.add_zero] at hcl
                    by_cases hcs : cap = 1
                    · have hl1 : len - 1 = 0 := by omega
                      have HP := hide (rpost_set H.out hf (a' := some ⟨g, off, none⟩) (n' := 0) (c' := 0) (xs := xs.drop (1)) (by intro _ x hx; cases hx; exact HQ.out) (by have h := HB.out.drop0 (by omega); rw [hcs, hl1] at h; exact h))
                      go_wp2
                      go_ret
                      rw [HY.out]
                      exact ⟨ret1 HE.out, HP.out⟩
                    · have HP := hide (rpost_set H.out hf (a' := some ⟨g, off + (1), none⟩) (n' := len - (1)) (c' := cap - (1)) (xs := xs.drop (1)) (by intro _ x hx; cases hx; exact HQ.out) (HB.out.drop (1) (by omega)))
                      go_wp2
                      go_ret
                      rw [HY.out]
                      exact ⟨ret1 HE.out, HP.out⟩
                  · have hkb : ((k : Int) == 0) = false := by simpa using hk0
                    by_cases hcs : cap = k + 1
                    · have hl1 : len - (k + 1) = 0 := by omega
                      have HP := hide (rpost_set H.out hf (a' := some ⟨g, off, none⟩) (n' := 0) (c' := 0) (xs := xs.drop (k + 1)) (by intro _ x hx; cases hx; exact HQ.out) (by have h := HB.out.drop0 (by omega); rw [hcs, hl1] at h; exact h))
                      go_wp2
                      go_ret
                      rw [HY.out]
                      exact ⟨ret1 HE.out, HP.out⟩
                    · have HP := hide (rpost_set H.out hf (a' := some ⟨g, off + (k + 1), none⟩) (n' := len - (k + 1)) (c' := cap - (k + 1)) (xs := xs.drop (k + 1)) (by intro _ x hx; cases hx; exact HQ.out) (HB.out.drop (k + 1) (by omega)))
                      go_wp2
                      go_ret
                      rw [HY.out]
                      exact ⟨ret1 HE.out, HP.out⟩
                · have HY := hide (rdN_big most xs _ _ HX.out (by have := HE.out; omega))
                  by_cases hk0 : k = 0
                  · have hc128 : ¬ c = 128 := fun e => hb1 ⟨hk0, e⟩
                    have hcb : (c == 128) = false := by simpa using hc128
                    subst hk0
                    rw [Nat.add_zero] at hcl
                    go_wp2_with (first | (go_at_call 182; refine (xfail_any p q (some xs) _ H.out).mono ?_; rintro e w2 ⟨rfl, hpost⟩; have HP := hide hpost; clear hpost))
                    go_ret
                    rw [HY.out]
                    exact ⟨rfl, HP.out⟩
                  · have hkb : ((k : Int) == 0) = false := by simpa using hk0
                    go_wp2_with (first | (go_at_call 182; refine (xfail_any p q (some xs) _ H.out).mono ?_; rintro e w2 ⟨rfl, hpost⟩; have HP := hide hpost; clear hpost))
                    go_ret
                    rw [HY.out]
                    exact ⟨rfl, HP.out⟩
              · have HX : Hid (scan (decide (k + 1 = 0)) (m * 128 + (c % 128).toNat) (xs.drop (k + 1)) = numAt xs) := by
                  show _ = _
                  rw [← HC.out, HD.out, scan.eq_def (decide (k = 0)) m (c :: xs.drop (k + 1))]
                  dsimp only
                  rw [if_neg, if_neg hb3]
                  · rfl
                  · rintro (⟨h, h'⟩ | h)
                    · exact hb1 ⟨of_decide_eq_true h, h'⟩
                    · exact hb2 (by omega)
                have HGr := hide (grown_step k m c c1 HG.out (fun e e' => hb1 ⟨e, e'⟩) hb3 c2)
                by_cases hk0 : k = 0
                · have hc128 : ¬ c = 128 := fun e => hb1 ⟨hk0, e⟩
                  have hcb : (c == 128) = false := by simpa using hc128
                  subst hk0
                  rw [Nat.add_zero] at hcl
                  go_wp2
                  go_roundw
                  case rel => exact ⟨1, m * 128 + (c % 128).toNat, by omega, by omega, rfl, by rw [HE.out], by omega, .inr HGr.out, HX.out, (by first | rfl | trivial)⟩
                  case measure => simp [intOf]; omega
                · have hkb : ((k : Int) == 0) = false := by simpa using hk0
                  go_wp2
                  go_roundw
                  case rel => exact ⟨k + 1, m * 128 + (c % 128).toNat, by omega, by omega, by go_num, by rw [HE.out], by omega, .inr HGr.out, HX.out, (by first | rfl | trivial)⟩
                  case measure => simp [intOf]; omega
      · have hkl : k = len := by omega
        subst hkl
        have HX : Hid (numAt xs = none) := by
          show _ = _
          rw [← HC.out, List.drop_of_length_le (by rw [HL.out]; exact Nat.le_refl _), scan_nil]
        have HY := hide (rdN_fst most xs HX.out)
        go_wp2_with (first | (go_at_call 182; refine (xfail_any p q (some xs) _ H.out).mono ?_; rintro e w2 ⟨rfl, hpost⟩; have HP := hide hpost; clear hpost))
        go_ret
        rw [HY.out]
        exact ⟨rfl, HP.out⟩

end Go.Proofs.YtfojpengdpnigaaGreat
