/- The Reader's N, I, Text, Value, Left, End; Read. -/
import Derived.Test.YtfojpengdpnigaaGreatRwReader
namespace Go.Proofs.YtfojpengdpnigaaGreat
open Go.RowKit NumMath
set_option linter.unusedVariables false

theorem num_split {xs : List Int} {n : Nat} {r : List Int} (hr : ∀ c ∈ xs, 0 ≤ c ∧ c < 256) (h : numAt xs = some (n, r)) : ∃ s : Nat, 1 ≤ s ∧ s ≤ xs.length ∧ r = xs.drop s ∧ fstS xs = (s : Int) ∧ fstN xs = (n : Int) ∧ n < 18446744073709551616 := by
  obtain ⟨e, hn⟩ := scan_inv hr h
  refine ⟨(numN n).length, ?_, ?_, ?_, ?_, ?_, hn⟩
  · unfold numN; rw [List.length_append]; simp only [List.length_singleton]; omega
  · rw [e, List.length_append]; omega
  · rw [e, List.drop_left]
  · unfold fstS; rw [h]; dsimp only; rw [e, List.length_append]; omega
  · unfold fstN; rw [h]

theorem IsBytes.drop {w : World} {g off len cap : Nat} {xs : List Int} (h : IsBytes w (some ⟨g, off, none⟩) len cap xs) (s : Nat) (hs : s ≤ len) : IsBytes w (some ⟨g, off + s, none⟩) (len - s) (cap - s) (xs.drop s) := by
  obtain ⟨h1, h2, h3, h4, h5⟩ := h
  refine ⟨by rw [List.length_drop, h1], by omega, by omega, fun c hc => h4 c (List.mem_of_mem_drop hc), ?_⟩
  rcases h5 with h5 | ⟨g', off', e, hg, hB⟩
  · exact .inl (by omega)
  · cases e
    refine .inr ⟨g, off + s, rfl, hg, ?_⟩
    intro i hi
    rw [List.length_drop] at hi
    have := hB (s + i) (by omega)
    rw [Nat.add_assoc, this]
    simp [List.getD]

theorem IsBytes.drop0 {w : World} {g off len cap : Nat} {xs : List Int} (h : IsBytes w (some ⟨g, off, none⟩) len cap xs) (hs : cap ≤ len) : IsBytes w (some ⟨g, off, none⟩) (len - cap) 0 (xs.drop cap) := by
  obtain ⟨h1, h2, h3, h4, h5⟩ := h
  exact ⟨by rw [List.length_drop, h1], by omega, by unfold maxLen; omega, fun c hc => h4 c (List.mem_of_mem_drop hc), .inl (by omega)⟩

theorem SrcB.take {w : World} {g off len cap : Nat} {xs : List Int} (h : IsBytes w (some ⟨g, off, none⟩) len cap xs) (s : Nat) (hs : s ≤ len) : SrcB w (some ⟨g, off, none⟩) s (xs.take s) := by
  obtain ⟨h1, h2, h3, h4, h5⟩ := h
  refine ⟨by rw [List.length_take, h1]; omega, ?_⟩
  rcases h5 with h5 | ⟨g', off', e, hg, hB⟩
  · exact .inl (by omega)
  · cases e
    refine .inr ⟨g, off, rfl, hg, ?_⟩
    intro i hi
    rw [List.length_take] at hi
    rw [hB i (by omega)]
    have hi' : i < s := by omega
    simp [List.getD, hi']

set_option maxHeartbeats 1000000 in
theorem rdN_any (p q : Nat) (st : Option (List Int)) (most : Int) (w : World) (h : IsR true w p q st) (h1 : 0 ≤ most) (h2 : most ≤ 18446744073709551615) :
    Calls Tryz.prog 160 #[.pointer (some ⟨p, 0, none⟩), .int .u64 most] w fun e w' => e = .returned (.int .u64 (rdN most st).1) ∧ RPost true w p q (rdN most st).2 w' := by
  have H := hide h
  cases st with
  | none =>
    clear h
    go_enter Tryz.func160, Tryz.ntmps160
    go_wp2_with (first | (go_at_call 179; refine (fine_any p q none _ H.out).mono ?_; rintro e w' ⟨rfl, hw⟩; have hw := hw.symm; subst hw))
    go_ret
    exact ⟨rfl, RPost.refl H.out⟩
  | some xs =>
    have hf := h.flag
    simp only [Option.isSome_some, if_true] at hf
    obtain ⟨f0, f1, -, a, len, cap, hc, ha, -, hB⟩ := h
    have HA := hide ha
    have HB := hide hB
    clear ha
    cases hn : numAt xs with
    | none =>
      have HX : Hid (rdN most (some xs) = (0, none)) := by show _ = _; unfold rdN; dsimp only; rw [hn]
      have e1 : fstN xs = 0 := by unfold fstN; rw [hn]
      have e2 : fstS xs = 0 := by unfold fstS; rw [hn]
      have HFst := hide (rowfirst_any a len cap xs w hB)
      rw [e1, e2] at HFst
      clear hB hn e1 e2
      go_enter Tryz.func160, Tryz.ntmps160
      go_wp2_with (first
        | (go_at_call 179; refine (fine_any p q (some xs) _ H.out).mono ?_; rintro e w' ⟨rfl, hw⟩; have hw := hw.symm; subst hw)
        | (go_at_call 180; refine HFst.out.mono ?_; rintro e w' ⟨rfl, hw⟩; have hw := hw.symm; subst hw)
        | (go_at_call 181; refine (fail_any p q (some xs) _ H.out).mono ?_; rintro e w2 ⟨rfl, hpost⟩; have HP := hide hpost; clear hpost))
      go_ret
      rw [HX.out]
      exact ⟨rfl, HP.out⟩
    | some nr =>
      obtain ⟨n, r⟩ := nr
      obtain ⟨s, hs1, hs2, hr, e2, e1, hn64⟩ := num_split hB.2.2.2.1 hn
      have HFst := hide (rowfirst_any a len cap xs w hB)
      rw [e1, e2] at HFst
      have hlen := hB.1
      have hlc := hB.2.1
      have hmx := hB.2.2.1
      unfold maxLen at hmx
      have hsl : s ≤ len := by omega
      by_cases hmost : (n : Int) ≤ most
      · have HX : Hid (rdN most (some xs) = ((n : Int), some r)) := by show _ = _; unfold rdN; dsimp only; rw [hn]; dsimp only; rw [if_pos hmost]
        obtain ⟨g, off, rfl, hg, -⟩ := hB.at (k := 0) (by omega)
        have HQ := hide (HA.out (by omega) _ rfl)
        by_cases hcs : cap = s
        · subst hcs
          have hs0 : ((cap : Int) == 0) = false := by simp; omega
          have HP := hide (rpost_set H.out hf (a' := some ⟨g, off, none⟩) (n' := 0) (c' := 0) (xs := r) (by intro _ x hx; cases hx; exact HQ.out) (by rw [hr]; have h := hB.drop0 hsl; rw [show len - cap = 0 by omega] at h; exact h))
          clear hB hn e1 e2 hr hlen
          go_enter Tryz.func160, Tryz.ntmps160
          go_wp2_with (first
            | (go_at_call 179; refine (fine_any p q (some xs) _ H.out).mono ?_; rintro e w' ⟨rfl, hw⟩; have hw := hw.symm; subst hw)
            | (go_at_call 180; refine HFst.out.mono ?_; rintro e w' ⟨rfl, hw⟩; have hw := hw.symm; subst hw))
          go_ret
          rw [HX.out]
          exact ⟨rfl, HP.out⟩
        · have hs0 : ((s : Int) == 0) = false := by simp; omega
          have HP := hide (rpost_set H.out hf (a' := some ⟨g, off + s, none⟩) (n' := len - s) (c' := cap - s) (xs := r) (by intro _ x hx; cases hx; exact HQ.out) (by rw [hr]; exact hB.drop s hsl))
          clear hB hn e1 e2 hr hlen
          go_enter Tryz.func160, Tryz.ntmps160
          go_wp2_with (first
            | (go_at_call 179; refine (fine_any p q (some xs) _ H.out).mono ?_; rintro e w' ⟨rfl, hw⟩; have hw := hw.symm; subst hw)
            | (go_at_call 180; refine HFst.out.mono ?_; rintro e w' ⟨rfl, hw⟩; have hw := hw.symm; subst hw))
          go_ret
          rw [HX.out]
          exact ⟨rfl, HP.out⟩
      · have HX : Hid (rdN most (some xs) = (0, none)) := by show _ = _; unfold rdN; dsimp only; rw [hn]; dsimp only; rw [if_neg hmost]
        clear hB hn e1 e2 hr hlen
        go_enter Tryz.func160, Tryz.ntmps160
        go_wp2_with (first
          | (go_at_call 179; refine (fine_any p q (some xs) _ H.out).mono ?_; rintro e w' ⟨rfl, hw⟩; have hw := hw.symm; subst hw)
          | (go_at_call 180; refine HFst.out.mono ?_; rintro e w' ⟨rfl, hw⟩; have hw := hw.symm; subst hw)
          | (go_at_call 181; refine (fail_any p q (some xs) _ H.out).mono ?_; rintro e w2 ⟨rfl, hpost⟩; have HP := hide hpost; clear hpost))
        go_ret
        rw [HX.out]
        exact ⟨rfl, HP.out⟩

theorem rdN_range (most : Int) (st : Option (List Int)) (hb : Byt st) (h1 : 0 ≤ most) : 0 ≤ (rdN most st).1 ∧ (rdN most st).1 ≤ most ∧ Byt (rdN most st).2 := by
  cases st with
  | none => exact ⟨Int.le_refl _, h1, by intro xs h; cases h⟩
  | some xs =>
    unfold rdN
    dsimp only
    cases hn : numAt xs with
    | none => exact ⟨Int.le_refl _, h1, by intro xs h; cases h⟩
    | some nr =>
      obtain ⟨n, r⟩ := nr
      dsimp only
      by_cases hm : (n : Int) ≤ most
      · rw [if_pos hm]
        refine ⟨by dsimp only; omega, hm, ?_⟩
        intro ys hy c hc
        cases hy
        obtain ⟨s, _, _, hr, _⟩ := num_split (hb xs rfl) hn
        rw [hr] at hc
        exact hb xs rfl c (List.mem_of_mem_drop hc)
      · rw [if_neg hm]
        exact ⟨Int.le_refl _, h1, by intro xs h; cases h⟩

theorem IsR.byt {good : Bool} {w : World} {p q : Nat} {st : Option (List Int)} (h : IsR good w p q st) : Byt st := by
  obtain ⟨f0, f1, -, b, m, d, hc, _, hs⟩ := h
  intro xs hx
  subst hx
  exact hs.2.2.2.2.1

set_option maxHeartbeats 400000 in
theorem rdI_any (p q : Nat) (st : Option (List Int)) (w : World) (h : IsR true w p q st) :
    Calls Tryz.prog 183 #[.pointer (some ⟨p, 0, none⟩)] w fun e w' => e = .returned (.int .i64 (rdI st).1) ∧ RPost true w p q (rdI st).2 w' := by
  have H := hide h
  obtain ⟨r1, r2, -⟩ := rdN_range 18446744073709551615 st h.byt (by omega)
  clear h
  unfold rdI
  dsimp only
  have HC := hide (fun w h => rdN_any p q st 18446744073709551615 w h (by omega) (by omega))
  generalize rdN 18446744073709551615 st = ns at *
  obtain ⟨n, s⟩ := ns
  dsimp only at *
  go_enter Tryz.func183, Tryz.ntmps183
  go_wp2_with (first
    | (go_at_call 160; refine (HC.out _ H.out).mono ?_; rintro e w2 ⟨rfl, hpost⟩; have HP := hide hpost; clear hpost)
    | (go_at_call 191; refine (zag_any n _ r1 r2).mono ?_; rintro e w' ⟨rfl, hw⟩; have hw := hw.symm; subst hw))
  go_ret
  exact ⟨rfl, HP.out⟩

theorem left_any (p q : Nat) (st : Option (List Int)) (w : World) (h : IsR true w p q st) :
    Calls Tryz.prog 192 #[.pointer (some ⟨p, 0, none⟩)] w fun e w' => e = .returned (.int .i64 (rdLeft st)) ∧ w' = w := by
  have H := hide h
  obtain ⟨f0, f1, -, a, len, cap, hc, -, hs⟩ := h
  cases st with
  | none =>
    go_enter Tryz.func192, Tryz.ntmps192
    go_wp2_with (first | (go_at_call 179; refine (fine_any p q none _ H.out).mono ?_; rintro e w' ⟨rfl, hw⟩; have hw := hw.symm; subst hw))
    go_ret
    exact ⟨rfl, rfl⟩
  | some xs =>
    have hl := hs.2.1
    have HL : Hid (rdLeft (some xs) = (len : Int)) := by show ((xs.length : Nat) : Int) = _; rw [hl]
    clear hs hl
    go_enter Tryz.func192, Tryz.ntmps192
    go_wp2_with (first | (go_at_call 179; refine (fine_any p q (some xs) _ H.out).mono ?_; rintro e w' ⟨rfl, hw⟩; have hw := hw.symm; subst hw))
    go_ret
    exact ⟨ret1 HL.out.symm, rfl⟩

theorem end_any (p q : Nat) (st : Option (List Int)) (w : World) (h : IsR true w p q st) :
    Calls Tryz.prog 161 #[.pointer (some ⟨p, 0, none⟩)] w fun e w' => e = .returned (.int .i64 (rdEnd st)) ∧ w' = w := by
  have H := hide h
  obtain ⟨f0, f1, -, a, len, cap, hc, -, hs⟩ := h
  cases st with
  | none =>
    go_enter Tryz.func161, Tryz.ntmps161
    go_wp2_with (first | (go_at_call 179; refine (fine_any p q none _ H.out).mono ?_; rintro e w' ⟨rfl, hw⟩; have hw := hw.symm; subst hw))
    go_ret
    exact ⟨rfl, rfl⟩
  | some xs =>
    have hl := hs.2.1
    clear hs
    cases xs with
    | nil =>
      have h0 : len = 0 := hl.symm
      subst h0
      go_enter Tryz.func161, Tryz.ntmps161
      go_wp2_with (first | (go_at_call 179; refine (fine_any p q (some []) _ H.out).mono ?_; rintro e w' ⟨rfl, hw⟩; have hw := hw.symm; subst hw))
      go_ret
      exact ⟨rfl, rfl⟩
    | cons c r =>
      have h0 : 0 < len := by rw [← hl]; simp
      clear hl
      go_enter Tryz.func161, Tryz.ntmps161
      go_wp2_with (first | (go_at_call 179; refine (fine_any p q (some (c :: r)) _ H.out).mono ?_; rintro e w' ⟨rfl, hw⟩; have hw := hw.symm; subst hw))
      go_ret
      exact ⟨rfl, rfl⟩

end Go.Proofs.YtfojpengdpnigaaGreat
