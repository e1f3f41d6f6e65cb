/- The reference's Reader: I, Text, Val, End. -/
import Derived.Test.YtjeijeaogdednaaRwXread
namespace Go.Proofs.Ytjeijeaogdednaa
open Go.RowKit NumMath
set_option linter.unusedVariables false

theorem SrcB.conv {w : World} {a : Option Addr} {len cap : Nat} {xs : List Int} (h : SrcB w a len xs) : (convert 24 9 (.slice a len cap)).run Try.prog w = .ok (.string (strB xs)) w := by
  obtain ⟨h1, h5⟩ := h
  rcases h5 with h5 | ⟨g, off, rfl, hg, hB⟩
  · subst h5
    have : xs = [] := List.length_eq_zero_iff.1 h1
    subst this
    exact conv_none w a cap
  · exact run_convert_bytes_arg w 24 5 Try.underlying24 Try.underlying5 g off len cap xs h1 (fun i hi => hB i (by omega)) 9 Try.underlying9

theorem zag_odd (n : Int) (h : n % 2 = 1) : zagV n = -(n / 2) - 1 := by unfold zagV; rw [if_neg (by omega)]; omega
theorem zag_even (n : Int) (h : ¬ n % 2 = 1) : zagV n = n / 2 := by unfold zagV; rw [if_pos (by omega)]

set_option maxHeartbeats 400000 in
theorem xI_any (p q : Nat) (st : Option (List Int)) (w : World) (h : IsR false w p q st) :
    Calls Try.prog 88 #[.pointer (some ⟨p, 0, none⟩)] w fun e w' => e = .returned (.int .i64 (rdI st).1) ∧ RPost false w p q (rdI st).2 w' := by
  have H := hide h
  obtain ⟨r1, r2, -⟩ := rdN_range 18446744073709551615 st h.byt (by omega)
  clear h
  unfold rdI
  dsimp only
  have HC := hide (fun w h => xN_any p q st 18446744073709551615 w h (by omega) (by omega))
  generalize rdN 18446744073709551615 st = ns at *
  obtain ⟨n, s⟩ := ns
  dsimp only at *
  by_cases hodd : n % 2 = 1
  · have HZ := hide (zag_odd n hodd)
    have hodd' : (n % 2 == 1) = true := by simpa using hodd
    go_enter Try.func88, Try.ntmps88
    go_wp2_with (first
      | (go_at_call 59; refine (HC.out _ H.out).mono ?_; rintro e w2 ⟨rfl, hpost⟩; have HP := hide hpost; clear hpost))
    go_ret
    exact ⟨ret1 HZ.out.symm, HP.out⟩
  · have HZ := hide (zag_even n hodd)
    have hodd' : (n % 2 == 1) = false := by simpa using hodd
    go_enter Try.func88, Try.ntmps88
    go_wp2_with (first
      | (go_at_call 59; refine (HC.out _ H.out).mono ?_; rintro e w2 ⟨rfl, hpost⟩; have HP := hide hpost; clear hpost))
    go_ret
    exact ⟨ret1 HZ.out.symm, HP.out⟩

theorem xend_any (p q : Nat) (st : Option (List Int)) (w : World) (h : IsR false w p q st) :
    Calls Try.prog 60 #[.pointer (some ⟨p, 0, none⟩)] w fun e w' => e = .returned (.int .i64 (rdEnd st)) ∧ w' = w := by
  have hf := h.flag
  obtain ⟨f0, f1, -, a, len, cap, hc, -, hs⟩ := h
  cases st with
  | none =>
    simp only [Option.isSome_none, Bool.false_eq_true, if_false, Bool.not_false] at hf
    clear hs
    go_enter Try.func60, Try.ntmps60
    go_wp2
    go_ret
    exact ⟨rfl, rfl⟩
  | some xs =>
    simp only [Option.isSome_some, if_true] at hf
    have hl := hs.2.1
    clear hs
    cases xs with
    | nil =>
      have h0 : len = 0 := hl.symm
      subst h0
      go_enter Try.func60, Try.ntmps60
      go_wp2
      go_ret
      exact ⟨rfl, rfl⟩
    | cons c r =>
      have h0 : 0 < len := by rw [← hl]; simp
      clear hl
      go_enter Try.func60, Try.ntmps60
      go_wp2
      go_ret
      exact ⟨rfl, rfl⟩

/-- a text that the reference told: bytes of the block q -/
def TextPost (w : World) (p q : Nat) (r : List Int × Option (List Int)) (e : Ending) (w' : World) : Prop :=
  ∃ a n c, e = .returned (.slice a n c) ∧ SrcB w' a n r.1 ∧ (n ≠ 0 → ∀ x, a = some x → x.block = q ∧ q ≠ p) ∧ RPost false w p q r.2 w' ∧ n ≤ c ∧ c ≤ maxLen

set_option maxHeartbeats 1000000 in
theorem xT_any (p q : Nat) (st : Option (List Int)) (most : Int) (w : World) (h : IsR false w p q st) (h1 : most ≤ 9223372036854775807) (h1' : -9223372036854775808 ≤ most) (hbig : rdLeft st ≤ 1000000000) :
    Calls Try.prog 89 #[.pointer (some ⟨p, 0, none⟩), .int .i64 most] w fun e w' => TextPost w p q (rdT most st) e w' := by
  have H := hide h
  by_cases hneg : most < 0
  · have HX := hide (rdT_neg most st hneg)
    clear h
    go_enter Try.func89, Try.ntmps89
    go_wp2_with (first
      | (go_at_call 78; refine (xfail_any p q st _ H.out).mono ?_; rintro e w2 ⟨rfl, hpost⟩; have HP := hide hpost; clear hpost))
    go_ret
    rw [HX.out]
    exact ⟨none, 0, 0, rfl, ⟨rfl, .inl rfl⟩, by (intro _ x hx; cases hx), HP.out, Nat.le_refl _, Nat.zero_le _⟩
  · obtain ⟨r1, r2, -⟩ := rdN_range most st h.byt (by omega)
    have HC := hide (fun w h => xN_any p q st most w h (by omega) (by omega))
    have H0 := hide (rdT_none most st hneg)
    have H3 := hide (rdT_some most st hneg)
    have H4 := hide (rdT_long most st hneg)
    have HLn := hide (rdN_shorter most st h.byt)
    have hp0 := h.at
    clear h
    generalize rdN most st = ns at *
    generalize rdT most st = tr at *
    obtain ⟨n, st1⟩ := ns
    dsimp only at *
    cases st1 with
    | none =>
      have HX := hide (H0.out rfl)
      go_enter Try.func89, Try.ntmps89
      go_wp2_with (first
        | (go_at_call 59; refine (HC.out _ H.out).mono ?_; rintro e w2 ⟨rfl, hpost⟩; have hfl := hpost.1.flag; simp only [Option.isSome_none, Bool.false_eq_true, if_false, Bool.not_false] at hfl; have HP := hide hpost; clear hpost)
        | (go_at_call 78; refine (xfail_any p q none _ HP.out.1).mono ?_; rintro e w3 ⟨rfl, hpost⟩; have HP3 := hide (HP.out.trans hpost); clear hpost))
      go_ret
      rw [HX.out]
      exact ⟨none, 0, 0, rfl, ⟨rfl, .inl rfl⟩, by (intro _ x hx; cases hx), HP3.out, Nat.le_refl _, Nat.zero_le _⟩
    | some ys =>
      have hyl := HLn.out ys rfl
      have hyl' : ys.length ≤ 1000000000 := by omega
      by_cases hfit : n ≤ (ys.length : Int)
      · have HX := hide (H3.out ys rfl hfit)
        obtain ⟨N, rfl⟩ := Int.eq_ofNat_of_zero_le r1
        have hN : N ≤ ys.length := by omega
        have HTk : Hid (((N : Int)).toNat = N) := Int.toNat_natCast N
        clear H0 H3 H4 HLn hyl
        go_enter Try.func89, Try.ntmps89
        go_wp2_with fail
        refine (HC.out _ H.out).mono ?_
        rintro e w2 ⟨rfl, hpost⟩
        have HP := hide hpost
        have hsz2 := hpost.2.size
        have hfl := hpost.1.flag
        simp only [Option.isSome_some, if_true] at hfl
        obtain ⟨f0, f1, -, a, len, cap, hc, ha, -, hB⟩ := hpost.1
        have HA := hide ha
        have HB := hide hB
        have hlen := hB.1
        have hlc := hB.2.1
        have hmx := hB.2.2.1
        unfold maxLen at hmx
        clear hpost ha hB
        cases a with
        | none =>
          have h0 : len = 0 := by
            rcases HB.out.2.2.2.2 with h | ⟨g, off, h, _⟩
            · exact h
            · cases h
          subst h0
          have hN0 : N = 0 := by omega
          subst hN0
          have HX2 : Hid (tr = ([], some ys)) := by
            show _ = _
            rw [HX.out, HTk.out, List.take_zero, List.drop_zero]
          go_wp2
          go_ret
          rw [HX2.out]
          exact ⟨none, 0, cap, rfl, ⟨rfl, .inl rfl⟩, (fun h => absurd rfl h), HP.out.trans (rpost_set HP.out.1 hfl (a' := none) (n' := 0) (c' := cap) (fun h => absurd rfl h) HB.out), by omega, by unfold maxLen; omega⟩
        | some x =>
          by_cases h0 : len = 0
          · subst h0
            have hN0 : N = 0 := by omega
            subst hN0
            have HX2 : Hid (tr = ([], some ys)) := by
              show _ = _
              rw [HX.out, HTk.out, List.take_zero, List.drop_zero]
            by_cases hcap : cap = 0
            · subst hcap
              go_wp2
              go_ret
              rw [HX2.out]
              exact ⟨some x, 0, 0, rfl, ⟨rfl, .inl rfl⟩, (fun h => absurd rfl h), HP.out.trans (rpost_set HP.out.1 hfl (a' := some x) (n' := 0) (c' := 0) (fun h => absurd rfl h) HB.out), by omega, by unfold maxLen; omega⟩
            · skip
              go_wp2
              go_ret
              rw [HX2.out]
              exact ⟨some x, 0, cap, rfl, ⟨rfl, .inl rfl⟩, (fun h => absurd rfl h), HP.out.trans (rpost_set HP.out.1 hfl (a' := some x) (n' := 0) (c' := cap) (fun h => absurd rfl h) HB.out), by omega, by unfold maxLen; omega⟩
          · obtain ⟨g, off, e, hg, -⟩ := HB.out.at (k := 0) (by omega)
            cases e
            have HQ := hide (HA.out h0 _ rfl)
            have HT := hide (SrcB.take HB.out N (by omega))
            rw [HTk.out] at HX
            by_cases hcs : cap = N
            · subst hcs
              have hcl : len = cap := by omega
              subst hcl
              go_wp2
              go_ret
              rw [HX.out]
              exact ⟨some ⟨g, off, none⟩, _, _, rfl, (HT.out).lies (Keeps.set (p := p) (i := 0) _) (fun x hx => by have h := HA.out h0 x hx; rw [h.1]; exact h.2), (fun _ => HA.out h0), HP.out.trans (rpost_set HP.out.1 hfl (a' := some ⟨g, off, none⟩) (n' := 0) (c' := 0) (fun h => absurd rfl h) (by have h := HB.out.drop0 (Nat.le_refl _); rw [Nat.sub_self] at h; exact h)), by omega, by unfold maxLen; omega⟩
            · skip
              go_wp2
              go_ret
              rw [HX.out]
              exact ⟨some ⟨g, off, none⟩, N, cap, rfl, (HT.out).lies (Keeps.set (p := p) (i := 0) _) (fun x hx => by have h := HA.out h0 x hx; rw [h.1]; exact h.2), (fun _ => HA.out h0), HP.out.trans (rpost_set HP.out.1 hfl (a' := some ⟨g, off + N, none⟩) (n' := len - N) (c' := cap - N) (by intro _ x hx; cases hx; exact HQ.out) (HB.out.drop N (by omega))), by omega, by unfold maxLen; omega⟩
      · have HX := hide (H4.out ys rfl hfit)
        clear H0 H3 H4
        go_enter Try.func89, Try.ntmps89
        go_wp2_with (first
          | (go_at_call 59; refine (HC.out _ H.out).mono ?_; rintro e w2 ⟨rfl, hpost⟩; have hfl := hpost.1.flag; simp only [Option.isSome_some, if_true] at hfl; obtain ⟨f0, f1, -, a, len, cap, hc, -, -, hB⟩ := hpost.1; have hlen := hB.1; have hlc := hB.2.1; have hmx := hB.2.2.1; unfold maxLen at hmx; have HP := hide hpost; clear hpost hB)
          | (go_at_call 78; refine (xfail_any p q (some ys) _ HP.out.1).mono ?_; rintro e w3 ⟨rfl, hpost⟩; have HP3 := hide (HP.out.trans hpost); clear hpost))
        go_ret
        rw [HX.out]
        exact ⟨none, 0, 0, rfl, ⟨rfl, .inl rfl⟩, by (intro _ x hx; cases hx), HP3.out, Nat.le_refl _, Nat.zero_le _⟩

end Go.Proofs.Ytjeijeaogdednaa
