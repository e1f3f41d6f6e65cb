/- row.Read; the Reader's Text and Value. -/
import Derived.Test.YtfojpengdpnigaaGreatRwRead
namespace Go.Proofs.YtfojpengdpnigaaGreat
open Go.RowKit NumMath
set_option linter.unusedVariables false

theorem isR_new (good : Bool) (t : TypeId) (w : World) (a : Option Addr) (n c : Nat) (xs : List Int) (g q : Nat) (hg : w.heap.size = g) (hB : IsBytes w a n c xs) (hq : n ≠ 0 → ∀ x, a = some x → x.block = q ∧ q < w.heap.size) (hq2 : q ≤ g) :
    IsR good (w.alloc (.cells #[.slice a n c, .bool good] t)) g q (some xs) := by
  subst hg
  exact ⟨by simp, by simp, by simp; omega, a, n, c, by simp, fun h0 x hx => ⟨(hq h0 x hx).1, by have := (hq h0 x hx).2; omega⟩, by simp, hB.keep (new_below _ _)⟩

/-- a slice of the call's own, whose block is told -/
theorem OwnB.block {w : World} {base : Nat} {v : Value} {bs : List Int} (h : OwnB w base v bs) (hr : ∀ c ∈ bs, 0 ≤ c ∧ c < 256) (d : Nat) : ∃ a n cap q, v = .slice a n cap ∧ IsBytes w a n cap bs ∧ (∀ x, a = some x → x.block = q ∧ q < w.heap.size ∧ base ≤ q) ∧ (a = none → q = d) := by
  rcases h.form with ⟨rfl, rfl⟩ | ⟨g, cap, rfl, hg1, hg2, hc, hm, hB⟩
  · exact ⟨none, 0, 0, d, rfl, ⟨rfl, Nat.le_refl _, by unfold maxLen; omega, hr, .inl rfl⟩, by (intro x hx; cases hx), fun _ => rfl⟩
  · exact ⟨_, _, cap, g, rfl, ⟨rfl, hc, hm, hr, .inr ⟨g, 0, rfl, hg2, fun i hi => by rw [Nat.zero_add]; exact hB i hi⟩⟩, by (intro x hx; cases hx; exact ⟨rfl, hg2, hg1⟩), by (intro e; cases e)⟩

set_option maxHeartbeats 400000 in
theorem read_any (a : Option Addr) (len cap : Nat) (xs : List Int) (w : World) (h : IsBytes w a len cap xs) (hl : len ≤ 1000000000) :
    Calls Tryz.prog 154 #[.slice a len cap] w fun e w' => ∃ p q, e = .returned (.pointer (some ⟨p, 0, none⟩)) ∧ w.heap.size ≤ p ∧ w.heap.size ≤ q ∧ IsR true w' p q (some xs) ∧ Below w.heap.size w w' := by
  have HS := hide h.src
  have HR := hide h.2.2.2.1
  clear h
  go_enter Tryz.func154, Tryz.ntmps154
  go_wp2_with (first
    | (go_at_call 80; refine (clone_src a len cap xs _ HS.out hl).mono ?_; rintro e w2 ⟨v2, rfl, hown2, hb2⟩; obtain ⟨a2, n2, c2, q2, rfl, hB2, hq2, hq3⟩ := hown2.block HR.out w2.heap.size; have HB2 := hide hB2; have HQ2 := hide hq2; have HQ3 := hide hq3; clear hown2 hB2 hq2 hq3))
  go_ret
  refine ⟨w2.heap.size, q2, rfl, hb2.size, ?_, isR_new true _ w2 a2 n2 c2 xs _ q2 rfl HB2.out (fun _ x hx => ⟨(HQ2.out x hx).1, (HQ2.out x hx).2.1⟩) (by cases a2 with | none => rw [HQ3.out rfl]; exact Nat.le_refl _ | some x => exact Nat.le_of_lt (HQ2.out x rfl).2.1), hb2.trans ((new_below _ _).mono hb2.size)⟩
  cases a2 with
  | none => rw [HQ3.out rfl]; exact hb2.size
  | some x => exact (HQ2.out x rfl).2.2

theorem OwnB.set {w : World} {base : Nat} {v : Value} {bs : List Int} (h : OwnB w base v bs) {p i : Nat} (hp : p < base) (u : Value) : OwnB (w.setCell ⟨p, i, none⟩ u) base v bs :=
  h.lies (fun g hg => Below.heap_setCell _ _ _ _ (by have := (World.ownsRow.lt h g hg).1; show g ≠ p; omega))

theorem rdT_neg (most : Int) (st : Option (List Int)) (h : most < 0) : rdT most st = ([], none) := by unfold rdT; rw [if_pos h]
theorem rdT_none (most : Int) (st : Option (List Int)) (h : ¬ most < 0) (h2 : (rdN most st).2 = none) : rdT most st = ([], none) := by unfold rdT; rw [if_neg h, h2]
theorem rdT_some (most : Int) (st : Option (List Int)) (h : ¬ most < 0) (xs : List Int) (h2 : (rdN most st).2 = some xs) (h3 : (rdN most st).1 ≤ xs.length) : rdT most st = (xs.take (rdN most st).1.toNat, some (xs.drop (rdN most st).1.toNat)) := by unfold rdT; rw [if_neg h, h2]; dsimp only; rw [if_pos h3]
theorem rdT_long (most : Int) (st : Option (List Int)) (h : ¬ most < 0) (xs : List Int) (h2 : (rdN most st).2 = some xs) (h3 : ¬ (rdN most st).1 ≤ xs.length) : rdT most st = ([], none) := by unfold rdT; rw [if_neg h, h2]; dsimp only; rw [if_neg h3]

theorem rdN_fails (most : Int) (st : Option (List Int)) (h : (rdN most st).2 = none) : (rdN most st).1 = 0 := by
  cases st with
  | none => rfl
  | some xs =>
    unfold rdN at h ⊢
    dsimp only at h ⊢
    cases hn : numAt xs with
    | none => rfl
    | some nr =>
      obtain ⟨n, r⟩ := nr
      rw [hn] at h
      dsimp only at h ⊢
      by_cases hm : (n : Int) ≤ most
      · rw [if_pos hm] at h; cases h
      · rw [if_neg hm]

theorem rdN_shorter (most : Int) (st : Option (List Int)) (hb : Byt st) (ys : List Int) (h : (rdN most st).2 = some ys) : (ys.length : Int) < rdLeft st := by
  cases st with
  | none => cases h
  | some xs =>
    unfold rdN at h
    dsimp only at h
    cases hn : numAt xs with
    | none => rw [hn] at h; cases h
    | some nr =>
      obtain ⟨n, r⟩ := nr
      rw [hn] at h
      dsimp only at h
      by_cases hm : (n : Int) ≤ most
      · rw [if_pos hm] at h
        cases h
        obtain ⟨s, h1, h2, hr, _⟩ := num_split (hb xs rfl) hn
        show ((List.length _ : Nat) : Int) < xs.length
        rw [hr, List.length_drop]
        omega
      · rw [if_neg hm] at h; cases h

theorem left_none (p q : Nat) (w : World) (h : IsR true w p q none) : Calls Tryz.prog 192 #[.pointer (some ⟨p, 0, none⟩)] w fun e w' => e = .returned (.int .i64 0) ∧ w' = w := left_any p q none w h
theorem left_some (p q : Nat) (xs : List Int) (w : World) (h : IsR true w p q (some xs)) : Calls Tryz.prog 192 #[.pointer (some ⟨p, 0, none⟩)] w fun e w' => e = .returned (.int .i64 xs.length) ∧ w' = w := left_any p q (some xs) w h

set_option maxHeartbeats 1000000 in
theorem rdT_any (p q : Nat) (st : Option (List Int)) (most : Int) (w : World) (h : IsR true w p q st) (h1 : most ≤ 9223372036854775807) (h1' : -9223372036854775808 ≤ most) (hbig : rdLeft st ≤ 1000000000) :
    Calls Tryz.prog 184 #[.pointer (some ⟨p, 0, none⟩), .int .i64 most] w fun e w' => ∃ v, e = .returned v ∧ OwnB w' w.heap.size v (rdT most st).1 ∧ RPost true w p q (rdT most st).2 w' := by
  have H := hide h
  by_cases hneg : most < 0
  · have HX := hide (rdT_neg most st hneg)
    clear h
    go_enter Tryz.func184, Tryz.ntmps184
    go_wp2_with (first
      | (go_at_call 181; refine (fail_any p q st _ H.out).mono ?_; rintro e w2 ⟨rfl, hpost⟩; have HP := hide hpost; clear hpost))
    go_ret
    rw [HX.out]
    exact ⟨_, rfl, ownB_nil _ _, HP.out⟩
  · obtain ⟨r1, r2, -⟩ := rdN_range most st h.byt (by omega)
    have HC := hide (fun w h => rdN_any p q st most w h (by omega) (by omega))
    have H0 := hide (rdT_none most st hneg)
    have H3 := hide (rdT_some most st hneg)
    have H4 := hide (rdT_long most st hneg)
    have HLn := hide (rdN_shorter most st h.byt)
    have HZ := hide (rdN_fails most st)
    have hp0 := h.at
    clear h
    generalize rdN most st = ns at *
    generalize rdT most st = tr at *
    obtain ⟨n, st1⟩ := ns
    dsimp only at *
    cases st1 with
    | none =>
      have HX := hide (H0.out rfl)
      have hn0 := HZ.out rfl
      subst hn0
      go_enter Tryz.func184, Tryz.ntmps184
      go_wp2_with (first
        | (go_at_call 160; refine (HC.out _ H.out).mono ?_; rintro e w2 ⟨rfl, hpost⟩; have HP := hide hpost; clear hpost)
        | (go_at_call 192; refine (left_none p q _ HP.out.1).mono ?_; rintro e w' ⟨rfl, hw⟩; have hw := hw.symm; subst hw)
        | (go_at_call 179; refine (fine_any p q none _ HP.out.1).mono ?_; rintro e w' ⟨rfl, hw⟩; have hw := hw.symm; subst hw))
      go_ret
      rw [HX.out]
      exact ⟨_, rfl, ownB_nil _ _, HP.out⟩
    | some ys =>
      have hyl := HLn.out ys rfl
      have hyl' : ys.length ≤ 1000000000 := by omega
      by_cases hfit : n ≤ (ys.length : Int)
      · have HX := hide (H3.out ys rfl hfit)
        obtain ⟨N, rfl⟩ := Int.eq_ofNat_of_zero_le r1
        have hN : N ≤ ys.length := by omega
        have HTk : Hid (((N : Int)).toNat = N) := Int.toNat_natCast N
        clear H0 H3 H4 HZ HLn hyl
        go_enter Tryz.func184, Tryz.ntmps184
        go_wp2_with (first
          | (go_at_call 160; refine (HC.out _ H.out).mono ?_; rintro e w2 ⟨rfl, hpost⟩; have HP := hide hpost; have hsz2 := hpost.2.size; have hfl := hpost.1.flag; simp only [Option.isSome_some, if_true] at hfl; obtain ⟨f0, f1, -, a, len, cap, hc, ha, -, hB⟩ := hpost.1; have HA := hide ha; have HB := hide hB; have hlen := hB.1; have hlc := hB.2.1; have hmx := hB.2.2.1; unfold maxLen at hmx; clear hpost ha hB)
          | (go_at_call 192; refine (left_some p q ys _ HP.out.1).mono ?_; rintro e w' ⟨rfl, hw⟩; have hw := hw.symm; subst hw)
          | (go_at_call 179; refine (fine_any p q (some ys) _ HP.out.1).mono ?_; rintro e w' ⟨rfl, hw⟩; have hw := hw.symm; subst hw))
        cases a with
        | none =>
          have h0 : len = 0 := by
            rcases HB.out.2.2.2.2 with h | ⟨g, off, h, _⟩
            · exact h
            · cases h
          subst h0
          have hN0 : N = 0 := by omega
          subst hN0
          have HX2 : Hid (tr = ([], some ys)) := by
            show _ = _
            rw [HX.out, HTk.out, List.take_zero, List.drop_zero]
          go_wp2_with (first
            | (go_at_call 80; refine (clone_src none 0 cap [] _ ⟨rfl, .inl rfl⟩ (by omega)).mono ?_; rintro e w3 ⟨v3, rfl, hown3, hb3⟩; have HO3 := hide hown3; have HP3 := hide (HP.out.behind hb3); have HB3 := hide (HB.out.keep hb3); have hc3 := (hb3.cell (p := ⟨p, 0, none⟩) (by show p < _; omega)).trans hc; have f03 := (hb3.frozen (p := ⟨p, 0, none⟩) (by show p < _; omega)).trans f0; have hfl3 := (hb3.cell (p := ⟨p, 1, none⟩) (by show p < _; omega)).trans hfl; clear hown3 hb3))
          go_ret
          rw [HX2.out]
          exact ⟨v3, rfl, (HO3.out.set (by omega) _).mono hsz2, HP3.out.trans (rpost_set HP3.out.1 hfl3 (a' := none) (n' := 0) (c' := cap) (xs := ys) (by intro _ x hx; cases hx) HB3.out)⟩
        | some x =>
          by_cases h0 : len = 0
          · subst h0
            have hN0 : N = 0 := by omega
            subst hN0
            have HX2 : Hid (tr = ([], some ys)) := by
              show _ = _
              rw [HX.out, HTk.out, List.take_zero, List.drop_zero]
            by_cases hcap : cap = 0
            · subst hcap
              go_wp2_with (first
                | (go_at_call 80; refine (clone_src (some x) 0 0 [] _ ⟨rfl, .inl rfl⟩ (by omega)).mono ?_; rintro e w3 ⟨v3, rfl, hown3, hb3⟩; have HO3 := hide hown3; have HP3 := hide (HP.out.behind hb3); have HB3 := hide (HB.out.keep hb3); have hc3 := (hb3.cell (p := ⟨p, 0, none⟩) (by show p < _; omega)).trans hc; have f03 := (hb3.frozen (p := ⟨p, 0, none⟩) (by show p < _; omega)).trans f0; have hfl3 := (hb3.cell (p := ⟨p, 1, none⟩) (by show p < _; omega)).trans hfl; clear hown3 hb3))
              go_ret
              rw [HX2.out]
              exact ⟨v3, rfl, (HO3.out.set (by omega) _).mono hsz2, HP3.out.trans (rpost_set HP3.out.1 hfl3 (a' := some x) (n' := 0) (c' := 0) (xs := ys) (fun h => absurd rfl h) HB3.out)⟩
            · go_wp2_with (first
                | (go_at_call 80; refine (clone_src (some x) 0 cap [] _ ⟨rfl, .inl rfl⟩ (by omega)).mono ?_; rintro e w3 ⟨v3, rfl, hown3, hb3⟩; have HO3 := hide hown3; have HP3 := hide (HP.out.behind hb3); have HB3 := hide (HB.out.keep hb3); have hc3 := (hb3.cell (p := ⟨p, 0, none⟩) (by show p < _; omega)).trans hc; have f03 := (hb3.frozen (p := ⟨p, 0, none⟩) (by show p < _; omega)).trans f0; have hfl3 := (hb3.cell (p := ⟨p, 1, none⟩) (by show p < _; omega)).trans hfl; clear hown3 hb3))
              go_ret
              rw [HX2.out]
              exact ⟨v3, rfl, (HO3.out.set (by omega) _).mono hsz2, HP3.out.trans (rpost_set HP3.out.1 hfl3 (a' := some x) (n' := 0) (c' := cap) (xs := ys) (fun h => absurd rfl h) HB3.out)⟩
          · obtain ⟨g, off, e, hg, -⟩ := HB.out.at (k := 0) (by omega)
            cases e
            have HQ := hide (HA.out h0 _ rfl)
            have HT := hide (SrcB.take HB.out N (by omega))
            rw [HTk.out] at HX
            by_cases hcs : cap = N
            · subst hcs
              have hcl : len = cap := by omega
              subst hcl
              go_wp2_with (first
                | (go_at_call 80; refine (clone_src (some ⟨g, off, none⟩) _ _ _ _ HT.out (by omega)).mono ?_; rintro e w3 ⟨v3, rfl, hown3, hb3⟩; have HO3 := hide hown3; have HP3 := hide (HP.out.behind hb3); have HB3 := hide (HB.out.keep hb3); have hc3 := (hb3.cell (p := ⟨p, 0, none⟩) (by show p < _; omega)).trans hc; have f03 := (hb3.frozen (p := ⟨p, 0, none⟩) (by show p < _; omega)).trans f0; have hfl3 := (hb3.cell (p := ⟨p, 1, none⟩) (by show p < _; omega)).trans hfl; clear hown3 hb3))
              go_ret
              rw [HX.out]
              exact ⟨v3, rfl, (HO3.out.set (by omega) _).mono hsz2, HP3.out.trans (rpost_set HP3.out.1 hfl3 (a' := some ⟨g, off, none⟩) (n' := 0) (c' := 0) (by intro _ x hx; cases hx; exact HQ.out) (by have h := HB3.out.drop0 (Nat.le_refl _); rw [Nat.sub_self] at h; exact h))⟩
            · go_wp2_with (first
                | (go_at_call 80; refine (clone_src (some ⟨g, off, none⟩) N cap _ _ HT.out (by omega)).mono ?_; rintro e w3 ⟨v3, rfl, hown3, hb3⟩; have HO3 := hide hown3; have HP3 := hide (HP.out.behind hb3); have HB3 := hide (HB.out.keep hb3); have hc3 := (hb3.cell (p := ⟨p, 0, none⟩) (by show p < _; omega)).trans hc; have f03 := (hb3.frozen (p := ⟨p, 0, none⟩) (by show p < _; omega)).trans f0; have hfl3 := (hb3.cell (p := ⟨p, 1, none⟩) (by show p < _; omega)).trans hfl; clear hown3 hb3))
              go_ret
              rw [HX.out]
              exact ⟨v3, rfl, (HO3.out.set (by omega) _).mono hsz2, HP3.out.trans (rpost_set HP3.out.1 hfl3 (a' := some ⟨g, off + N, none⟩) (n' := len - N) (c' := cap - N) (by intro _ x hx; cases hx; exact HQ.out) (HB3.out.drop N (by omega)))⟩
      · have HX := hide (H4.out ys rfl hfit)
        clear H0 H3 H4 HZ HLn hyl
        go_enter Tryz.func184, Tryz.ntmps184
        go_wp2_with (first
          | (go_at_call 160; refine (HC.out _ H.out).mono ?_; rintro e w2 ⟨rfl, hpost⟩; have HP := hide hpost; clear hpost)
          | (go_at_call 192; refine (left_some p q ys _ HP.out.1).mono ?_; rintro e w' ⟨rfl, hw⟩; have hw := hw.symm; subst hw)
          | (go_at_call 181; refine (fail_any p q (some ys) _ HP.out.1).mono ?_; rintro e w3 ⟨rfl, hpost⟩; have HP3 := hide (HP.out.trans hpost); clear hpost)
          | (go_at_call 179; refine (fine_any p q none _ HP3.out.1).mono ?_; rintro e w' ⟨rfl, hw⟩; have hw := hw.symm; subst hw))
        go_ret
        rw [HX.out]
        exact ⟨_, rfl, ownB_nil _ _, HP3.out⟩

end Go.Proofs.YtfojpengdpnigaaGreat
