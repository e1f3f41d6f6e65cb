/- The reference's Reader: Val. -/
import Derived.Test.YtpaidekocooliaaRowXread2
namespace Go.Proofs.Ytpaidekocooliaa
open Go.RowKit NumMath
set_option linter.unusedVariables false

set_option maxHeartbeats 2000000 in
theorem xV_any (p q : Nat) (st : Option (List Int)) (w : World) (h : IsR false w p q st) (hbig : rdLeft st ≤ 1000000000) :
    Calls Try.prog 20 #[.pointer (some ⟨p, 0, none⟩)] w fun e w' => e = .returned (rdV st).1.v ∧ RPost false w p q (rdV st).2 w' := by
  have H := hide h
  have HP0 := hide (RPost.behind (RPost.refl h) (new_below w (.cells #[.int .i64 0, .int .i64 0, .string ⟨#[]⟩] 35)))
  have HB0 := hide (box3_new w (.int .i64 0) (.int .i64 0) (.string ⟨#[]⟩) _ rfl)
  obtain ⟨r1, r2, hb1⟩ := rdN_range 2 st h.byt (by omega)
  have hp0 := h.at
  have hq0 := h.qlt
  clear h
  have HC := hide (fun w h => xN_any p q st 2 w h (by omega) (by omega))
  have HLn := hide (rdN_shorter 2 st H.out.byt)
  have HV1 := hide (rdV_1 st)
  have HV1n := hide (rdV_1n st)
  have HV2 := hide (rdV_2 st)
  have HV2n := hide (rdV_2n st)
  have HV0 := hide (rdV_0 st)
  generalize rdN 2 st = ns at *
  generalize rdV st = res at *
  obtain ⟨k, st1⟩ := ns
  dsimp only at *
  have hk : k = 0 ∨ k = 1 ∨ k = 2 := by omega
  rcases hk with rfl | rfl | rfl
  · have HX := hide (HV0.out _ rfl)
    clear HV0 HV1 HV1n HV2 HV2n
    cases st1 with
    | none =>
      go_enter Try.func20, Try.ntmps20
      go_wp2_with (first
        | (go_at_call 14; refine (HC.out _ HP0.out.1).mono ?_; rintro e w2 ⟨rfl, hpost⟩; have hsz2 := hpost.2.size; simp only [World.size_alloc] at hsz2; have HP2 := hide ((HP0.out.trans hpost).behind (new_below w2 (.cells #[.int .i64 0, .int .i64 0, .string ⟨#[]⟩] 35))); have hbx := (HB0.out.lies hpost.2 (by omega)).keep (new_below w2 (.cells #[.int .i64 0, .int .i64 0, .string ⟨#[]⟩] 35)); have HBX := hide hbx; have HBT := hide (box3_new w2 (.int .i64 0) (.int .i64 0) (.string ⟨#[]⟩) _ rfl); obtain ⟨b0, b1, b2, d0, d1, d2⟩ := hbx; have hfl := HP2.out.1.flag; simp only [Option.isSome_none, Bool.false_eq_true, if_false, Bool.not_false] at hfl; clear hpost))
      refine bodyPost_ret (v := .agg #[.int .i64 0, .int .i64 0, .string ⟨#[]⟩]) (by simp [results, Try.results20, go_sem, b0, b1, b2]) rfl ⟨by rw [HX.out]; rfl, ?_⟩
      rw [HX.out]
      exact RPost.setNew H.out (RPost.setNew H.out (RPost.setNew H.out HP2.out (Nat.le_refl _) _) (Nat.le_refl _) _) (Nat.le_refl _) _
    | some ys =>
      go_enter Try.func20, Try.ntmps20
      go_wp2_with (first
        | (go_at_call 14; refine (HC.out _ HP0.out.1).mono ?_; rintro e w2 ⟨rfl, hpost⟩; have hsz2 := hpost.2.size; simp only [World.size_alloc] at hsz2; have HP2 := hide ((HP0.out.trans hpost).behind (new_below w2 (.cells #[.int .i64 0, .int .i64 0, .string ⟨#[]⟩] 35))); have hbx := (HB0.out.lies hpost.2 (by omega)).keep (new_below w2 (.cells #[.int .i64 0, .int .i64 0, .string ⟨#[]⟩] 35)); have HBX := hide hbx; have HBT := hide (box3_new w2 (.int .i64 0) (.int .i64 0) (.string ⟨#[]⟩) _ rfl); obtain ⟨b0, b1, b2, d0, d1, d2⟩ := hbx; have hfl := HP2.out.1.flag; simp only [Option.isSome_some, if_true] at hfl; clear hpost))
      refine bodyPost_ret (v := .agg #[.int .i64 0, .int .i64 0, .string ⟨#[]⟩]) (by simp [results, Try.results20, go_sem, b0, b1, b2]) rfl ⟨by rw [HX.out]; rfl, ?_⟩
      rw [HX.out]
      exact RPost.setNew H.out (RPost.setNew H.out (RPost.setNew H.out HP2.out (Nat.le_refl _) _) (Nat.le_refl _) _) (Nat.le_refl _) _
  · have HC1 := hide (fun w h => xI_any p q st1 w h)
    have HX1 := hide (fun r => HV1.out st1 r rfl)
    have HX1n := hide (HV1n.out st1 rfl)
    clear HV0 HV1 HV1n HV2 HV2n
    generalize rdI st1 = is at *
    obtain ⟨n, st2⟩ := is
    dsimp only at *
    cases st2 with
    | none =>
      have HX := hide (HX1n.out rfl)
      clear HX1 HX1n
      go_enter Try.func20, Try.ntmps20
      go_wp2_with (first
        | (go_at_call 14; refine (HC.out _ HP0.out.1).mono ?_; rintro e w2 ⟨rfl, hpost⟩; have hsz2 := hpost.2.size; simp only [World.size_alloc] at hsz2; have HP2 := hide ((HP0.out.trans hpost).behind (new_below w2 (.cells #[.int .i64 1, .int .i64 0, .string ⟨#[]⟩] 35))); have hbx := (HB0.out.lies hpost.2 (by omega)).keep (new_below w2 (.cells #[.int .i64 1, .int .i64 0, .string ⟨#[]⟩] 35)); have HBX := hide hbx; have HBT := hide (box3_new w2 (.int .i64 1) (.int .i64 0) (.string ⟨#[]⟩) _ rfl); clear hpost hbx)
        | (go_at_call 16; refine (HC1.out _ HP2.out.1).mono ?_; rintro e w3 ⟨rfl, hpost⟩; have hne : w.heap.size ≠ w2.heap.size := (by omega); have hbt := HBT.out.lies hpost.2 (by omega); have hbx := HBX.out.lies hpost.2 (by omega); have hbs := hbx.other (i := 1) hne (.int .i64 n); have HP3 := hide (RPost.setNew H.out (HP2.out.trans hpost) (g := w2.heap.size) (i := 1) (by omega) (.int .i64 n)); have hfl := HP3.out.1.flag; simp only [Option.isSome_none, Bool.false_eq_true, if_false, Bool.not_false] at hfl; obtain ⟨t0, t1, t2, u0, u1, u2⟩ := hbt; obtain ⟨b0, b1, b2, d0, d1, d2⟩ := hbs; clear hpost hbx))
      refine bodyPost_ret (v := .agg #[.int .i64 0, .int .i64 0, .string ⟨#[]⟩]) (by simp [results, Try.results20, go_sem, b0, b1, b2]) rfl ⟨by rw [HX.out]; rfl, ?_⟩
      rw [HX.out]
      exact RPost.setNew H.out (RPost.setNew H.out (RPost.setNew H.out HP3.out (Nat.le_refl _) _) (Nat.le_refl _) _) (Nat.le_refl _) _
    | some ys =>
      have HX := hide (HX1.out ys rfl)
      clear HX1 HX1n
      go_enter Try.func20, Try.ntmps20
      go_wp2_with (first
        | (go_at_call 14; refine (HC.out _ HP0.out.1).mono ?_; rintro e w2 ⟨rfl, hpost⟩; have hsz2 := hpost.2.size; simp only [World.size_alloc] at hsz2; have HP2 := hide ((HP0.out.trans hpost).behind (new_below w2 (.cells #[.int .i64 1, .int .i64 0, .string ⟨#[]⟩] 35))); have hbx := (HB0.out.lies hpost.2 (by omega)).keep (new_below w2 (.cells #[.int .i64 1, .int .i64 0, .string ⟨#[]⟩] 35)); have HBX := hide hbx; have HBT := hide (box3_new w2 (.int .i64 1) (.int .i64 0) (.string ⟨#[]⟩) _ rfl); clear hpost hbx)
        | (go_at_call 16; refine (HC1.out _ HP2.out.1).mono ?_; rintro e w3 ⟨rfl, hpost⟩; have hne : w.heap.size ≠ w2.heap.size := (by omega); have hbt := HBT.out.lies hpost.2 (by omega); have hbx := HBX.out.lies hpost.2 (by omega); have hbs := hbx.other (i := 1) hne (.int .i64 n); have hbv := hbt.set1 (.int .i64 n); have HP3 := hide (RPost.setNew H.out (HP2.out.trans hpost) (g := w2.heap.size) (i := 1) (by omega) (.int .i64 n)); have hfl := HP3.out.1.flag; simp only [Option.isSome_some, if_true] at hfl; obtain ⟨t0, t1, t2, u0, u1, u2⟩ := hbt; obtain ⟨b0, b1, b2, d0, d1, d2⟩ := hbs; obtain ⟨v0, v1, v2, -, -, -⟩ := hbv; clear hpost hbx))
      refine bodyPost_ret (v := .agg #[.int .i64 1, .int .i64 n, .string ⟨#[]⟩]) (by simp [results, Try.results20, go_sem, b0, b1, b2]) rfl ⟨by rw [HX.out]; rfl, ?_⟩
      rw [HX.out]
      exact RPost.setNew H.out (RPost.setNew H.out (RPost.setNew H.out HP3.out (Nat.le_refl _) _) (Nat.le_refl _) _) (Nat.le_refl _) _
  · have HC1 := hide (fun w h => xT_any p q st1 1000 w h (by omega) (by omega))
    have HLf : Hid (rdLeft st1 ≤ 1000000000) := by
      show _ ≤ _
      cases st1 with
      | none => show (0 : Int) ≤ _; omega
      | some ys => have := HLn.out ys rfl; show ((ys.length : Nat) : Int) ≤ _; omega
    have HX1 := hide (fun r => HV2.out st1 r rfl)
    have HX1n := hide (HV2n.out st1 rfl)
    clear HV0 HV1 HV1n HV2 HV2n
    generalize rdT 1000 st1 = is at *
    obtain ⟨xs, st2⟩ := is
    dsimp only at *
    cases st2 with
    | none =>
      have HX := hide (HX1n.out rfl)
      clear HX1 HX1n
      go_enter Try.func20, Try.ntmps20
      go_wp2_with (first
        | (go_at_call 14; refine (HC.out _ HP0.out.1).mono ?_; rintro e w2 ⟨rfl, hpost⟩; have hsz2 := hpost.2.size; simp only [World.size_alloc] at hsz2; have HP2 := hide ((HP0.out.trans hpost).behind (new_below w2 (.cells #[.int .i64 2, .int .i64 0, .string ⟨#[]⟩] 35))); have hbx := (HB0.out.lies hpost.2 (by omega)).keep (new_below w2 (.cells #[.int .i64 2, .int .i64 0, .string ⟨#[]⟩] 35)); have HBX := hide hbx; have HBT := hide (box3_new w2 (.int .i64 2) (.int .i64 0) (.string ⟨#[]⟩) _ rfl); clear hpost hbx)
        | (go_at_call 18; refine (HC1.out _ HP2.out.1 HLf.out).mono ?_; rintro e w3 ⟨a3, n3, c3, rfl, hsrc3, -, hpost⟩; have q3 := hsrc3.conv (cap := c3); have hne : w.heap.size ≠ w2.heap.size := (by omega); have hbt := HBT.out.lies hpost.2 (by omega); have hbx := HBX.out.lies hpost.2 (by omega); have hbs := hbx.other (i := 2) hne (.string (strB xs)); have HP3 := hide (RPost.setNew H.out (HP2.out.trans hpost) (g := w2.heap.size) (i := 2) (by omega) (.string (strB xs))); have hfl := HP3.out.1.flag; simp only [Option.isSome_none, Bool.false_eq_true, if_false, Bool.not_false] at hfl; obtain ⟨t0, t1, t2, u0, u1, u2⟩ := hbt; obtain ⟨b0, b1, b2, d0, d1, d2⟩ := hbs; clear hpost hbx hsrc3))
      refine bodyPost_ret (v := .agg #[.int .i64 0, .int .i64 0, .string ⟨#[]⟩]) (by simp [results, Try.results20, go_sem, b0, b1, b2]) rfl ⟨by rw [HX.out]; rfl, ?_⟩
      rw [HX.out]
      exact RPost.setNew H.out (RPost.setNew H.out (RPost.setNew H.out HP3.out (Nat.le_refl _) _) (Nat.le_refl _) _) (Nat.le_refl _) _
    | some ys =>
      have HX := hide (HX1.out ys rfl)
      clear HX1 HX1n
      go_enter Try.func20, Try.ntmps20
      go_wp2_with (first
        | (go_at_call 14; refine (HC.out _ HP0.out.1).mono ?_; rintro e w2 ⟨rfl, hpost⟩; have hsz2 := hpost.2.size; simp only [World.size_alloc] at hsz2; have HP2 := hide ((HP0.out.trans hpost).behind (new_below w2 (.cells #[.int .i64 2, .int .i64 0, .string ⟨#[]⟩] 35))); have hbx := (HB0.out.lies hpost.2 (by omega)).keep (new_below w2 (.cells #[.int .i64 2, .int .i64 0, .string ⟨#[]⟩] 35)); have HBX := hide hbx; have HBT := hide (box3_new w2 (.int .i64 2) (.int .i64 0) (.string ⟨#[]⟩) _ rfl); clear hpost hbx)
        | (go_at_call 18; refine (HC1.out _ HP2.out.1 HLf.out).mono ?_; rintro e w3 ⟨a3, n3, c3, rfl, hsrc3, -, hpost⟩; have q3 := hsrc3.conv (cap := c3); have hne : w.heap.size ≠ w2.heap.size := (by omega); have hbt := HBT.out.lies hpost.2 (by omega); have hbx := HBX.out.lies hpost.2 (by omega); have hbs := hbx.other (i := 2) hne (.string (strB xs)); have hbv := hbt.set2 (.string (strB xs)); have HP3 := hide (RPost.setNew H.out (HP2.out.trans hpost) (g := w2.heap.size) (i := 2) (by omega) (.string (strB xs))); have hfl := HP3.out.1.flag; simp only [Option.isSome_some, if_true] at hfl; obtain ⟨t0, t1, t2, u0, u1, u2⟩ := hbt; obtain ⟨b0, b1, b2, d0, d1, d2⟩ := hbs; obtain ⟨v0, v1, v2, -, -, -⟩ := hbv; clear hpost hbx hsrc3))
      refine bodyPost_ret (v := .agg #[.int .i64 2, .int .i64 0, .string (strB xs)]) (by simp [results, Try.results20, go_sem, b0, b1, b2]) rfl ⟨by rw [HX.out]; rfl, ?_⟩
      rw [HX.out]
      exact RPost.setNew H.out (RPost.setNew H.out (RPost.setNew H.out HP3.out (Nat.le_refl _) _) (Nat.le_refl _) _) (Nat.le_refl _) _

end Go.Proofs.Ytpaidekocooliaa
