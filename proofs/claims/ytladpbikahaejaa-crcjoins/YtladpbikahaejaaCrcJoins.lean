/- For any bytes a and b and any int n plenumlaw04.CrcJoins returns true (of more than 300 bytes in one of them the law itself asks nothing): crc.Join is 0 where n is below 0 or above 65,536, and of the document's sums of a and b and b's length it is the document's sum of a and b, one behind the other; what was handed in is left as it was. No condition. -/
import Derived.Test.YtladpbikahaejaaRows
import Derived.WalkKit
import Derived.ProofKit
import Derived.OpenShut
import Derived.ShutString
import Derived.ChangeOld
import Derived.Below
import Derived.Test.YtladpbikahaejaaCrcWalks
import Derived.Deep.RegionWith
import Derived.BigRegion
namespace Go.Proofs.Ytladpbikahaejaa.crcJoins
open Go.ChangeShapes Go.WideShapes Go.ChangeAt Go.RowKit
open Go.ChangeMaps (open_string shut_string)
set_option linter.unusedVariables false

theorem own : ownKnob Try.prog.godebug = none := by kernel_rfl
theorem laidOut : laidOutB Try.prog = true := by kernel_rfl

open NumMath

set_option maxHeartbeats 4000000 in
theorem walk (a0 : Option Addr) (len0 cap0 : Nat) (x0 : List Int) (a1 : Option Addr) (len1 cap1 : Nat) (x1 : List Int) (a2 : Int) (w : World) (w0 : IsBytes w a0 len0 cap0 x0) (w1 : IsBytes w a1 len1 cap1 x1) (w2 : (Lit.int .i64 a2).wf = true) :
    Calls Try.prog 5 #[.slice a0 len0 cap0, .slice a1 len1 cap1, .int .i64 a2] w fun e w' => e = .returned (.bool true) ∧ Below w.heap.size w w' := by
  have H0 := hide w0
  have H1 := hide w1
  obtain ⟨n1, n2⟩ := wf_i64 w2
  have hm0 : (len0 : Int) ≤ 9223372036854775807 := by have := w0.2.1; have := w0.2.2.1; unfold maxLen at this; omega
  have hm1 : (len1 : Int) ≤ 9223372036854775807 := by have := w1.2.1; have := w1.2.2.1; unfold maxLen at this; omega
  clear w0 w1 w2
  by_cases h5 : (300 : Int) < (len0 : Int) ∨ (300 : Int) < (len1 : Int)
  · by_cases g0 : (300 : Int) < (len0 : Int)
    · go_enter Try.func5, Try.ntmps5
      go_wp2_with (go_at_call 7; refine (crcawake_any _).mono ?_; rintro e wa ⟨rfl, hba⟩)
      go_ret
      exact ⟨rfl, hba⟩
    · have g1 : (300 : Int) < (len1 : Int) := by omega
      go_enter Try.func5, Try.ntmps5
      go_wp2_with (go_at_call 7; refine (crcawake_any _).mono ?_; rintro e wa ⟨rfl, hba⟩)
      go_ret
      exact ⟨rfl, hba⟩
  · have g0 : ¬ (300 : Int) < (len0 : Int) := by omega
    have g1 : ¬ (300 : Int) < (len1 : Int) := by omega
    clear h5
    have HR : Hid (∀ b ∈ x0 ++ x1, 0 ≤ b ∧ b < 256) := fun b hb => by rcases List.mem_append.1 hb with hb | hb; exact H0.out.2.2.2.1 b hb; exact H1.out.2.2.2.1 b hb
    have HL0 : Hid (x0.length ≤ 300) := by have := H0.out.1; show _ ≤ _; omega
    have HL1 : Hid (x1.length ≤ 300) := by have := H1.out.1; show _ ≤ _; omega
    have HJ := hide (join_sum x0 x1 H0.out.2.2.2.1 H1.out.2.2.2.1 (by have := HL1.out; omega))
    rw [H1.out.1] at HJ
    obtain ⟨p1, p2⟩ := crcSumI_range x0 H0.out.2.2.2.1
    obtain ⟨q1, q2⟩ := crcSumI_range x1 H1.out.2.2.2.1
    by_cases hn : a2 < 0 ∨ 65536 < a2
    · have HN : Hid (joinI 1 2 a2 = 0) := if_pos hn
      by_cases hn0 : a2 < 0
      · go_enter Try.func5, Try.ntmps5
        go_wp2_with (first
          | (go_at_call 7; refine (crcawake_any _).mono ?_; rintro e wa ⟨rfl, hba⟩; have hsz := hba.size; have H0a := hide (H0.out.keep hba); have H1a := hide (H1.out.keep hba))
          | (go_at_call_of 13 a2; refine (join_any 1 2 a2 _ (by omega) (by omega) (by omega) (by omega) n1 n2).mono ?_; rw [HN.out]; rintro e w' ⟨rfl, hw⟩; have hw := hw.symm; subst hw)
          | (go_at_call_of 11 len0; refine (rsum_any a0 len0 cap0 x0 _ H0a.out).mono ?_; rintro e w' ⟨rfl, hw⟩; have hw := hw.symm; subst hw)
          | (go_at_call_of 11 len1; refine (rsum_any a1 len1 cap1 x1 _ H1a.out).mono ?_; rintro e w' ⟨rfl, hw⟩; have hw := hw.symm; subst hw)
          | (go_at_call 13; refine (join_any (crcSumI x0) (crcSumI x1) (len1 : Int) _ p1 p2 q1 q2 (by omega) (by omega)).mono ?_; rw [HJ.out]; rintro e w' ⟨rfl, hw⟩; have hw := hw.symm; subst hw)
          | (at_builtin; refine wp_joinB _ rfl _ (.tmp 37) rfl wa.heap.size _ _ rfl HO3.out a1 len1 cap1 x1 rfl H13.out (by have := HL0.out; have := HL1.out; simp only [List.nil_append]; omega) hsz3 ?_; intro v4 w4 hown4 hg4 hat4; have hb4 := hb3.trans (HO3.out.grown hg4 hsz3); obtain ⟨a4, n4, cap4, e4, hI4⟩ := hown4.at (by simpa using HR.out); subst e4; have HI4 := hide hI4; clear hown4 hg4 hat4 hI4)
          | (at_builtin; go_must (refine wp_joinB _ rfl _ (.tmp 35) rfl wa.heap.size _ [] rfl (ownB_nil _ _) a0 len0 cap0 x0 rfl H0a.out.src (by have := HL0.out; simp; omega) (Nat.le_refl _) ?_); intro v3 w3 hown3 hg3 hat3; have hb3 := (ownB_nil wa wa.heap.size).grown hg3 (Nat.le_refl _); have HO3 := hide hown3; have hsz3 := hb3.size; have H13 := hide ((H1a.out.keep hb3).src); clear hown3 hg3 hat3)
          | (go_at_call 11; refine (rsum_any a4 n4 cap4 _ _ HI4.out).mono ?_; rintro e w' ⟨rfl, hw⟩; have hw := hw.symm; subst hw))
        go_ret
        exact ⟨rfl, hba.trans (hb4.mono hsz)⟩
      · have hn1 : 65536 < a2 := by omega
        go_enter Try.func5, Try.ntmps5
        go_wp2_with (first
          | (go_at_call 7; refine (crcawake_any _).mono ?_; rintro e wa ⟨rfl, hba⟩; have hsz := hba.size; have H0a := hide (H0.out.keep hba); have H1a := hide (H1.out.keep hba))
          | (go_at_call_of 13 a2; refine (join_any 1 2 a2 _ (by omega) (by omega) (by omega) (by omega) n1 n2).mono ?_; rw [HN.out]; rintro e w' ⟨rfl, hw⟩; have hw := hw.symm; subst hw)
          | (go_at_call_of 11 len0; refine (rsum_any a0 len0 cap0 x0 _ H0a.out).mono ?_; rintro e w' ⟨rfl, hw⟩; have hw := hw.symm; subst hw)
          | (go_at_call_of 11 len1; refine (rsum_any a1 len1 cap1 x1 _ H1a.out).mono ?_; rintro e w' ⟨rfl, hw⟩; have hw := hw.symm; subst hw)
          | (go_at_call 13; refine (join_any (crcSumI x0) (crcSumI x1) (len1 : Int) _ p1 p2 q1 q2 (by omega) (by omega)).mono ?_; rw [HJ.out]; rintro e w' ⟨rfl, hw⟩; have hw := hw.symm; subst hw)
          | (at_builtin; refine wp_joinB _ rfl _ (.tmp 37) rfl wa.heap.size _ _ rfl HO3.out a1 len1 cap1 x1 rfl H13.out (by have := HL0.out; have := HL1.out; simp only [List.nil_append]; omega) hsz3 ?_; intro v4 w4 hown4 hg4 hat4; have hb4 := hb3.trans (HO3.out.grown hg4 hsz3); obtain ⟨a4, n4, cap4, e4, hI4⟩ := hown4.at (by simpa using HR.out); subst e4; have HI4 := hide hI4; clear hown4 hg4 hat4 hI4)
          | (at_builtin; go_must (refine wp_joinB _ rfl _ (.tmp 35) rfl wa.heap.size _ [] rfl (ownB_nil _ _) a0 len0 cap0 x0 rfl H0a.out.src (by have := HL0.out; simp; omega) (Nat.le_refl _) ?_); intro v3 w3 hown3 hg3 hat3; have hb3 := (ownB_nil wa wa.heap.size).grown hg3 (Nat.le_refl _); have HO3 := hide hown3; have hsz3 := hb3.size; have H13 := hide ((H1a.out.keep hb3).src); clear hown3 hg3 hat3)
          | (go_at_call 11; refine (rsum_any a4 n4 cap4 _ _ HI4.out).mono ?_; rintro e w' ⟨rfl, hw⟩; have hw := hw.symm; subst hw))
        go_ret
        exact ⟨rfl, hba.trans (hb4.mono hsz)⟩
    · have hn0 : ¬ a2 < 0 := by omega
      have hn1 : ¬ 65536 < a2 := by omega
      go_enter Try.func5, Try.ntmps5
      go_wp2_with (first
        | (go_at_call 7; refine (crcawake_any _).mono ?_; rintro e wa ⟨rfl, hba⟩; have hsz := hba.size; have H0a := hide (H0.out.keep hba); have H1a := hide (H1.out.keep hba))
        | (go_at_call_of 11 len0; refine (rsum_any a0 len0 cap0 x0 _ H0a.out).mono ?_; rintro e w' ⟨rfl, hw⟩; have hw := hw.symm; subst hw)
        | (go_at_call_of 11 len1; refine (rsum_any a1 len1 cap1 x1 _ H1a.out).mono ?_; rintro e w' ⟨rfl, hw⟩; have hw := hw.symm; subst hw)
        | (go_at_call 13; refine (join_any (crcSumI x0) (crcSumI x1) (len1 : Int) _ p1 p2 q1 q2 (by omega) (by omega)).mono ?_; rw [HJ.out]; rintro e w' ⟨rfl, hw⟩; have hw := hw.symm; subst hw)
        | (at_builtin; refine wp_joinB _ rfl _ (.tmp 37) rfl wa.heap.size _ _ rfl HO3.out a1 len1 cap1 x1 rfl H13.out (by have := HL0.out; have := HL1.out; simp only [List.nil_append]; omega) hsz3 ?_; intro v4 w4 hown4 hg4 hat4; have hb4 := hb3.trans (HO3.out.grown hg4 hsz3); obtain ⟨a4, n4, cap4, e4, hI4⟩ := hown4.at (by simpa using HR.out); subst e4; have HI4 := hide hI4; clear hown4 hg4 hat4 hI4)
        | (at_builtin; go_must (refine wp_joinB _ rfl _ (.tmp 35) rfl wa.heap.size _ [] rfl (ownB_nil _ _) a0 len0 cap0 x0 rfl H0a.out.src (by have := HL0.out; simp; omega) (Nat.le_refl _) ?_); intro v3 w3 hown3 hg3 hat3; have hb3 := (ownB_nil wa wa.heap.size).grown hg3 (Nat.le_refl _); have HO3 := hide hown3; have hsz3 := hb3.size; have H13 := hide ((H1a.out.keep hb3).src); clear hown3 hg3 hat3)
        | (go_at_call 11; refine (rsum_any a4 n4 cap4 _ _ HI4.out).mono ?_; rintro e w' ⟨rfl, hw⟩; have hw := hw.symm; subst hw))
      go_ret
      exact ⟨rfl, hba.trans (hb4.mono hsz)⟩

set_option maxRecDepth 100000 in
theorem lifted (os : Os) (started : os.Started) (H : Type) (enc : TypeId × Value → H) :
    ReturnsInHanded {} Try.checked os 5 .any (Rows.crcJoinsSpec.pre6 enc Try.prog Try.f5 Rows.crcJoinsRow.domain false) (Rows.crcJoinsSpec.post enc Try.prog Try.f5 false true false false) := by
  refine returnsInHanded_of_change (C := Try.checked) own started (by kernel_rfl) Try.func5
    (ChangeSpec.witness6 (enc := enc) (C := Try.checked) false ⟨#[], #[.slice none 0 0, .slice none 0 0, .int .i64 0], []⟩ 8 (by kernel_rfl) (by kernel_rfl) (by kernel_rfl) (by kernel_rfl)) ?_
  intro W base args ds gs before hval0 hW hcnd _
  have hval : ∀ (j : Nat) t v, Try.f5.params[j]? = some t → args[j]? = some v → Value.okWide Try.prog W .any base t v := hval0
  have hW' := hW
  obtain ⟨p, q, hA0, hV, rfl, hfz, hnd⟩ := hW
  have hA : DataW.TrodAll enc Try.prog W 0 (fun _ => true) true Try.f5.params.toList args.toList ds p := hA0
  rw [Try.params5] at hA hval
  obtain ⟨v0, vs0, d0, ds0, p0, q0, hargs, rfl, rfl, h0, r0⟩ := trodAll_cons hA
  obtain ⟨v1, vs1, d1, ds1, p1, q1, rfl, rfl, rfl, h1, r1⟩ := trodAll_cons r0
  obtain ⟨v2, vs2, d2, ds2, p2, q2, rfl, rfl, rfl, h2, r2⟩ := trodAll_cons r1
  obtain ⟨rfl, rfl, rfl⟩ := trodAll_nil r2
  obtain rfl : args = #[v0, v1, v2] := by cases args; simp_all
  obtain ⟨rfl, rfl⟩ := trodVars_none hV
  obtain ⟨a0, len0, cap0, rfl⟩ := okWide_slice Try.underlying23 (hval 0 23 v0 rfl rfl)
  have k0 := h0
  have lt0 : ∀ x ∈ p0, x.block < W.heap.size := by obtain ⟨m, hm⟩ := k0; exact DataW.trod_lt m _ _ _ hm
  obtain ⟨x0, w0⟩ : ∃ xs, IsBytes W a0 len0 cap0 xs := by
    obtain ⟨fuel, hf⟩ := h0
    exact open_bytes (by simpa [Value.cells] using hf)
  obtain ⟨a1, len1, cap1, rfl⟩ := okWide_slice Try.underlying23 (hval 1 23 v1 rfl rfl)
  have k1 := h1
  have lt1 : ∀ x ∈ p1, x.block < W.heap.size := by obtain ⟨m, hm⟩ := k1; exact DataW.trod_lt m _ _ _ hm
  obtain ⟨x1, w1⟩ : ∃ xs, IsBytes W a1 len1 cap1 xs := by
    obtain ⟨fuel, hf⟩ := h1
    exact open_bytes (by simpa [Value.cells] using hf)
  have k2 := h2
  have lt2 : ∀ x ∈ p2, x.block < W.heap.size := by obtain ⟨m, hm⟩ := k2; exact DataW.trod_lt m _ _ _ hm
  obtain ⟨a2, rfl, w2⟩ : ∃ n, v2 = .int .i64 n ∧ (Lit.int .i64 n).wf = true := by
    obtain ⟨n, hn, _, _, hw⟩ := open_int Try.underlying3 (hval 2 3 v2 rfl rfl) h2
    exact ⟨n, hn, hw⟩
  clear hA0 hval0
  refine (walk a0 len0 cap0 x0 a1 len1 cap1 x1 a2 W w0 w1 w2).mono fun e W' ⟨he, bel⟩ => ?_
  subst he
  exact ⟨_, rfl, _, _, _, [], _, [], hW', trodAll_mk1 (shut_bool Try.underlying4 _), (trodAll_cons_mk (Below.trod laidOut (by kernel_rfl) (of_decide_eq_true (by kernel_rfl)) k0 bel lt0) (trodAll_cons_mk (Below.trod laidOut (by kernel_rfl) (of_decide_eq_true (by kernel_rfl)) k1 bel lt1) (trodAll_cons_mk (Below.trod laidOut (by kernel_rfl) (of_decide_eq_true (by kernel_rfl)) k2 bel lt2) trodAll_mk0))), rfl, bel.frame _, fun h => by cases h⟩

theorem over : Rows.crcJoinsRow.holds Try.pinned (OpenSpec.ofChange Rows.crcJoinsSpec) :=
  OpenClaim.holds_of_wide 5 Try.f5 rfl rfl rfl rfl rfl rfl rfl ⟨rfl, rfl, rfl, rfl, rfl⟩ rfl rfl rfl rfl rfl (by kernel_rfl) Try.func5 (by kernel_rfl)
    (of_decide_eq_true (by kernel_rfl)) (by unfold Func.isWrapper; first | (rw [if_pos (by decide +kernel)]; kernel_rfl) | (rw [if_neg (by decide +kernel)]; exact ⟨rfl, rfl⟩))
    (fun os started H enc _ => lifted os started H enc)

theorem proved : Rows.CrcJoinsSaid := over
end Go.Proofs.Ytladpbikahaejaa.crcJoins
namespace Go.Proofs.Ytladpbikahaejaa
theorem crcJoins_holds : Rows.CrcJoinsSaid := crcJoins.proved
#print axioms crcJoins_holds
end Go.Proofs.Ytladpbikahaejaa
