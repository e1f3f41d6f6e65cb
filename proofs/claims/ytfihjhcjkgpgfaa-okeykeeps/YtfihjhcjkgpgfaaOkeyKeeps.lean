/- For any two slices of values plenumlaw02.OkeyKeeps returns true (of lists that are not few the law itself asks nothing): the bytes of okey.Put stand as okey.Cmp says that the lists do, of lists of Nulls, Ints and Texts without what doesn't count; what was handed in is left as it was. No condition. -/
import Derived.Test.YtfihjhcjkgpgfaaRows
import Derived.WalkKit
import Derived.ProofKit
import Derived.OpenShut
import Derived.ShutString
import Derived.ChangeOld
import Derived.Below
import Derived.Test.YtfihjhcjkgpgfaaOkeyOrderM
import Derived.Test.YtfihjhcjkgpgfaaOkeyPlains
import Derived.Test.YtfihjhcjkgpgfaaOkeyConv
import Derived.Test.YtfihjhcjkgpgfaaOkeyAwake
import Derived.Test.YtfihjhcjkgpgfaaOkeyOpen
import Derived.Deep.RegionWith
namespace Go.Proofs.Ytfihjhcjkgpgfaa.okeyKeeps
open Go.ChangeShapes Go.WideShapes Go.ChangeAt Go.RowKit
open Go.ChangeMaps (open_string shut_string)
set_option linter.unusedVariables false

theorem own : ownKnob Try.prog.godebug = none := by kernel_rfl
theorem laidOut : laidOutB Try.prog = true := by kernel_rfl

open NumMath

theorem two_tests (xs ys : List Val) (hx : ∀ v ∈ xs, Plain v) (hy : ∀ v ∈ ys, Plain v) :
    Op.bytesLess (strB (keyL xs)).toList (strB (keyL ys)).toList = decide (cmpL xs ys < 0) ∧ (!decide (cmpL xs ys < 0) && !((strB (keyL xs)).toList == (strB (keyL ys)).toList)) = decide (0 < cmpL xs ys) := by
  obtain ⟨h1, h2⟩ := keys_tests xs ys hx hy
  rw [h1] at h2
  exact ⟨h1, h2⟩

set_option maxHeartbeats 4000000 in
theorem walk (a0 : Option Addr) (len0 cap0 : Nat) (x0 : List Val) (a1 : Option Addr) (len1 cap1 : Nat) (x1 : List Val) (w : World) (w0 : IsVals w a0 len0 cap0 x0) (w1 : IsVals w a1 len1 cap1 x1) :
    Calls Try.prog 5 #[.slice a0 len0 cap0, .slice a1 len1 cap1] w fun e w' => e = .returned (.bool true) ∧ Below w.heap.size w w' := by
  have HV := hide w0
  have HW := hide w1
  obtain ⟨-, hlc, hm, -, -⟩ := w0
  obtain ⟨-, hlc', hm', -, -⟩ := w1
  unfold maxLen at hm hm'
  have HF0 := hide (few_any a0 len0 cap0 x0)
  have HF1 := hide (few_any a1 len1 cap1 x1)
  cases hf0 : fewB x0
  · go_enter Try.func5, Try.ntmps5
    go_wp2_with (first
      | (go_at_call 9; refine (okawake_any _).mono ?_; rintro e wa ⟨rfl, hba⟩)
      | (go_at_call 10; go_must (refine (HF0.out _ (HV.out.keep hba)).mono ?_); rintro e wb ⟨rfl, hbb⟩))
    go_ret
    exact ⟨rfl, hba.trans (hbb.mono hba.size)⟩
  · cases hf1 : fewB x1
    · go_enter Try.func5, Try.ntmps5
      go_wp2_with (first
        | (go_at_call 9; refine (okawake_any _).mono ?_; rintro e wa ⟨rfl, hba⟩)
        | (go_at_call_of 10 len0; refine (HF0.out _ (HV.out.keep hba)).mono ?_; rintro e wb ⟨rfl, hbb⟩; have hb2 := hba.trans (hbb.mono hba.size); clear hbb)
        | (go_at_call_of 10 len1; go_must (refine (HF1.out _ (HW.out.keep hb2)).mono ?_); rintro e wc ⟨rfl, hbc⟩; have hb3 := hb2.trans (hbc.mono hb2.size); clear hbc))
      go_ret
      exact ⟨rfl, hb3⟩
    · have HK0 := hide (plains_few hf0)
      have HK1 := hide (plains_few hf1)
      have HP0 := hide (plains_plain x0 HV.out.fits)
      have HP1 := hide (plains_plain x1 HW.out.fits)
      have HN0 := hide (few_size hf0).2
      have HN1 := hide (few_size hf1).2
      have HL0 := hide HV.out.1
      have HL1 := hide HW.out.1
      have HT := hide (two_tests _ _ HP0.out HP1.out)
      generalize hps : x0.map plainV = ps at *
      generalize hqs : x1.map plainV = qs at *
      have HPs := hide hps
      have HQs := hide hqs
      clear hps hqs
      go_enter Try.func5, Try.ntmps5
      go_wp2_with (first
        | (go_at_call 9; refine (okawake_any _).mono ?_; rintro e wa ⟨rfl, hba⟩)
        | (go_at_call_of 10 len0; refine (HF0.out _ (HV.out.keep hba)).mono ?_; rintro e wb ⟨rfl, hbb⟩; have hb2 := hba.trans (hbb.mono hba.size); clear hbb)
        | (go_at_call_of 10 len1; refine (HF1.out _ (HW.out.keep hb2)).mono ?_; rintro e wc ⟨rfl, hbc⟩; have hb3 := hb2.trans (hbc.mono hb2.size); clear hbc)
        | (go_at_call_of 20 len0; refine (plains_any a0 len0 cap0 x0 _ (HV.out.keep hb3) ?_).mono ?_; (have h1 := HN0.out; have h2 := HL0.out; omega); rintro e wd ⟨v2, rfl, hown2, hbd⟩; rw [HPs.out] at hown2; obtain ⟨a2, n2, c2, hv2, hIs2⟩ := hown2.at (fun v hv => (HP0.out v hv).1); subst hv2; have HI2 := hide hIs2; have hb4 := hb3.trans (hbd.mono hb3.size); clear hown2 hIs2 hbd)
        | (go_at_call_of 20 len1; refine (plains_any a1 len1 cap1 x1 _ (HW.out.keep hb4) ?_).mono ?_; (have h1 := HN1.out; have h2 := HL1.out; omega); rintro e we ⟨v3, rfl, hown3, hbe⟩; rw [HQs.out] at hown3; obtain ⟨a3, n3, c3, hv3, hIs3⟩ := hown3.at (fun v hv => (HP1.out v hv).1); subst hv3; have HI3 := hide hIs3; have HI2e := hide (HI2.out.keep hbe); have hb5 := hb4.trans (hbe.mono hb4.size); clear hown3 hIs3 hbe))
      go_region_with (first
        | (go_at_call_of 17 n2; refine (okput_any a2 n2 c2 ps _ (HI2e.out.keep ((Below.refl _ _).drew)) ?_).mono ?_; (have := HK0.out; omega); rintro e w6 ⟨v6, rfl, hown6, hb6⟩; have HO6 := hide hown6; have q6 := hown6.holds.conv; have hb6' := below_undrew hb6; clear hown6 hb6)
        | (go_at_call_of 17 n3; refine (okput_any a3 n3 c3 qs _ (HI3.out.keep hb6') ?_).mono ?_; (have := HK1.out; omega); rintro e w7 ⟨v7, rfl, hown7, hb7⟩; have q7 := hown7.holds.conv; have q8 := (HO6.out.keep hb7).holds.conv; have hb7' := hb6'.trans (hb7.mono hb6'.size); clear hown7 hb7))
      all_goals
        obtain ⟨t1, t2⟩ := HT.out
        go_wp2_with (go_at_call 13; refine (cmp_any a2 n2 c2 ps a3 n3 c3 qs _ (HI2e.out.keep hb7') (HI3.out.keep hb7')).mono ?_; rintro e w8 ⟨rfl, hb8⟩; have hb8' := hb5.trans ((hb7'.trans (hb8.mono hb7'.size)).mono hb5.size))
        go_ret
        exact ⟨rfl, hb8'⟩

set_option maxRecDepth 100000 in
theorem lifted (os : Os) (started : os.Started) (H : Type) (enc : TypeId × Value → H) :
    ReturnsInHanded {} Try.checked os 5 .any (Rows.okeyKeepsSpec.pre6 enc Try.prog Try.f5 Rows.okeyKeepsRow.domain false) (Rows.okeyKeepsSpec.post enc Try.prog Try.f5 false true false false) := by
  refine returnsInHanded_of_change (C := Try.checked) own started (by kernel_rfl) Try.func5
    (ChangeSpec.witness6 (enc := enc) (C := Try.checked) false ⟨#[], #[.slice none 0 0, .slice none 0 0], []⟩ 8 (by kernel_rfl) (by kernel_rfl) (by kernel_rfl) (by kernel_rfl)) ?_
  intro W base args ds gs before hval0 hW hcnd _
  have hval : ∀ (j : Nat) t v, Try.f5.params[j]? = some t → args[j]? = some v → Value.okWide Try.prog W .any base t v := hval0
  have hW' := hW
  obtain ⟨p, q, hA0, hV, rfl, hfz, hnd⟩ := hW
  have hA : DataW.TrodAll enc Try.prog W 0 (fun _ => true) true Try.f5.params.toList args.toList ds p := hA0
  rw [Try.params5] at hA hval
  obtain ⟨v0, vs0, d0, ds0, p0, q0, hargs, rfl, rfl, h0, r0⟩ := trodAll_cons hA
  obtain ⟨v1, vs1, d1, ds1, p1, q1, rfl, rfl, rfl, h1, r1⟩ := trodAll_cons r0
  obtain ⟨rfl, rfl, rfl⟩ := trodAll_nil r1
  obtain rfl : args = #[v0, v1] := by cases args; simp_all
  obtain ⟨rfl, rfl⟩ := trodVars_none hV
  obtain ⟨a0, len0, cap0, rfl⟩ := okWide_slice Try.underlying22 (hval 0 22 v0 rfl rfl)
  have k0 := h0
  have lt0 : ∀ x ∈ p0, x.block < W.heap.size := by obtain ⟨m, hm⟩ := k0; exact DataW.trod_lt m _ _ _ hm
  obtain ⟨x0, w0⟩ : ∃ xs, IsVals W a0 len0 cap0 xs := by
    obtain ⟨fuel, hf⟩ := h0
    exact open_vals (by simpa [Value.cells] using hf)
  obtain ⟨a1, len1, cap1, rfl⟩ := okWide_slice Try.underlying22 (hval 1 22 v1 rfl rfl)
  have k1 := h1
  have lt1 : ∀ x ∈ p1, x.block < W.heap.size := by obtain ⟨m, hm⟩ := k1; exact DataW.trod_lt m _ _ _ hm
  obtain ⟨x1, w1⟩ : ∃ xs, IsVals W a1 len1 cap1 xs := by
    obtain ⟨fuel, hf⟩ := h1
    exact open_vals (by simpa [Value.cells] using hf)
  clear hA0 hval0
  refine (walk a0 len0 cap0 x0 a1 len1 cap1 x1 W w0 w1).mono fun e W' ⟨he, bel⟩ => ?_
  subst he
  exact ⟨_, rfl, _, _, _, [], _, [], hW', trodAll_mk1 (shut_bool Try.underlying4 _), (trodAll_cons_mk (Below.trod laidOut (by kernel_rfl) (of_decide_eq_true (by kernel_rfl)) k0 bel lt0) (trodAll_cons_mk (Below.trod laidOut (by kernel_rfl) (of_decide_eq_true (by kernel_rfl)) k1 bel lt1) trodAll_mk0)), rfl, bel.frame _, fun h => by cases h⟩

theorem over : Rows.okeyKeepsRow.holds Try.pinned (OpenSpec.ofChange Rows.okeyKeepsSpec) :=
  OpenClaim.holds_of_wide 5 Try.f5 rfl rfl rfl rfl rfl rfl rfl ⟨rfl, rfl, rfl, rfl, rfl⟩ rfl rfl rfl rfl rfl (by kernel_rfl) Try.func5 (by kernel_rfl)
    (of_decide_eq_true (by kernel_rfl)) (by unfold Func.isWrapper; first | (rw [if_pos (by decide +kernel)]; kernel_rfl) | (rw [if_neg (by decide +kernel)]; exact ⟨rfl, rfl⟩))
    (fun os started H enc _ => lifted os started H enc)

theorem proved : Rows.OkeyKeepsSaid := over
end Go.Proofs.Ytfihjhcjkgpgfaa.okeyKeeps
namespace Go.Proofs.Ytfihjhcjkgpgfaa
theorem okeyKeeps_holds : Rows.OkeyKeepsSaid := okeyKeeps.proved
#print axioms okeyKeeps_holds
end Go.Proofs.Ytfihjhcjkgpgfaa
