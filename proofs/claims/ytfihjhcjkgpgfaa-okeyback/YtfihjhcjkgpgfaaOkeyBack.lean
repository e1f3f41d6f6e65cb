/- For any slice of values and any bytes plenumlaw02.OkeyBack returns true (of a list that is not few, or of more than 300 bytes, the law itself asks nothing): okey.Of of okey.Put is the list without what doesn't count, with no error, and where okey.Of of the bytes gives a list, okey.Put of that list is those bytes again; what was handed in is left as it was. No condition. -/
import Derived.Test.YtfihjhcjkgpgfaaRows
import Derived.WalkKit
import Derived.ProofKit
import Derived.OpenShut
import Derived.ShutString
import Derived.ChangeOld
import Derived.Below
import Derived.Test.YtfihjhcjkgpgfaaOkeyOfC
import Derived.Test.YtfihjhcjkgpgfaaOkeyPlains
import Derived.Test.YtfihjhcjkgpgfaaOkeySame
import Derived.Test.YtfihjhcjkgpgfaaOkeyConv
import Derived.Test.YtfihjhcjkgpgfaaOkeyAwake
import Derived.Test.YtfihjhcjkgpgfaaOkeyOpen
import Derived.Deep.RegionWith
namespace Go.Proofs.Ytfihjhcjkgpgfaa.okeyBack
open Go.ChangeShapes Go.WideShapes Go.ChangeAt Go.RowKit
open Go.ChangeMaps (open_string shut_string)
set_option linter.unusedVariables false

theorem own : ownKnob Try.prog.godebug = none := by kernel_rfl
theorem laidOut : laidOutB Try.prog = true := by kernel_rfl

open NumMath

theorem drew_below (w : World) : Below w.heap.size w w.drew := (Below.refl _ _).drew

set_option maxHeartbeats 4000000 in
theorem walk (a0 : Option Addr) (len0 cap0 : Nat) (x0 : List Val) (a1 : Option Addr) (len1 cap1 : Nat) (x1 : List Int) (w : World) (w0 : IsVals w a0 len0 cap0 x0) (w1 : IsBytes w a1 len1 cap1 x1) :
    Calls Try.prog 6 #[.slice a0 len0 cap0, .slice a1 len1 cap1] w fun e w' => e = .returned (.bool true) ∧ Below w.heap.size w w' := by
  have HV := hide w0
  have HW := hide w1
  obtain ⟨-, hlc, hm, -, -⟩ := w0
  obtain ⟨-, hlc', hm', -, -⟩ := w1
  unfold maxLen at hm hm'
  have HF0 := hide (few_any a0 len0 cap0 x0)
  cases hf0 : fewB x0
  · go_enter Try.func6, Try.ntmps6
    go_wp2_with (first
      | (go_at_call 9; refine (okawake_any _).mono ?_; rintro e wa ⟨rfl, hba⟩)
      | (go_at_call 10; go_must (refine (HF0.out _ (HV.out.keep hba)).mono ?_); rintro e wb ⟨rfl, hbb⟩))
    go_ret
    exact ⟨rfl, hba.trans (hbb.mono hba.size)⟩
  · by_cases h300 : (300 : Int) < (len1 : Int)
    · go_enter Try.func6, Try.ntmps6
      go_wp2_with (first
        | (go_at_call 9; refine (okawake_any _).mono ?_; rintro e wa ⟨rfl, hba⟩)
        | (go_at_call 10; go_must (refine (HF0.out _ (HV.out.keep hba)).mono ?_); rintro e wb ⟨rfl, hbb⟩))
      go_ret
      exact ⟨rfl, hba.trans (hbb.mono hba.size)⟩
    · have HK := hide (few_key hf0)
      have h300' : len1 ≤ 300 := by omega
      have HPp := hide (plains_plain x0 HV.out.fits)
      have HLn := hide (few_size hf0).2
      have HL0 := hide HV.out.1
      go_enter Try.func6, Try.ntmps6
      go_wp2_with (first
        | (go_at_call 9; refine (okawake_any _).mono ?_; rintro e wa ⟨rfl, hba⟩)
        | (go_at_call 10; refine (HF0.out _ (HV.out.keep hba)).mono ?_; rintro e wb ⟨rfl, hbb⟩; have hb2 := hba.trans (hbb.mono hba.size); clear hbb)
        | (go_at_call 17; refine (okput_any a0 len0 cap0 x0 _ (HV.out.keep hb2) ?_).mono ?_; (have := HK.out; omega); rintro e wc ⟨v1, rfl, hown1, hbc⟩; obtain ⟨aa, ca, hv1, hIs1⟩ := hown1.is (keyL_range x0); subst hv1; have HIs1 := hide hIs1; have hb3 := hb2.trans (hbc.mono hb2.size); clear hown1 hIs1 hbc)
        | (go_at_call_of 15 (keyL x0).length; refine (okof_any _ _ _ (keyL x0) _ HIs1.out ?_).mono ?_; (have := HK.out; omega); rintro e wd ⟨hres, hbd⟩; have hb4 := hb3.trans (hbd.mono hb3.size); rcases hres with ⟨v2, vs, rfl, hown2, hpl2, hk2⟩ | ⟨rfl, hno2⟩ <;> first | (have hvs := keyL_inj hpl2 HPp.out (hk2.trans (keyL_plain x0).symm); subst hvs; have HO2 := hide hown2; clear hown2 hpl2 hk2 hbd) | (exact absurd (keyL_plain x0) (hno2 _ HPp.out)))
        | (go_at_call_of 15 len1; refine (okof_any a1 len1 cap1 x1 _ (HW.out.keep hb4) ?_).mono ?_; omega; rintro e we ⟨hres, hbe⟩; have hb5 := hb4.trans (hbe.mono hb4.size); have HO3 := hide (HO2.out.keep hbe); clear hbe; rcases hres with ⟨v3, ys, rfl, hown3, hpl3, hk3⟩ | ⟨he3, hno3⟩ <;> first | (have HO4 := hide hown3; have HP3 := hide hpl3; clear hown3 hpl3; subst hk3) | (obtain ⟨er, he4, hne⟩ : ∃ er : Int, e = .returned (.tuple #[.slice none 0 0, .int .i64 er]) ∧ (er == 0) = false := ⟨20, he3, by decide⟩; subst he4; clear hno3 he3)))
      · have HFp := hide (fun v hv => (HPp.out v hv).1)
        obtain ⟨a2, n2, c2, rfl, hIs2⟩ := HO3.out.at HFp.out
        obtain ⟨a3, n3, c3, rfl, hIs3⟩ := HO4.out.at (fun v hv => (HP3.out v hv).1)
        have HI2 := hide hIs2
        have HI3 := hide hIs3
        have HLe := hide HW.out.1
        clear hIs2 hIs3
        have hqa := (HW.out.keep hb5.drew).conv
        go_region_with (first
            | (go_at_call 20; refine (plains_any a0 len0 cap0 x0 _ (HV.out.keep hb5.drew) ?_).mono ?_; (have h1 := HLn.out; have h2 := HL0.out; omega); rintro e w6 ⟨v4, rfl, hown4, hb6⟩; obtain ⟨a4, n4, c4, hv4, hIs4⟩ := hown4.at HFp.out; subst hv4; have HI4 := hide hIs4; have hb6' := hb5.trans ((below_undrew hb6).mono hb5.size); have HI2b := hide (HI2.out.keep (below_undrew hb6)); have hqb := (HW.out.keep hb6').conv; clear hown4 hIs4)
            | (go_at_call 19; refine (same_any a2 n2 c2 a4 n4 c4 (x0.map plainV) _ HI2b.out HI4.out).mono ?_; rintro e w7 ⟨rfl, hb7⟩; have hb7' := hb6'.trans (hb7.mono hb6'.size); have hb57 := ((below_undrew hb6).trans (hb7.mono hb6.size)); have hqc := (HW.out.keep hb7').conv)
            | (go_at_call 17; refine (okput_any a3 n3 c3 ys _ (HI3.out.keep hb57) ?_).mono ?_; (have h1 := HLe.out; omega); rintro e w8 ⟨v8, rfl, hown8, hb8⟩; have hq8 := hown8.holds.conv; have hb8' := hb7'.trans (hb8.mono hb7'.size); have hqd := (HW.out.keep hb8').conv; clear hown8))
        all_goals
          go_wp2
          go_ret
          exact ⟨rfl, hb8'⟩
      · have HFp := hide (fun v hv => (HPp.out v hv).1)
        obtain ⟨a2, n2, c2, rfl, hIs2⟩ := HO3.out.at HFp.out
        have HI2 := hide hIs2
        clear hIs2
        have hqa := (HW.out.keep hb5.drew).conv
        have hne' : (er != 0) = true := by simp [bne, hne]
        first
          | (go_region_with (first
            | (go_at_call 20; refine (plains_any a0 len0 cap0 x0 _ (HV.out.keep hb5.drew) ?_).mono ?_; (have h1 := HLn.out; have h2 := HL0.out; omega); rintro e w6 ⟨v4, rfl, hown4, hb6⟩; obtain ⟨a4, n4, c4, hv4, hIs4⟩ := hown4.at HFp.out; subst hv4; have HI4 := hide hIs4; have hb6' := hb5.trans ((below_undrew hb6).mono hb5.size); have HI2b := hide (HI2.out.keep (below_undrew hb6)); have hqb := (HW.out.keep hb6').conv; clear hown4 hIs4)
            | (go_at_call 19; refine (same_any a2 n2 c2 a4 n4 c4 (x0.map plainV) _ HI2b.out HI4.out).mono ?_; rintro e w7 ⟨rfl, hb7⟩; have hb7' := hb6'.trans (hb7.mono hb6'.size); have hb57 := ((below_undrew hb6).trans (hb7.mono hb6.size)); have hqc := (HW.out.keep hb7').conv)))
          | fail
        all_goals
          go_wp2
          go_ret
          exact ⟨rfl, hb7'⟩

set_option maxRecDepth 100000 in
theorem lifted (os : Os) (started : os.Started) (H : Type) (enc : TypeId × Value → H) :
    ReturnsInHanded {} Try.checked os 6 .any (Rows.okeyBackSpec.pre6 enc Try.prog Try.f6 Rows.okeyBackRow.domain false) (Rows.okeyBackSpec.post enc Try.prog Try.f6 false true false false) := by
  refine returnsInHanded_of_change (C := Try.checked) own started (by kernel_rfl) Try.func6
    (ChangeSpec.witness6 (enc := enc) (C := Try.checked) false ⟨#[], #[.slice none 0 0, .slice none 0 0], []⟩ 8 (by kernel_rfl) (by kernel_rfl) (by kernel_rfl) (by kernel_rfl)) ?_
  intro W base args ds gs before hval0 hW hcnd _
  have hval : ∀ (j : Nat) t v, Try.f6.params[j]? = some t → args[j]? = some v → Value.okWide Try.prog W .any base t v := hval0
  have hW' := hW
  obtain ⟨p, q, hA0, hV, rfl, hfz, hnd⟩ := hW
  have hA : DataW.TrodAll enc Try.prog W 0 (fun _ => true) true Try.f6.params.toList args.toList ds p := hA0
  rw [Try.params6] at hA hval
  obtain ⟨v0, vs0, d0, ds0, p0, q0, hargs, rfl, rfl, h0, r0⟩ := trodAll_cons hA
  obtain ⟨v1, vs1, d1, ds1, p1, q1, rfl, rfl, rfl, h1, r1⟩ := trodAll_cons r0
  obtain ⟨rfl, rfl, rfl⟩ := trodAll_nil r1
  obtain rfl : args = #[v0, v1] := by cases args; simp_all
  obtain ⟨rfl, rfl⟩ := trodVars_none hV
  obtain ⟨a0, len0, cap0, rfl⟩ := okWide_slice Try.underlying22 (hval 0 22 v0 rfl rfl)
  have k0 := h0
  have lt0 : ∀ x ∈ p0, x.block < W.heap.size := by obtain ⟨m, hm⟩ := k0; exact DataW.trod_lt m _ _ _ hm
  obtain ⟨x0, w0⟩ : ∃ xs, IsVals W a0 len0 cap0 xs := by
    obtain ⟨fuel, hf⟩ := h0
    exact open_vals (by simpa [Value.cells] using hf)
  obtain ⟨a1, len1, cap1, rfl⟩ := okWide_slice Try.underlying31 (hval 1 31 v1 rfl rfl)
  have k1 := h1
  have lt1 : ∀ x ∈ p1, x.block < W.heap.size := by obtain ⟨m, hm⟩ := k1; exact DataW.trod_lt m _ _ _ hm
  obtain ⟨x1, w1⟩ : ∃ xs, IsBytes W a1 len1 cap1 xs := by
    obtain ⟨fuel, hf⟩ := h1
    exact open_bytes (by simpa [Value.cells] using hf)
  clear hA0 hval0
  refine (walk a0 len0 cap0 x0 a1 len1 cap1 x1 W w0 w1).mono fun e W' ⟨he, bel⟩ => ?_
  subst he
  exact ⟨_, rfl, _, _, _, [], _, [], hW', trodAll_mk1 (shut_bool Try.underlying4 _), (trodAll_cons_mk (Below.trod laidOut (by kernel_rfl) (of_decide_eq_true (by kernel_rfl)) k0 bel lt0) (trodAll_cons_mk (Below.trod laidOut (by kernel_rfl) (of_decide_eq_true (by kernel_rfl)) k1 bel lt1) trodAll_mk0)), rfl, bel.frame _, fun h => by cases h⟩

theorem over : Rows.okeyBackRow.holds Try.pinned (OpenSpec.ofChange Rows.okeyBackSpec) :=
  OpenClaim.holds_of_wide 6 Try.f6 rfl rfl rfl rfl rfl rfl rfl ⟨rfl, rfl, rfl, rfl, rfl⟩ rfl rfl rfl rfl rfl (by kernel_rfl) Try.func6 (by kernel_rfl)
    (of_decide_eq_true (by kernel_rfl)) (by unfold Func.isWrapper; first | (rw [if_pos (by decide +kernel)]; kernel_rfl) | (rw [if_neg (by decide +kernel)]; exact ⟨rfl, rfl⟩))
    (fun os started H enc _ => lifted os started H enc)

theorem proved : Rows.OkeyBackSaid := over
end Go.Proofs.Ytfihjhcjkgpgfaa.okeyBack
namespace Go.Proofs.Ytfihjhcjkgpgfaa
theorem okeyBack_holds : Rows.OkeyBackSaid := okeyBack.proved
#print axioms okeyBack_holds
end Go.Proofs.Ytfihjhcjkgpgfaa
