/- For any slice of values and any bytes plenumlaw03.RowRows returns true (of more than 40 values, of values whose first twenty are not few, or of more than 500 bytes, the law itself asks nothing): row.Put of the values and row.Of of the bytes answer as the document's reference does, the error too; what was handed in is left as it was. No condition. -/
import Derived.Test.YtpaidekocooliaaRows
import Derived.WalkKit
import Derived.ProofKit
import Derived.OpenShut
import Derived.ShutString
import Derived.ChangeOld
import Derived.Below
import Derived.Test.YtpaidekocooliaaRowPut
import Derived.Test.YtpaidekocooliaaRowOf
import Derived.Test.YtpaidekocooliaaOkeySame
namespace Go.Proofs.Ytpaidekocooliaa.rowRows
open Go.ChangeShapes Go.WideShapes Go.ChangeAt Go.RowKit
open Go.ChangeMaps (open_string shut_string)
set_option linter.unusedVariables false

theorem own : ownKnob Try.prog.godebug = none := by kernel_rfl
theorem laidOut : laidOutB Try.prog = true := by kernel_rfl

open NumMath

set_option maxRecDepth 20000 in
set_option maxHeartbeats 16000000 in
theorem walk (a0 : Option Addr) (len0 cap0 : Nat) (x0 : List Val) (a1 : Option Addr) (len1 cap1 : Nat) (x1 : List Int) (w : World) (w0 : IsVals w a0 len0 cap0 x0) (w1 : IsBytes w a1 len1 cap1 x1) :
    Calls Try.prog 6 #[.slice a0 len0 cap0, .slice a1 len1 cap1] w fun e w' => e = .returned (.bool true) ∧ Below w.heap.size w w' := by
  have HV := hide w0
  have HW := hide w1
  have HFz := hide (ofL_fits x1 w1.2.2.2.1)
  obtain ⟨-, hlc, hm, -, -⟩ := w0
  obtain ⟨-, hlc', hm', -, -⟩ := w1
  unfold maxLen at hm hm'
  by_cases h40 : (40 : Int) < (len0 : Int)
  · go_enter Try.func6, Try.ntmps6
    go_wp2_with (first
      | (go_at_call 9; refine (rowawake_any _).mono ?_; rintro e wa ⟨rfl, hba⟩))
    go_ret
    exact ⟨rfl, hba⟩
  · by_cases h20 : (len0 : Int) ≤ 20
    · have HF0 := hide (few_any a0 len0 cap0 (x0.take len0))
      have HVt := hide (isVals_take HV.out len0 (by omega))
      cases hf0 : fewB (x0.take len0)
      · rw [hf0] at HF0
        go_enter Try.func6, Try.ntmps6
        go_wp2_with (first
          | (go_at_call 9; refine (rowawake_any _).mono ?_; rintro e wa ⟨rfl, hba⟩)
          | (go_at_call 25; go_must (refine (HF0.out _ (HVt.out.keep hba)).mono ?_); rintro e wb ⟨rfl, hbb⟩; have hb2 := hba.trans (hbb.mono hba.size); clear hbb))
        go_ret
        exact ⟨rfl, hb2⟩
      · rw [hf0] at HF0
        clear hf0
        by_cases h500 : (500 : Int) < (len1 : Int)
        · skip
          go_enter Try.func6, Try.ntmps6
          go_wp2_with (first
            | (go_at_call 9; refine (rowawake_any _).mono ?_; rintro e wa ⟨rfl, hba⟩)
            | (go_at_call 25; go_must (refine (HF0.out _ (HVt.out.keep hba)).mono ?_); rintro e wb ⟨rfl, hbb⟩; have hb2 := hba.trans (hbb.mono hba.size); clear hbb))
          go_ret
          exact ⟨rfl, hb2⟩
        · cases hro : rowOK x0
          · have HR := hide hro
            clear hro
            go_enter Try.func6, Try.ntmps6
            go_wp2_with (first
              | (go_at_call 9; refine (rowawake_any _).mono ?_; rintro e wa ⟨rfl, hba⟩)
              | (go_at_call 25; go_must (refine (HF0.out _ (HVt.out.keep hba)).mono ?_); rintro e wb ⟨rfl, hbb⟩; have hb2 := hba.trans (hbb.mono hba.size); clear hbb)
              | (go_at_call 26; refine (put_any a0 len0 cap0 x0 _ (HV.out.keep hb2)).mono ?_; rintro e wc hpost; obtain ⟨he, hbc⟩ := hpost.no HR.out; subst he; have hb3 := hb2.trans (hbc.mono hb2.size); clear hpost hbc)
              | (go_at_call 27; refine (rrow_any a0 len0 cap0 x0 _ (HV.out.keep hb3)).mono ?_; rintro e wd hpost; obtain ⟨he, hbd⟩ := hpost.no HR.out; subst he; have hb4 := hb3.trans (hbd.mono hb3.size); clear hpost hbd)
              | (go_at_call 28; refine (of_any a1 len1 cap1 x1 _ (HW.out.keep hb4) (by omega)).mono ?_; rintro e we ⟨vz, rfl, hoz, hbe⟩; have HOz := hide hoz; have hb5 := hb4.trans (hbe.mono hb4.size); clear hoz)
              | (go_at_call 29; refine (unrow_any a1 len1 cap1 x1 _ (HW.out.keep hb5) (by omega)).mono ?_; rintro e wf ⟨vw, rfl, how, hbf⟩; obtain ⟨az, nz, cz, rfl, hIz⟩ := (HOz.out.keep hbf).at HFz.out; obtain ⟨aw, nw, cw, rfl, hIw⟩ := how.at HFz.out; have HIz := hide hIz; have HIw := hide hIw; have hb6 := hb5.trans (hbf.mono hb5.size); have qx := conv_none wf none 0; clear how hIz hIw hbf)
              | (go_at_call 30; refine (same_any az nz cz aw nw cw _ _ HIz.out HIw.out).mono ?_; rintro e wg ⟨rfl, hbg⟩; have hb7 := hb6.trans (hbg.mono hb6.size)))
            go_ret
            exact ⟨rfl, hb7⟩
          · have HR := hide hro
            clear hro
            go_enter Try.func6, Try.ntmps6
            go_wp2_with (first
              | (go_at_call 9; refine (rowawake_any _).mono ?_; rintro e wa ⟨rfl, hba⟩)
              | (go_at_call 25; go_must (refine (HF0.out _ (HVt.out.keep hba)).mono ?_); rintro e wb ⟨rfl, hbb⟩; have hb2 := hba.trans (hbb.mono hba.size); clear hbb)
              | (go_at_call 26; refine (put_any a0 len0 cap0 x0 _ (HV.out.keep hb2)).mono ?_; rintro e wc hpost; obtain ⟨vx, he, hox, hbc⟩ := hpost.yes HR.out; subst he; have HOx := hide hox; have hb3 := hb2.trans (hbc.mono hb2.size); clear hpost hox hbc)
              | (go_at_call 27; refine (rrow_any a0 len0 cap0 x0 _ (HV.out.keep hb3)).mono ?_; rintro e wd hpost; obtain ⟨vy, he, hoy, hbd⟩ := hpost.yes HR.out; subst he; have HOy := hide hoy; have HOx2 := hide (HOx.out.keep hbd); have hb4 := hb3.trans (hbd.mono hb3.size); clear hpost hoy hbd)
              | (go_at_call 28; refine (of_any a1 len1 cap1 x1 _ (HW.out.keep hb4) (by omega)).mono ?_; rintro e we ⟨vz, rfl, hoz, hbe⟩; have HOz := hide hoz; have hb5 := hb4.trans (hbe.mono hb4.size); have HOx3 := hide (HOx2.out.keep hbe); have HOy3 := hide (HOy.out.keep hbe); clear hoz)
              | (go_at_call 29; refine (unrow_any a1 len1 cap1 x1 _ (HW.out.keep hb5) (by omega)).mono ?_; rintro e wf ⟨vw, rfl, how, hbf⟩; obtain ⟨az, nz, cz, rfl, hIz⟩ := (HOz.out.keep hbf).at HFz.out; obtain ⟨aw, nw, cw, rfl, hIw⟩ := how.at HFz.out; have HIz := hide hIz; have HIw := hide hIw; have hb6 := hb5.trans (hbf.mono hb5.size); have qx := (HOx3.out.keep hbf).holds.conv; have qy := (HOy3.out.keep hbf).holds.conv; clear how hIz hIw hbf)
              | (go_at_call 30; refine (same_any az nz cz aw nw cw _ _ HIz.out HIw.out).mono ?_; rintro e wg ⟨rfl, hbg⟩; have hb7 := hb6.trans (hbg.mono hb6.size)))
            go_ret
            exact ⟨rfl, hb7⟩
    · have HF0 := hide (few_any a0 20 cap0 (x0.take 20))
      have HVt := hide (isVals_take HV.out 20 (by omega))
      cases hf0 : fewB (x0.take 20)
      · rw [hf0] at HF0
        go_enter Try.func6, Try.ntmps6
        go_wp2_with (first
          | (go_at_call 9; refine (rowawake_any _).mono ?_; rintro e wa ⟨rfl, hba⟩)
          | (go_at_call 25; go_must (refine (HF0.out _ (HVt.out.keep hba)).mono ?_); rintro e wb ⟨rfl, hbb⟩; have hb2 := hba.trans (hbb.mono hba.size); clear hbb))
        go_ret
        exact ⟨rfl, hb2⟩
      · rw [hf0] at HF0
        clear hf0
        by_cases h500 : (500 : Int) < (len1 : Int)
        · skip
          go_enter Try.func6, Try.ntmps6
          go_wp2_with (first
            | (go_at_call 9; refine (rowawake_any _).mono ?_; rintro e wa ⟨rfl, hba⟩)
            | (go_at_call 25; go_must (refine (HF0.out _ (HVt.out.keep hba)).mono ?_); rintro e wb ⟨rfl, hbb⟩; have hb2 := hba.trans (hbb.mono hba.size); clear hbb))
          go_ret
          exact ⟨rfl, hb2⟩
        · cases hro : rowOK x0
          · have HR := hide hro
            clear hro
            go_enter Try.func6, Try.ntmps6
            go_wp2_with (first
              | (go_at_call 9; refine (rowawake_any _).mono ?_; rintro e wa ⟨rfl, hba⟩)
              | (go_at_call 25; go_must (refine (HF0.out _ (HVt.out.keep hba)).mono ?_); rintro e wb ⟨rfl, hbb⟩; have hb2 := hba.trans (hbb.mono hba.size); clear hbb)
              | (go_at_call 26; refine (put_any a0 len0 cap0 x0 _ (HV.out.keep hb2)).mono ?_; rintro e wc hpost; obtain ⟨he, hbc⟩ := hpost.no HR.out; subst he; have hb3 := hb2.trans (hbc.mono hb2.size); clear hpost hbc)
              | (go_at_call 27; refine (rrow_any a0 len0 cap0 x0 _ (HV.out.keep hb3)).mono ?_; rintro e wd hpost; obtain ⟨he, hbd⟩ := hpost.no HR.out; subst he; have hb4 := hb3.trans (hbd.mono hb3.size); clear hpost hbd)
              | (go_at_call 28; refine (of_any a1 len1 cap1 x1 _ (HW.out.keep hb4) (by omega)).mono ?_; rintro e we ⟨vz, rfl, hoz, hbe⟩; have HOz := hide hoz; have hb5 := hb4.trans (hbe.mono hb4.size); clear hoz)
              | (go_at_call 29; refine (unrow_any a1 len1 cap1 x1 _ (HW.out.keep hb5) (by omega)).mono ?_; rintro e wf ⟨vw, rfl, how, hbf⟩; obtain ⟨az, nz, cz, rfl, hIz⟩ := (HOz.out.keep hbf).at HFz.out; obtain ⟨aw, nw, cw, rfl, hIw⟩ := how.at HFz.out; have HIz := hide hIz; have HIw := hide hIw; have hb6 := hb5.trans (hbf.mono hb5.size); have qx := conv_none wf none 0; clear how hIz hIw hbf)
              | (go_at_call 30; refine (same_any az nz cz aw nw cw _ _ HIz.out HIw.out).mono ?_; rintro e wg ⟨rfl, hbg⟩; have hb7 := hb6.trans (hbg.mono hb6.size)))
            go_ret
            exact ⟨rfl, hb7⟩
          · have HR := hide hro
            clear hro
            go_enter Try.func6, Try.ntmps6
            go_wp2_with (first
              | (go_at_call 9; refine (rowawake_any _).mono ?_; rintro e wa ⟨rfl, hba⟩)
              | (go_at_call 25; go_must (refine (HF0.out _ (HVt.out.keep hba)).mono ?_); rintro e wb ⟨rfl, hbb⟩; have hb2 := hba.trans (hbb.mono hba.size); clear hbb)
              | (go_at_call 26; refine (put_any a0 len0 cap0 x0 _ (HV.out.keep hb2)).mono ?_; rintro e wc hpost; obtain ⟨vx, he, hox, hbc⟩ := hpost.yes HR.out; subst he; have HOx := hide hox; have hb3 := hb2.trans (hbc.mono hb2.size); clear hpost hox hbc)
              | (go_at_call 27; refine (rrow_any a0 len0 cap0 x0 _ (HV.out.keep hb3)).mono ?_; rintro e wd hpost; obtain ⟨vy, he, hoy, hbd⟩ := hpost.yes HR.out; subst he; have HOy := hide hoy; have HOx2 := hide (HOx.out.keep hbd); have hb4 := hb3.trans (hbd.mono hb3.size); clear hpost hoy hbd)
              | (go_at_call 28; refine (of_any a1 len1 cap1 x1 _ (HW.out.keep hb4) (by omega)).mono ?_; rintro e we ⟨vz, rfl, hoz, hbe⟩; have HOz := hide hoz; have hb5 := hb4.trans (hbe.mono hb4.size); have HOx3 := hide (HOx2.out.keep hbe); have HOy3 := hide (HOy.out.keep hbe); clear hoz)
              | (go_at_call 29; refine (unrow_any a1 len1 cap1 x1 _ (HW.out.keep hb5) (by omega)).mono ?_; rintro e wf ⟨vw, rfl, how, hbf⟩; obtain ⟨az, nz, cz, rfl, hIz⟩ := (HOz.out.keep hbf).at HFz.out; obtain ⟨aw, nw, cw, rfl, hIw⟩ := how.at HFz.out; have HIz := hide hIz; have HIw := hide hIw; have hb6 := hb5.trans (hbf.mono hb5.size); have qx := (HOx3.out.keep hbf).holds.conv; have qy := (HOy3.out.keep hbf).holds.conv; clear how hIz hIw hbf)
              | (go_at_call 30; refine (same_any az nz cz aw nw cw _ _ HIz.out HIw.out).mono ?_; rintro e wg ⟨rfl, hbg⟩; have hb7 := hb6.trans (hbg.mono hb6.size)))
            go_ret
            exact ⟨rfl, hb7⟩

set_option maxRecDepth 100000 in
theorem lifted (os : Os) (started : os.Started) (H : Type) (enc : TypeId × Value → H) :
    ReturnsInHanded {} Try.checked os 6 .any (Rows.rowRowsSpec.pre6 enc Try.prog Try.f6 Rows.rowRowsRow.domain false) (Rows.rowRowsSpec.post enc Try.prog Try.f6 false true false false) := by
  refine returnsInHanded_of_change (C := Try.checked) own started (by kernel_rfl) Try.func6
    (ChangeSpec.witness6 (enc := enc) (C := Try.checked) false ⟨#[], #[.slice none 0 0, .slice none 0 0], []⟩ 8 (by kernel_rfl) (by kernel_rfl) (by kernel_rfl) (by kernel_rfl)) ?_
  intro W base args ds gs before hval0 hW hcnd _
  have hval : ∀ (j : Nat) t v, Try.f6.params[j]? = some t → args[j]? = some v → Value.okWide Try.prog W .any base t v := hval0
  have hW' := hW
  obtain ⟨p, q, hA0, hV, rfl, hfz, hnd⟩ := hW
  have hA : DataW.TrodAll enc Try.prog W 0 (fun _ => true) true Try.f6.params.toList args.toList ds p := hA0
  rw [Try.params6] at hA hval
  obtain ⟨v0, vs0, d0, ds0, p0, q0, hargs, rfl, rfl, h0, r0⟩ := trodAll_cons hA
  obtain ⟨v1, vs1, d1, ds1, p1, q1, rfl, rfl, rfl, h1, r1⟩ := trodAll_cons r0
  obtain ⟨rfl, rfl, rfl⟩ := trodAll_nil r1
  obtain rfl : args = #[v0, v1] := by cases args; simp_all
  obtain ⟨rfl, rfl⟩ := trodVars_none hV
  obtain ⟨a0, len0, cap0, rfl⟩ := okWide_slice Try.underlying47 (hval 0 47 v0 rfl rfl)
  have k0 := h0
  have lt0 : ∀ x ∈ p0, x.block < W.heap.size := by obtain ⟨m, hm⟩ := k0; exact DataW.trod_lt m _ _ _ hm
  obtain ⟨x0, w0⟩ : ∃ xs, IsVals W a0 len0 cap0 xs := by
    obtain ⟨fuel, hf⟩ := h0
    exact open_vals (by simpa [Value.cells] using hf)
  obtain ⟨a1, len1, cap1, rfl⟩ := okWide_slice Try.underlying25 (hval 1 25 v1 rfl rfl)
  have k1 := h1
  have lt1 : ∀ x ∈ p1, x.block < W.heap.size := by obtain ⟨m, hm⟩ := k1; exact DataW.trod_lt m _ _ _ hm
  obtain ⟨x1, w1⟩ : ∃ xs, IsBytes W a1 len1 cap1 xs := by
    obtain ⟨fuel, hf⟩ := h1
    exact open_bytes (by simpa [Value.cells] using hf)
  clear hA0 hval0
  refine (walk a0 len0 cap0 x0 a1 len1 cap1 x1 W w0 w1).mono fun e W' ⟨he, bel⟩ => ?_
  subst he
  exact ⟨_, rfl, _, _, _, [], _, [], hW', trodAll_mk1 (shut_bool Try.underlying4 _), (trodAll_cons_mk (Below.trod laidOut (by kernel_rfl) (of_decide_eq_true (by kernel_rfl)) k0 bel lt0) (trodAll_cons_mk (Below.trod laidOut (by kernel_rfl) (of_decide_eq_true (by kernel_rfl)) k1 bel lt1) trodAll_mk0)), rfl, bel.frame _, fun h => by cases h⟩

theorem over : Rows.rowRowsRow.holds Try.pinned (OpenSpec.ofChange Rows.rowRowsSpec) :=
  OpenClaim.holds_of_wide 6 Try.f6 rfl rfl rfl rfl rfl rfl rfl ⟨rfl, rfl, rfl, rfl, rfl⟩ rfl rfl rfl rfl rfl (by kernel_rfl) Try.func6 (by kernel_rfl)
    (of_decide_eq_true (by kernel_rfl)) (by unfold Func.isWrapper; first | (rw [if_pos (by decide +kernel)]; kernel_rfl) | (rw [if_neg (by decide +kernel)]; exact ⟨rfl, rfl⟩))
    (fun os started H enc _ => lifted os started H enc)

theorem proved : Rows.RowRowsSaid := over
end Go.Proofs.Ytpaidekocooliaa.rowRows
namespace Go.Proofs.Ytpaidekocooliaa
theorem rowRows_holds : Rows.RowRowsSaid := rowRows.proved
#print axioms rowRows_holds
end Go.Proofs.Ytpaidekocooliaa
