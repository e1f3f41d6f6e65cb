/- For any bytes b plenumlaw05.FrameAll returns true (of more than 1000 bytes the law itself asks nothing): frame.All tells the texts that stand one behind the other from the beginning on, and how many bytes their frames have, as the document's reference does; what was handed in is left as it was. No condition. -/
import Derived.Test.YtcmimhhealokhaaRows
import Derived.WalkKit
import Derived.ProofKit
import Derived.OpenShut
import Derived.ShutString
import Derived.ChangeOld
import Derived.Below
import Derived.Test.YtcmimhhealokhaaFrAll
namespace Go.Proofs.Ytcmimhhealokhaa.frameAll
open Go.ChangeShapes Go.WideShapes Go.ChangeAt Go.RowKit
open Go.ChangeMaps (open_string shut_string)
set_option linter.unusedVariables false

theorem own : ownKnob Try.prog.godebug = none := by kernel_rfl
theorem laidOut : laidOutB Try.prog = true := by kernel_rfl

open NumMath

set_option maxHeartbeats 4000000 in
theorem walk (a0 : Option Addr) (len0 cap0 : Nat) (x0 : List Int) (w : World) (w0 : IsBytes w a0 len0 cap0 x0) :
    Calls Try.prog 4 #[.slice a0 len0 cap0] w fun e w' => e = .returned (.bool true) ∧ Below w.heap.size w w' := by
  have H0 := hide w0
  have hm0 : (len0 : Int) ≤ 9223372036854775807 := by have := w0.2.1; have := w0.2.2.1; unfold maxLen at this; omega
  clear w0
  by_cases g0 : (1000 : Int) < (len0 : Int)
  · go_enter Try.func4, Try.ntmps4
    go_wp2_with (go_at_call 8; refine (frawake_any _).mono ?_; rintro e wa ⟨rfl, hba⟩)
    go_ret
    exact ⟨rfl, hba⟩
  · have HB : Hid (len0 ≤ 1000000000) := by show _ ≤ _; omega
    go_enter Try.func4, Try.ntmps4
    go_wp2_with (first
      | (go_at_call 8; refine (frawake_any _).mono ?_; rintro e wa ⟨rfl, hba⟩)
      | (go_at_call 14; refine (all_any a0 len0 cap0 x0 _ (H0.out.keep hba) HB.out).mono ?_; rintro e wb ⟨a1, n1, c1, L, rfl, hL, hI1, hbb⟩; have HL := hide hL; have HI1 := hide hI1; have hb2 := hba.trans (hbb.mono hba.size); clear hL hI1 hbb)
      | (go_at_call 15; refine (frames_any a0 len0 cap0 x0 _ (H0.out.keep hb2) HB.out).mono ?_; rintro e wc ⟨a2, n2, c2, M, rfl, hM, hI2, hbc⟩; have hLM := all_one L M _ HL.out hM; subst hLM; have HI2 := hide hI2; have HI3 := hide (HI1.out.keep hbc); have hb3 := hb2.trans (hbc.mono hb2.size); clear hM hI2 hbc)
      | (go_at_call 16; refine (sameT_any a1 n1 c1 L a2 n2 c2 L _ HI3.out HI2.out).mono ?_; rw [decide_eq_true (rfl : L = L)]; rintro e wd ⟨rfl, hbd⟩; have hb4 := hb3.trans (hbd.mono hb3.size)))
    go_ret
    exact ⟨rfl, hb4⟩

set_option maxRecDepth 100000 in
theorem lifted (os : Os) (started : os.Started) (H : Type) (enc : TypeId × Value → H) :
    ReturnsInHanded {} Try.checked os 4 .any (Rows.frameAllSpec.pre6 enc Try.prog Try.f4 Rows.frameAllRow.domain false) (Rows.frameAllSpec.post enc Try.prog Try.f4 false true false false) := by
  refine returnsInHanded_of_change (C := Try.checked) own started (by kernel_rfl) Try.func4
    (ChangeSpec.witness6 (enc := enc) (C := Try.checked) false ⟨#[], #[.slice none 0 0], []⟩ 8 (by kernel_rfl) (by kernel_rfl) (by kernel_rfl) (by kernel_rfl)) ?_
  intro W base args ds gs before hval0 hW hcnd _
  have hval : ∀ (j : Nat) t v, Try.f4.params[j]? = some t → args[j]? = some v → Value.okWide Try.prog W .any base t v := hval0
  have hW' := hW
  obtain ⟨p, q, hA0, hV, rfl, hfz, hnd⟩ := hW
  have hA : DataW.TrodAll enc Try.prog W 0 (fun _ => true) true Try.f4.params.toList args.toList ds p := hA0
  rw [Try.params4] at hA hval
  obtain ⟨v0, vs0, d0, ds0, p0, q0, hargs, rfl, rfl, h0, r0⟩ := trodAll_cons hA
  obtain ⟨rfl, rfl, rfl⟩ := trodAll_nil r0
  obtain rfl : args = #[v0] := by cases args; simp_all
  obtain ⟨rfl, rfl⟩ := trodVars_none hV
  obtain ⟨a0, len0, cap0, rfl⟩ := okWide_slice Try.underlying22 (hval 0 22 v0 rfl rfl)
  have k0 := h0
  have lt0 : ∀ x ∈ p0, x.block < W.heap.size := by obtain ⟨m, hm⟩ := k0; exact DataW.trod_lt m _ _ _ hm
  obtain ⟨x0, w0⟩ : ∃ xs, IsBytes W a0 len0 cap0 xs := by
    obtain ⟨fuel, hf⟩ := h0
    exact open_bytes (by simpa [Value.cells] using hf)
  clear hA0 hval0
  refine (walk a0 len0 cap0 x0 W w0).mono fun e W' ⟨he, bel⟩ => ?_
  subst he
  exact ⟨_, rfl, _, _, _, [], _, [], hW', trodAll_mk1 (shut_bool Try.underlying4 _), (trodAll_cons_mk (Below.trod laidOut (by kernel_rfl) (of_decide_eq_true (by kernel_rfl)) k0 bel lt0) trodAll_mk0), rfl, bel.frame _, fun h => by cases h⟩

theorem over : Rows.frameAllRow.holds Try.pinned (OpenSpec.ofChange Rows.frameAllSpec) :=
  OpenClaim.holds_of_wide 4 Try.f4 rfl rfl rfl rfl rfl rfl rfl ⟨rfl, rfl, rfl, rfl, rfl⟩ rfl rfl rfl rfl rfl (by kernel_rfl) Try.func4 (by kernel_rfl)
    (of_decide_eq_true (by kernel_rfl)) (by unfold Func.isWrapper; first | (rw [if_pos (by decide +kernel)]; kernel_rfl) | (rw [if_neg (by decide +kernel)]; exact ⟨rfl, rfl⟩))
    (fun os started H enc _ => lifted os started H enc)

theorem proved : Rows.FrameAllSaid := over
end Go.Proofs.Ytcmimhhealokhaa.frameAll
namespace Go.Proofs.Ytcmimhhealokhaa
theorem frameAll_holds : Rows.FrameAllSaid := frameAll.proved
#print axioms frameAll_holds
end Go.Proofs.Ytcmimhhealokhaa
