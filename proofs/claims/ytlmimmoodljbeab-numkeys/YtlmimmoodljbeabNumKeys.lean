/- For any two int64 numbers plenumlaw01.NumKeys returns true: the eight bytes of num.Put of num.Flip stand as the numbers do. No condition. -/
import Derived.Test.YtlmimmoodljbeabRows
import Derived.WalkKit
import Derived.ProofKit
import Derived.OpenShut
import Derived.ShutString
import Derived.Test.YtlmimmoodljbeabNumKit
import Derived.Deep.RegionWith
namespace Go.Proofs.Ytlmimmoodljbeab.numKeys
open Go.ChangeShapes Go.WideShapes Go.ChangeAt Go.RowKit
open Go.ChangeMaps (open_string shut_string)
set_option linter.unusedVariables false    

theorem own : ownKnob Try.prog.godebug = none := by kernel_rfl

open NumMath
set_option maxHeartbeats 1000000 in
theorem walk (a0 : Int) (a1 : Int) (w0 : (Lit.int .i64 a0).wf = true) (w1 : (Lit.int .i64 a1).wf = true) (w : World) :
    Calls Try.prog 3 #[.int .i64 a0, .int .i64 a1] w fun e w' => e = .returned (.bool true) ∧ Grown w w' := by
  obtain ⟨a1l, a1h⟩ := wf_i64 w0
  obtain ⟨b1l, b1h⟩ := wf_i64 w1
  obtain ⟨f1, f2⟩ := flipV_range a0 a1l a1h
  obtain ⟨f3, f4⟩ := flipV_range a1 b1l b1h
  have k1 := key_less a0 a1 a1l a1h b1l b1h
  have k2 := key_same a0 a1 a1l a1h b1l b1h
  have k3 : (strB (putL (flipV a0) 8)).size = 8 := by rw [strB_size, putL_length]
  clear w0 w1
  go_enter Try.func3, Try.ntmps3
  go_wp2_with (go_at_call 4; refine (awake_any _).mono ?_; rintro e w' ⟨rfl, rfl⟩)
  go_region_with (first
    | (go_at_call 6; refine (flip_any _ _ ?_ ?_).mono ?_ <;> first | assumption | (rintro e w' ⟨rfl, rfl⟩))
    | (go_at_call_of 5 (flipV a0); refine (put_new8 (flipV a0) _ f1 f2).mono ?_; rintro e w1 ⟨g1, rfl, hg1, hl1, hB1, hb1, hG1⟩; have q1 := conv_bytes w1 g1 8 8 _ (putL_length _ _) hB1)
    | (go_at_call_of 5 (flipV a1); refine (put_new8 (flipV a1) _ f3 f4).mono ?_; rintro e w2 ⟨g2, rfl, hg2, hl2, hB2, hb2, hG2⟩; have hB3 := hB1.below hb2 (by simpa using hl1); have q2 := conv_bytes w2 g2 8 8 _ (putL_length _ _) hB2; have q3 := conv_bytes w2 g1 8 8 _ (putL_length _ _) hB3))
  all_goals
    go_wp2
    go_ret
    exact ⟨rfl, by first | exact grown_trans (grown_trans (Grown.refl _).drew hG1) hG2⟩

set_option maxRecDepth 100000 in
theorem lifted (os : Os) (started : os.Started) (H : Type) (enc : TypeId × Value → H) :
    ReturnsInHanded {} Try.checked os 3 .any (Rows.numKeysSpec.pre6 enc Try.prog Try.f3 Rows.numKeysRow.domain false) (Rows.numKeysSpec.post enc Try.prog Try.f3 false true false false) := by
  refine returnsInHanded_of_change (C := Try.checked) own started (by kernel_rfl) Try.func3
    (ChangeSpec.witness6 (enc := enc) (C := Try.checked) false ⟨#[], #[.int .i64 0, .int .i64 0], []⟩ 8 (by kernel_rfl) (by kernel_rfl) (by kernel_rfl) (by kernel_rfl)) ?_
  intro W base args ds gs before hval0 hW hcnd _
  have hval : ∀ (j : Nat) t v, Try.f3.params[j]? = some t → args[j]? = some v → Value.okWide Try.prog W .any base t v := hval0
  have hW' := hW
  obtain ⟨p, q, hA0, hV, rfl, hfz, hnd⟩ := hW
  have hA : DataW.TrodAll enc Try.prog W 0 (fun _ => true) true Try.f3.params.toList args.toList ds p := hA0
  rw [Try.params3] at hA hval
  obtain ⟨v0, vs0, d0, ds0, p0, q0, hargs, rfl, rfl, h0, r0⟩ := trodAll_cons hA
  obtain ⟨v1, vs1, d1, ds1, p1, q1, rfl, rfl, rfl, h1, r1⟩ := trodAll_cons r0
  obtain ⟨rfl, rfl, rfl⟩ := trodAll_nil r1
  obtain rfl : args = #[v0, v1] := by cases args; simp_all
  obtain ⟨rfl, rfl⟩ := trodVars_none hV
  obtain ⟨a0, rfl, rfl, rfl, w0⟩ := open_int Try.underlying2 (hval 0 2 v0 rfl rfl) h0
  obtain ⟨a1, rfl, rfl, rfl, w1⟩ := open_int Try.underlying2 (hval 1 2 v1 rfl rfl) h1
  clear hA0 hval0
  simp only [List.append_nil] at hW'
  refine (walk a0 a1 w0 w1 W).mono fun e W' ⟨he, hg⟩ => ?_
  subst he
  exact ⟨_, rfl, post_of_same (pa := []) (pv := []) hW' (fun _ _ _ => (trodAll_cons_mk (shut_bool Try.underlying4 _) trodAll_mk0)) (fun sp _ => (trodAll_cons_mk (shut_int Try.underlying2 w0) (trodAll_cons_mk (shut_int Try.underlying2 w1) trodAll_mk0))) (fun _ _ => rfl) rfl
    (hg.frame _) hg.2.1 (ok_one (by kernel_rfl) rfl (okWide_bool_mk Try.underlying4 _))⟩

theorem over : Rows.numKeysRow.holds Try.pinned (OpenSpec.ofChange Rows.numKeysSpec) :=
  OpenClaim.holds_of_wide 3 Try.f3 rfl rfl rfl rfl rfl rfl rfl ⟨rfl, rfl, rfl, rfl, rfl⟩ rfl rfl rfl rfl rfl (by kernel_rfl) Try.func3 (by kernel_rfl)
    (of_decide_eq_true (by kernel_rfl)) (by unfold Func.isWrapper; first | (rw [if_pos (by decide +kernel)]; kernel_rfl) | (rw [if_neg (by decide +kernel)]; exact ⟨rfl, rfl⟩))
    (fun os started H enc _ => lifted os started H enc)

theorem proved : Rows.NumKeysSaid :=
  over
end Go.Proofs.Ytlmimmoodljbeab.numKeys
namespace Go.Proofs.Ytlmimmoodljbeab
theorem numKeys_holds : Rows.NumKeysSaid := numKeys.proved
#print axioms numKeys_holds
end Go.Proofs.Ytlmimmoodljbeab
