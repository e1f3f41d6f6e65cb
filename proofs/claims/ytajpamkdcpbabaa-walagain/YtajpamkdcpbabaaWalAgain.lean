/- For any bytes b plenumlaw07.WalAgain returns true (of more than 1000 bytes the law itself asks nothing): a disk that was opened tells the same records when it is opened again, and has as many bytes; what was handed in is left as it was. No condition. -/
import Derived.Test.YtajpamkdcpbabaaRows
import Derived.WalkKit
import Derived.ProofKit
import Derived.OpenShut
import Derived.ShutString
import Derived.ChangeOld
import Derived.Below
import Derived.Test.YtajpamkdcpbabaaWl3
namespace Go.Proofs.Ytajpamkdcpbabaa.walAgain
open Go.ChangeShapes Go.WideShapes Go.ChangeAt Go.RowKit
open Go.ChangeMaps (open_string shut_string)
set_option linter.unusedVariables false

theorem own : ownKnob Try.prog.godebug = none := by kernel_rfl
theorem laidOut : laidOutB Try.prog = true := by kernel_rfl

open NumMath

set_option maxHeartbeats 2000000 in
theorem walk (a0 : Option Addr) (len0 cap0 : Nat) (x0 : List Int) (w : World) (w0 : IsBytes w a0 len0 cap0 x0) :
    Calls Try.prog 7 #[.slice a0 len0 cap0] w fun e w' => e = .returned (.bool true) ∧ Below w.heap.size w w' := by
  have H0 := hide w0
  have HA : Hid (AreB x0) := w0.2.2.2.1
  have HL := hide w0.1
  have hm0 : (len0 : Int) ≤ 9223372036854775807 := by have := w0.2.1; have := w0.2.2.1; unfold maxLen at this; omega
  clear w0
  by_cases g0 : (1000 : Int) < (len0 : Int)
  · go_enter Try.func7, Try.ntmps7
    go_wp2_with (first
      | (go_at_call 8; refine (wlawake_any _).mono ?_; rintro e wa ⟨rfl, hba⟩))
    go_ret
    exact ⟨rfl, hba⟩
  · have E1 : Hid (dapp 2000 [] x0 = (0, x0)) := by show _ = _; unfold dapp; rw [if_neg (by simp only [List.length_nil, HL.out]; omega), List.nil_append]
    have HL9 : Hid (x0.length ≤ 1000000000) := by show _ ≤ _; rw [HL.out]; omega
    go_enter Try.func7, Try.ntmps7
    go_wp2_with (first
      | (go_at_call 19; have hq := hb7; go_must (refine (dbytes_any wa.heap.size wa.heap.size 2000 _ _ _ (HD5.out.keep hb6) HF9.out).mono ?_); rintro e w8 ⟨v8, rfl, hown8, hb8⟩; obtain ⟨a8, n8, c8, rfl, hs8⟩ := hown8.any; have hn8 : n4 = n8 := HN4.out.symm.trans hs8.1; subst hn8; have hb8 := hb7.trans (hb8.mono hb7.size); clear hown8 hs8)
      | (go_at_call 17; go_must (refine (wsize_any wa.heap.size wa.heap.size 2000 _ _ q5 _ (HD5.out.keep hb6) (HW5.out.keep HD5.out.at hb6) HF9.out).mono ?_); rw [HN4.out]; rintro e w7 ⟨rfl, hb7⟩; have hb6 := hb6.trans (hb7.mono hb6.size); have hb7 := hb5.trans (hb6.mono hb5.size))
      | (go_at_call 18; go_must (refine (sameT_self a3 n3 c3 L a5 n5 c5 _ HI3.out HI5.out).mono ?_); rintro e w6 ⟨rfl, hb6⟩)
      | (go_at_call 13; have hq := hb4; go_must (refine (wopen_any wa.heap.size wa.heap.size 2000 _ _ _ HD4.out HFA.out HF9.out).mono ?_); rintro e w5 ⟨q5, v5, L5, rfl, hL5, hO5, hd5, hp5, hw5, hq5, -⟩; have hL5 := (all_one _ _ _ hL5 (all_self HT.out)).symm; subst hL5; obtain ⟨a5, n5, c5, rfl, hI5⟩ := hO5.ownT.is; have HI5 := hide hI5; have HI3 := hide (isT_of ((HO3.out.keep hb34).lies hp5.1 (fun k hk hk' hx => by have := (HD2.out.lt (HK3.out k (hx.same (hb34.block _ HD3.out.at)))).1; omega))); have HD5 := hide hd5; have HW5 := hide hw5; have hb5 := hb4.trans ((HD4.out.below hp5 hs4).mono hba.size); clear hO5 hd5 hw5 hp5 hI5)
      | (go_at_call 19; go_must (refine (dbytes_any wa.heap.size wa.heap.size 2000 _ _ _ HD3.out HF9.out).mono ?_); rintro e w4 ⟨v4, rfl, hown4, hb34⟩; obtain ⟨a4, n4, c4, rfl, hs4⟩ := hown4.any; have HN4 := hide hs4.1; have HD4 := hide (HD3.out.keep hb34); have hs4 := Nat.le_trans hs3 hb34.size; have hb4 := hb3.trans (hb34.mono hb3.size); clear hown4)
      | (go_at_call 13; go_must (refine (wopen_any wa.heap.size wa.heap.size 2000 x0 0 _ HD2.out HA.out HL9.out).mono ?_); rintro e w3 ⟨q3, v3, L, rfl, hL, hO, hd3, hp3, hw3, hq3, hk3⟩; obtain ⟨a3, n3, c3, rfl⟩ := hO.ownT.form; have HO3 := hide hO; have HK3 := hide hk3; have HT := hide hL.1; have HF9 : Hid ((flat L).length ≤ 1000000000) := Nat.le_trans (all_flat hL).1 HL9.out; have HFA := hide (flat_are hL.1); have HD3 := hide hd3; have hb3 := hb2.trans ((HD2.out.below hp3 hs2).mono hba.size); have hs3 := Nat.le_trans hs2 hp3.size; clear hL hO hd3 hw3 hp3)
      | (go_at_call 11; go_must (refine (dapp_any wa.heap.size wa.heap.size 2000 [] 0 a0 len0 cap0 x0 _ HD1.out (H0.out.keep hb1).src (by decide) (by decide) (by omega) hs1).mono ?_); rw [E1.out]; rintro e w2 ⟨rfl, hd2, hp2⟩; have HD2 := hide hd2; have hb2 := hb1.trans ((HD1.out.below hp2 hs1).mono hba.size); have hs2 := Nat.le_trans hs1 hp2.size; clear hd2 hp2)
      | (go_at_call 9; refine (dnew_any 2000 _).mono ?_; rintro e w1 ⟨rfl, hd1, hb1⟩; have HD1 : Hid (IsD w1 wa.heap.size wa.heap.size 2000 [] 0) := hd1; have hs1 := hb1.size; have hb1 := hba.trans (hb1.mono hba.size); clear hd1)
      | (go_at_call 8; refine (wlawake_any _).mono ?_; rintro e wa ⟨rfl, hba⟩))
    go_ret
    exact ⟨rfl, hb8⟩

set_option maxRecDepth 100000 in
theorem lifted (os : Os) (started : os.Started) (H : Type) (enc : TypeId × Value → H) :
    ReturnsInHanded {} Try.checked os 7 .any (Rows.walAgainSpec.pre6 enc Try.prog Try.f7 Rows.walAgainRow.domain false) (Rows.walAgainSpec.post enc Try.prog Try.f7 false true false false) := by
  refine returnsInHanded_of_change (C := Try.checked) own started (by kernel_rfl) Try.func7
    (ChangeSpec.witness6 (enc := enc) (C := Try.checked) false ⟨#[], #[.slice none 0 0], []⟩ 8 (by kernel_rfl) (by kernel_rfl) (by kernel_rfl) (by kernel_rfl)) ?_
  intro W base args ds gs before hval0 hW hcnd _
  have hval : ∀ (j : Nat) t v, Try.f7.params[j]? = some t → args[j]? = some v → Value.okWide Try.prog W .any base t v := hval0
  have hW' := hW
  obtain ⟨p, q, hA0, hV, rfl, hfz, hnd⟩ := hW
  have hA : DataW.TrodAll enc Try.prog W 0 (fun _ => true) true Try.f7.params.toList args.toList ds p := hA0
  rw [Try.params7] at hA hval
  obtain ⟨v0, vs0, d0, ds0, p0, q0, hargs, rfl, rfl, h0, r0⟩ := trodAll_cons hA
  obtain ⟨rfl, rfl, rfl⟩ := trodAll_nil r0
  obtain rfl : args = #[v0] := by cases args; simp_all
  obtain ⟨rfl, rfl⟩ := trodVars_none hV
  obtain ⟨a0, len0, cap0, rfl⟩ := okWide_slice Try.underlying22 (hval 0 22 v0 rfl rfl)
  have k0 := h0
  have lt0 : ∀ x ∈ p0, x.block < W.heap.size := by obtain ⟨m, hm⟩ := k0; exact DataW.trod_lt m _ _ _ hm
  obtain ⟨x0, w0⟩ : ∃ xs, IsBytes W a0 len0 cap0 xs := by
    obtain ⟨fuel, hf⟩ := h0
    exact open_bytes (by simpa [Value.cells] using hf)
  clear hA0 hval0
  refine (walk a0 len0 cap0 x0 W w0).mono fun e W' ⟨he, bel⟩ => ?_
  subst he
  exact ⟨_, rfl, _, _, _, [], _, [], hW', trodAll_mk1 (shut_bool Try.underlying4 _), (trodAll_cons_mk (Below.trod laidOut (by kernel_rfl) (of_decide_eq_true (by kernel_rfl)) k0 bel lt0) trodAll_mk0), rfl, bel.frame _, fun h => by cases h⟩

theorem over : Rows.walAgainRow.holds Try.pinned (OpenSpec.ofChange Rows.walAgainSpec) :=
  OpenClaim.holds_of_wide 7 Try.f7 rfl rfl rfl rfl rfl rfl rfl ⟨rfl, rfl, rfl, rfl, rfl⟩ rfl rfl rfl rfl rfl (by kernel_rfl) Try.func7 (by kernel_rfl)
    (of_decide_eq_true (by kernel_rfl)) (by unfold Func.isWrapper; first | (rw [if_pos (by decide +kernel)]; kernel_rfl) | (rw [if_neg (by decide +kernel)]; exact ⟨rfl, rfl⟩))
    (fun os started H enc _ => lifted os started H enc)

theorem proved : Rows.WalAgainSaid := over
end Go.Proofs.Ytajpamkdcpbabaa.walAgain
namespace Go.Proofs.Ytajpamkdcpbabaa
theorem walAgain_holds : Rows.WalAgainSaid := walAgain.proved
#print axioms walAgain_holds
end Go.Proofs.Ytajpamkdcpbabaa
