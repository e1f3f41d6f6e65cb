/- For any number, any bytes and any bound plenumlaw03.RowNone returns true (of more than 300 bytes the law itself asks nothing): of a Writer and of a Reader that nobody made nothing comes, and a Reader that was made without Read has failed; what was handed in is left as it was. No condition. -/
import Derived.Test.YtpaidekocooliaaRows
import Derived.WalkKit
import Derived.ProofKit
import Derived.OpenShut
import Derived.ShutString
import Derived.ChangeOld
import Derived.Below
import Derived.Test.YtpaidekocooliaaRowNil
import Derived.Test.YtpaidekocooliaaRowXread2
import Derived.Test.YtpaidekocooliaaOkeyOpen
import Derived.Laws.StructEq
namespace Go.Proofs.Ytpaidekocooliaa.rowNone
open Go.ChangeShapes Go.WideShapes Go.ChangeAt Go.RowKit
open Go.ChangeMaps (open_string shut_string)
set_option linter.unusedVariables false

theorem own : ownKnob Try.prog.godebug = none := by kernel_rfl
theorem laidOut : laidOutB Try.prog = true := by kernel_rfl

open NumMath

theorem isR_zero (w : World) (g : Nat) (hg : w.heap.size = g) : IsR true (w.alloc (.cells #[.slice none 0 0, .bool false] 66)) g g none := by
  subst hg
  exact ⟨by simp, by simp, by simp, none, 0, 0, by simp, (by intro h; exact absurd rfl h), by simp, rfl⟩

theorem u64_i64 (n : Int) (h1 : 0 ≤ n) (h2 : n ≤ 18446744073709551615) : -9223372036854775808 ≤ wrap64 n ∧ wrap64 n ≤ 9223372036854775807 := by unfold wrap64; omega

set_option maxRecDepth 20000 in
set_option maxHeartbeats 8000000 in
theorem walk (a0 : Int) (a1 : Option Addr) (len1 cap1 : Nat) (x1 : List Int) (a2 : Int) (w : World) (w0 : (Lit.int .u64 a0).wf = true) (w1 : IsBytes w a1 len1 cap1 x1) (w2 : (Lit.int .i64 a2).wf = true) :
    Calls Try.prog 8 #[.int .u64 a0, .slice a1 len1 cap1, .int .i64 a2] w fun e w' => e = .returned (.bool true) ∧ Below w.heap.size w w' := by
  have HW := hide w1
  obtain ⟨n1, n2⟩ := wf_u64 w0
  obtain ⟨k1, k2⟩ := wf_i64 w2
  obtain ⟨i1, i2⟩ := u64_i64 a0 n1 n2
  obtain ⟨-, hlc', hm', -, -⟩ := w1
  unfold maxLen at hm'
  clear w0 w2
  by_cases h300 : (300 : Int) < (len1 : Int)
  · go_enter Try.func8, Try.ntmps8
    go_wp2_with (first
      | (go_at_call 9; refine (rowawake_any _).mono ?_; rintro e wa ⟨rfl, hba⟩))
    go_ret
    exact ⟨rfl, hba⟩
  · go_enter Try.func8, Try.ntmps8
    go_wp2_with (first
      | (go_at_call 9; refine (rowawake_any _).mono ?_; rintro e wa ⟨rfl, hba⟩; have hsa := hba.size)
      | (go_at_call 32; refine (wN_nil _ _ _ _).mono ?_; rintro e w' ⟨rfl, hw⟩; have hw := hw.symm; subst hw)
      | (go_at_call 33; refine (wI_nil _ _ i1 i2).mono ?_; rintro e wb ⟨rfl, hbb⟩; have hb2 := (hba.alloc hsa _).trans (hbb.mono (by simp; omega)); have qb := (HW.out.keep hb2).conv; clear hbb)
      | (go_at_call 34; refine (wText_nil _ _ _ _).mono ?_; rintro e w' ⟨rfl, hw⟩; have hw := hw.symm; subst hw)
      | (go_at_call 35; refine (wValue_nil _ _ _).mono ?_; rintro e wc ⟨rfl, hbc⟩; have hb3 := hb2.trans (hbc.mono hb2.size); have hs3 := hb3.size; have HZ := hide (isR_zero wc _ rfl); clear hbc)
      | (go_at_call 36; refine (wBytes_nil _).mono ?_; rintro e w' ⟨rfl, hw⟩; have hw := hw.symm; subst hw)
      | (go_at_call 13; refine (rdN_any _ _ none a0 _ HZ2.out n1 n2).mono ?_; rintro e we ⟨rfl, hpost⟩; have HZ3 := hide hpost.1; have hb5 := hb4.trans (hpost.below (B := w.heap.size) hb4.size (by omega)); clear hpost)
      | (go_at_call 13; refine (rN_nil _ _).mono ?_; rintro e w' ⟨rfl, hw⟩; have hw := hw.symm; subst hw)
      | (go_at_call 15; refine (rI_nil _).mono ?_; rintro e w' ⟨rfl, hw⟩; have hw := hw.symm; subst hw)
      | (go_at_call 17; refine (rT_nil _ _ k1 k2).mono ?_; rintro e w' ⟨rfl, hw⟩; have hw := hw.symm; subst hw)
      | (go_at_call 19; refine (rV_nil _).mono ?_; rintro e wd ⟨rfl, hbd⟩; have hb4 := (hb3.alloc hs3 _).trans (hbd.mono (by simp; omega)); have HZ2 := hide (HZ.out.keep hbd); clear hbd)
      | (go_at_call 21; refine (left_nil _).mono ?_; rintro e w' ⟨rfl, hw⟩; have hw := hw.symm; subst hw)
      | (go_at_call 22; refine (end_any _ _ none _ HZ3.out).mono ?_; rintro e w' ⟨rfl, hw⟩; have hw := hw.symm; subst hw)
      | (go_at_call 22; refine (end_nil _).mono ?_; rintro e w' ⟨rfl, hw⟩; have hw := hw.symm; subst hw))
    go_ret
    exact ⟨rfl, hb5⟩

set_option maxRecDepth 100000 in
theorem lifted (os : Os) (started : os.Started) (H : Type) (enc : TypeId × Value → H) :
    ReturnsInHanded {} Try.checked os 8 .any (Rows.rowNoneSpec.pre6 enc Try.prog Try.f8 Rows.rowNoneRow.domain false) (Rows.rowNoneSpec.post enc Try.prog Try.f8 false true false false) := by
  refine returnsInHanded_of_change (C := Try.checked) own started (by kernel_rfl) Try.func8
    (ChangeSpec.witness6 (enc := enc) (C := Try.checked) false ⟨#[], #[.int .u64 0, .slice none 0 0, .int .i64 0], []⟩ 8 (by kernel_rfl) (by kernel_rfl) (by kernel_rfl) (by kernel_rfl)) ?_
  intro W base args ds gs before hval0 hW hcnd _
  have hval : ∀ (j : Nat) t v, Try.f8.params[j]? = some t → args[j]? = some v → Value.okWide Try.prog W .any base t v := hval0
  have hW' := hW
  obtain ⟨p, q, hA0, hV, rfl, hfz, hnd⟩ := hW
  have hA : DataW.TrodAll enc Try.prog W 0 (fun _ => true) true Try.f8.params.toList args.toList ds p := hA0
  rw [Try.params8] at hA hval
  obtain ⟨v0, vs0, d0, ds0, p0, q0, hargs, rfl, rfl, h0, r0⟩ := trodAll_cons hA
  obtain ⟨v1, vs1, d1, ds1, p1, q1, rfl, rfl, rfl, h1, r1⟩ := trodAll_cons r0
  obtain ⟨v2, vs2, d2, ds2, p2, q2, rfl, rfl, rfl, h2, r2⟩ := trodAll_cons r1
  obtain ⟨rfl, rfl, rfl⟩ := trodAll_nil r2
  obtain rfl : args = #[v0, v1, v2] := by cases args; simp_all
  obtain ⟨rfl, rfl⟩ := trodVars_none hV
  have k0 := h0
  have lt0 : ∀ x ∈ p0, x.block < W.heap.size := by obtain ⟨m, hm⟩ := k0; exact DataW.trod_lt m _ _ _ hm
  obtain ⟨a0, rfl, w0⟩ : ∃ n, v0 = .int .u64 n ∧ (Lit.int .u64 n).wf = true := by
    obtain ⟨n, hn, _, _, hw⟩ := open_int Try.underlying33 (hval 0 33 v0 rfl rfl) h0
    exact ⟨n, hn, hw⟩
  obtain ⟨a1, len1, cap1, rfl⟩ := okWide_slice Try.underlying25 (hval 1 25 v1 rfl rfl)
  have k1 := h1
  have lt1 : ∀ x ∈ p1, x.block < W.heap.size := by obtain ⟨m, hm⟩ := k1; exact DataW.trod_lt m _ _ _ hm
  obtain ⟨x1, w1⟩ : ∃ xs, IsBytes W a1 len1 cap1 xs := by
    obtain ⟨fuel, hf⟩ := h1
    exact open_bytes (by simpa [Value.cells] using hf)
  have k2 := h2
  have lt2 : ∀ x ∈ p2, x.block < W.heap.size := by obtain ⟨m, hm⟩ := k2; exact DataW.trod_lt m _ _ _ hm
  obtain ⟨a2, rfl, w2⟩ : ∃ n, v2 = .int .i64 n ∧ (Lit.int .i64 n).wf = true := by
    obtain ⟨n, hn, _, _, hw⟩ := open_int Try.underlying3 (hval 2 3 v2 rfl rfl) h2
    exact ⟨n, hn, hw⟩
  clear hA0 hval0
  refine (walk a0 a1 len1 cap1 x1 a2 W w0 w1 w2).mono fun e W' ⟨he, bel⟩ => ?_
  subst he
  exact ⟨_, rfl, _, _, _, [], _, [], hW', trodAll_mk1 (shut_bool Try.underlying4 _), (trodAll_cons_mk (Below.trod laidOut (by kernel_rfl) (of_decide_eq_true (by kernel_rfl)) k0 bel lt0) (trodAll_cons_mk (Below.trod laidOut (by kernel_rfl) (of_decide_eq_true (by kernel_rfl)) k1 bel lt1) (trodAll_cons_mk (Below.trod laidOut (by kernel_rfl) (of_decide_eq_true (by kernel_rfl)) k2 bel lt2) trodAll_mk0))), rfl, bel.frame _, fun h => by cases h⟩

theorem over : Rows.rowNoneRow.holds Try.pinned (OpenSpec.ofChange Rows.rowNoneSpec) :=
  OpenClaim.holds_of_wide 8 Try.f8 rfl rfl rfl rfl rfl rfl rfl ⟨rfl, rfl, rfl, rfl, rfl⟩ rfl rfl rfl rfl rfl (by kernel_rfl) Try.func8 (by kernel_rfl)
    (of_decide_eq_true (by kernel_rfl)) (by unfold Func.isWrapper; first | (rw [if_pos (by decide +kernel)]; kernel_rfl) | (rw [if_neg (by decide +kernel)]; exact ⟨rfl, rfl⟩))
    (fun os started H enc _ => lifted os started H enc)

theorem proved : Rows.RowNoneSaid := over
end Go.Proofs.Ytpaidekocooliaa.rowNone
namespace Go.Proofs.Ytpaidekocooliaa
theorem rowNone_holds : Rows.RowNoneSaid := rowNone.proved
#print axioms rowNone_holds
end Go.Proofs.Ytpaidekocooliaa
