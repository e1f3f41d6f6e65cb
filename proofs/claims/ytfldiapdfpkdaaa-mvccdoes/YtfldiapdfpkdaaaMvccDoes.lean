/- MvccDoes: for every list of deeds, every two bounds and every time plenumlaw12.MvccDoes returns true (of more than 40 deeds, of a bound or a key of more than 50 bytes, and of a version with more than 100 bytes or more than 10 keys it asks nothing): whatever is done with a store, answers and what it has are what the document says. No condition. -/
import Derived.Test.YtfldiapdfpkdaaaRows
import Derived.WalkKit
import Derived.ProofKit
import Derived.OpenShut
import Derived.ShutString
import Derived.ChangeOld
import Derived.Below
import Derived.SizedLaws
import Derived.Test.YtfldiapdfpkdaaaQsO
namespace Go.Proofs.Ytfldiapdfpkdaaa.mvccDoes
open Go.ChangeShapes Go.WideShapes Go.ChangeAt Go.RowKit
open Go.ChangeMaps (open_string shut_string)
set_option linter.unusedVariables false

theorem own : ownKnob Try.prog.godebug = none := by kernel_rfl
theorem laidOut : laidOutB Try.prog = true := by kernel_rfl

open NumMath

set_option maxRecDepth 100000 in
set_option maxHeartbeats 4000000 in
theorem walk (a0 : Option Addr) (len0 cap0 : Nat) (x0 : List MD) (a1 : Option Addr) (len1 cap1 : Nat) (x1 : List Int) (a2 : Option Addr) (len2 cap2 : Nat) (x2 : List Int) (a3 : Int) (w : World) (w0 : IsDeeds12 w a0 len0 cap0 x0) (w1 : IsBytes w a1 len1 cap1 x1) (w2 : IsBytes w a2 len2 cap2 x2) (w3 : (Lit.int .u64 a3).wf = true) :
    Calls Try.prog 3 #[.slice a0 len0 cap0, .slice a1 len1 cap1, .slice a2 len2 cap2, .int .u64 a3] w fun e w' => e = .returned (.bool true) ∧ Below w.heap.size w w' := by
  have HW0 := hide w0
  have HW1 := hide w1
  have HW2 := hide w2
  have hm1 : (len1 : Int) ≤ 9223372036854775807 := by have := w1.2.1; have := w1.2.2.1; unfold maxLen at this; omega
  have hm2 : (len2 : Int) ≤ 9223372036854775807 := by have := w2.2.1; have := w2.2.2.1; unfold maxLen at this; omega
  clear w0 w1 w2 w3
  by_cases g1 : (50 : Int) < (len1 : Int)
  · go_enter Try.func3, Try.ntmps3
    go_wp2_with (first
      | (go_at_call 8; refine (awake12_any _).mono ?_; rintro e wa ⟨rfl, hba⟩; have HB1 := hide hba; clear hba))
    go_ret
    exact ⟨rfl, HB1.out⟩
  by_cases g2 : (50 : Int) < (len2 : Int)
  · go_enter Try.func3, Try.ntmps3
    go_wp2_with (first
      | (go_at_call 8; refine (awake12_any _).mono ?_; rintro e wa ⟨rfl, hba⟩; have HB1 := hide hba; clear hba))
    go_ret
    exact ⟨rfl, HB1.out⟩
  cases hgr : greatD x0 with
  | true =>
    have HGr := hide hgr
    clear hgr
    go_enter Try.func3, Try.ntmps3
    go_wp2_with (first
      | (go_at_call 9; refine (both_any a0 len0 cap0 x0 _ (HW0.out.keep HB1.out)).mono ?_; rintro e wb ⟨p, mb, q, j, rfl, -, hbb⟩; rw [HGr.out]; have HB3 := hide (HB1.out.trans (hbb.mono HB1.out.size)); clear hbb)
      | (go_at_call 8; refine (awake12_any _).mono ?_; rintro e wa ⟨rfl, hba⟩; have HB1 := hide hba; clear hba))
    go_ret
    exact ⟨rfl, HB3.out⟩
  | false =>
    have HGr := hide hgr
    clear hgr
    go_enter Try.func3, Try.ntmps3
    go_wp2_with (first
      | (go_at_call 10; have hchk := HC78.out; clear hchk; refine (sameCels HC78.out HC8.out).mono ?_; rintro e v9 ⟨rfl, hb9⟩; have HB9 := hide (HB8.out.trans (hb9.mono HB8.out.size)); have HT9 := hide (HT8.out.keep hb9); clear hb9)
      | (go_at_call 12; have hchk := HC7.out; clear hchk; refine (twoScanX HT7.out a1 len1 cap1 x1 (HW1.out.keep HB7.out) a2 len2 cap2 x2 (HW2.out.keep HB7.out) a3).mono ?_; rintro e v8 ⟨ra8, rn8, rc8, rfl, hc8, hb8⟩; have HB8 := hide (HB7.out.trans (hb8.mono HB7.out.size)); have HT8 := hide (HT7.out.keep hb8); have HC8 := hide hc8; have HC78 := hide (HC7.out.keep hb8); clear hc8 hb8)
      | (go_at_call 11; have hchk := HB6.out; clear hchk; refine (twoScanP HT6.out a1 len1 cap1 x1 (HW1.out.keep HB6.out) a2 len2 cap2 x2 (HW2.out.keep HB6.out) a3).mono ?_; rintro e v7 ⟨ra7, rn7, rc7, rfl, hc7, hb7⟩; have HB7 := hide (HB6.out.trans (hb7.mono HB6.out.size)); have HT7 := hide (HT6.out.keep hb7); have HC7 := hide hc7;  clear hc7 hb7)
      | (go_at_call 10; refine (sameCels HC45.out HC5.out).mono ?_; rintro e v6 ⟨rfl, hb6⟩; have HB6 := hide (HB5.out.trans (hb6.mono HB5.out.size)); have HT6 := hide (HT5.out.keep hb6); clear hb6)
      | (go_at_call 12; have hchk := HC4.out; clear hchk; refine (twoScanX HT4.out none 0 0 [] (isB_zero _) none 0 0 [] (isB_zero _) 18446744073709551615).mono ?_; rintro e v5 ⟨ra5, rn5, rc5, rfl, hc5, hb5⟩; have HB5 := hide (HB4.out.trans (hb5.mono HB4.out.size)); have HT5 := hide (HT4.out.keep hb5); have HC5 := hide hc5; have HC45 := hide (HC4.out.keep hb5); clear hc5 hb5)
      | (go_at_call 11; refine (twoScanP HT3.out none 0 0 [] (isB_zero _) none 0 0 [] (isB_zero _) 18446744073709551615).mono ?_; rintro e v4 ⟨ra4, rn4, rc4, rfl, hc4, hb4⟩; have HB4 := hide (HB3.out.trans (hb4.mono HB3.out.size)); have HT4 := hide (HT3.out.keep hb4); have HC4 := hide hc4;  clear hc4 hb4)
      | (go_at_call 9; refine (both_any a0 len0 cap0 x0 _ (HW0.out.keep HB1.out)).mono ?_; rintro e wb ⟨p, mb, q, j, rfl, hst, hbb⟩; rw [HGr.out]; obtain ⟨hj, hst⟩ := hst HGr.out; obtain ⟨st, hsol⟩ := hst.two hj; have HT3 := hide hsol; have HB3 := hide (HB1.out.trans (hbb.mono HB1.out.size)); clear hbb hst hsol)
      | (go_at_call 8; refine (awake12_any _).mono ?_; rintro e wa ⟨rfl, hba⟩; have HB1 := hide hba; clear hba))
    go_ret
    exact ⟨rfl, HB9.out⟩

set_option maxRecDepth 100000 in
theorem lifted (os : Os) (started : os.Started) (H : Type) (enc : TypeId × Value → H) :
    ReturnsInHanded {} Try.checked os 3 .any (Rows.mvccDoesSpec.pre6 enc Try.prog Try.f3 Rows.mvccDoesRow.domain false) (Rows.mvccDoesSpec.post enc Try.prog Try.f3 false true false false) := by
  refine returnsInHanded_of_change_sized (C := Try.checked) own started (by kernel_rfl) Try.func3
    (ChangeSpec.witness6 (enc := enc) (C := Try.checked) false ⟨#[], #[.slice none 0 0, .slice none 0 0, .slice none 0 0, .int .u64 0], []⟩ 8 (by kernel_rfl) (by kernel_rfl) (by kernel_rfl) (by kernel_rfl)) ?_
  intro W base args ds gs before hval0 hW hcnd hsz0 _
  have hval : ∀ (j : Nat) t v, Try.f3.params[j]? = some t → args[j]? = some v → Value.okWide Try.prog W .any base t v := hval0
  have hW' := hW
  obtain ⟨p, q, hA0, hV, rfl, hfz, hnd⟩ := hW
  have hA : DataW.TrodAll enc Try.prog W 0 (fun _ => true) true Try.f3.params.toList args.toList ds p := hA0
  have hsz : (DataW.weightsEach Try.prog (Try.f3.params.toList ++ Rows.mvccDoesSpec.plain.varTypes Try.prog) (ds ++ gs)).all (fun x => decide (x ≤ reachBytes)) = true := hsz0
  rw [Try.params3] at hA hval hsz
  obtain ⟨v0, vs0, d0, ds0, p0, q0, hargs, rfl, rfl, h0, r0⟩ := trodAll_cons hA
  obtain ⟨v1, vs1, d1, ds1, p1, q1, rfl, rfl, rfl, h1, r1⟩ := trodAll_cons r0
  obtain ⟨v2, vs2, d2, ds2, p2, q2, rfl, rfl, rfl, h2, r2⟩ := trodAll_cons r1
  obtain ⟨v3, vs3, d3, ds3, p3, q3, rfl, rfl, rfl, h3, r3⟩ := trodAll_cons r2
  obtain ⟨rfl, rfl, rfl⟩ := trodAll_nil r3
  obtain rfl : args = #[v0, v1, v2, v3] := by cases args; simp_all
  obtain ⟨rfl, rfl⟩ := trodVars_none hV
  obtain ⟨a0, len0, cap0, rfl⟩ := okWide_slice Try.underlying22 (hval 0 22 v0 rfl rfl)
  have k0 := h0
  have lt0 : ∀ x ∈ p0, x.block < W.heap.size := by obtain ⟨m, hm⟩ := k0; exact DataW.trod_lt m _ _ _ hm
  obtain ⟨x0, w0⟩ : ∃ xs, IsDeeds12 W a0 len0 cap0 xs := by
    obtain ⟨fuel, hf⟩ := h0
    exact open_deeds12 (by simpa [Value.cells] using hf) (fun n hn => by have := List.all_eq_true.1 hsz n (DataW.weights_mem_each (j := 0) (t := 22) (d := d0) rfl rfl n hn); simpa using this)
  obtain ⟨a1, len1, cap1, rfl⟩ := okWide_slice Try.underlying23 (hval 1 23 v1 rfl rfl)
  have k1 := h1
  have lt1 : ∀ x ∈ p1, x.block < W.heap.size := by obtain ⟨m, hm⟩ := k1; exact DataW.trod_lt m _ _ _ hm
  obtain ⟨x1, w1⟩ : ∃ xs, IsBytes W a1 len1 cap1 xs := by
    obtain ⟨fuel, hf⟩ := h1
    exact open_bytes (by simpa [Value.cells] using hf)
  obtain ⟨a2, len2, cap2, rfl⟩ := okWide_slice Try.underlying23 (hval 2 23 v2 rfl rfl)
  have k2 := h2
  have lt2 : ∀ x ∈ p2, x.block < W.heap.size := by obtain ⟨m, hm⟩ := k2; exact DataW.trod_lt m _ _ _ hm
  obtain ⟨x2, w2⟩ : ∃ xs, IsBytes W a2 len2 cap2 xs := by
    obtain ⟨fuel, hf⟩ := h2
    exact open_bytes (by simpa [Value.cells] using hf)
  have k3 := h3
  have lt3 : ∀ x ∈ p3, x.block < W.heap.size := by obtain ⟨m, hm⟩ := k3; exact DataW.trod_lt m _ _ _ hm
  obtain ⟨a3, rfl, w3⟩ : ∃ n, v3 = .int .u64 n ∧ (Lit.int .u64 n).wf = true := by
    obtain ⟨n, hn, _, _, hw⟩ := open_int Try.underlying24 (hval 3 24 v3 rfl rfl) h3
    exact ⟨n, hn, hw⟩
  clear hA0 hval0
  refine (walk a0 len0 cap0 x0 a1 len1 cap1 x1 a2 len2 cap2 x2 a3 W w0 w1 w2 w3).mono fun e W' ⟨he, bel⟩ => ?_
  subst he
  exact ⟨_, rfl, _, _, _, [], _, [], hW', trodAll_mk1 (shut_bool Try.underlying4 _), (trodAll_cons_mk (Below.trod laidOut (by kernel_rfl) (of_decide_eq_true (by kernel_rfl)) k0 bel lt0) (trodAll_cons_mk (Below.trod laidOut (by kernel_rfl) (of_decide_eq_true (by kernel_rfl)) k1 bel lt1) (trodAll_cons_mk (Below.trod laidOut (by kernel_rfl) (of_decide_eq_true (by kernel_rfl)) k2 bel lt2) (trodAll_cons_mk (Below.trod laidOut (by kernel_rfl) (of_decide_eq_true (by kernel_rfl)) k3 bel lt3) trodAll_mk0)))), rfl, bel.frame _, fun h => by cases h⟩

theorem over : Rows.mvccDoesRow.holds Try.pinned (OpenSpec.ofChange Rows.mvccDoesSpec) :=
  OpenClaim.holds_of_wide 3 Try.f3 rfl rfl rfl rfl rfl rfl rfl ⟨rfl, rfl, rfl, rfl, rfl⟩ rfl rfl rfl rfl rfl (by kernel_rfl) Try.func3 (by kernel_rfl)
    (of_decide_eq_true (by kernel_rfl)) (by unfold Func.isWrapper; first | (rw [if_pos (by decide +kernel)]; kernel_rfl) | (rw [if_neg (by decide +kernel)]; exact ⟨rfl, rfl⟩))
    (fun os started H enc _ => lifted os started H enc)

theorem proved : Rows.MvccDoesSaid := over
end Go.Proofs.Ytfldiapdfpkdaaa.mvccDoes
namespace Go.Proofs.Ytfldiapdfpkdaaa
theorem mvccDoes_holds : Rows.MvccDoesSaid := mvccDoes.proved
#print axioms mvccDoes_holds
end Go.Proofs.Ytfldiapdfpkdaaa
