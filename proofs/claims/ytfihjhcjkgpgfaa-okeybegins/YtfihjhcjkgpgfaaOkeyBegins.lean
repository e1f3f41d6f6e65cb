/- For any two slices of values plenumlaw02.OkeyBegins returns true (of lists that are not few the law itself asks nothing): the bytes of okey.Put of a list and more begin with those of the list, and are within them and okey.Next of them; what was handed in is left as it was. No condition. -/
import Derived.Test.YtfihjhcjkgpgfaaRows
import Derived.WalkKit
import Derived.ProofKit
import Derived.OpenShut
import Derived.ShutString
import Derived.ChangeOld
import Derived.Below
import Derived.Test.YtfihjhcjkgpgfaaOkeyNextM
import Derived.Test.YtfihjhcjkgpgfaaOkeyJoin
import Derived.Test.YtfihjhcjkgpgfaaOkeyAwake
import Derived.Test.YtfihjhcjkgpgfaaOkeyOpen
import Derived.Deep.RegionHeld3
namespace Go.Proofs.Ytfihjhcjkgpgfaa.okeyBegins
open Go.ChangeShapes Go.WideShapes Go.ChangeAt Go.RowKit
open Go.ChangeMaps (open_string shut_string)
set_option linter.unusedVariables false

theorem own : ownKnob Try.prog.godebug = none := by kernel_rfl
theorem laidOut : laidOutB Try.prog = true := by kernel_rfl

open NumMath

theorem isBytes_take {w : World} {a : Option Addr} {len cap n : Nat} {xs : List Int} (h : IsBytes w a len cap xs) (hn : n ≤ len) : IsBytes w a n cap (xs.take n) := by
  obtain ⟨h1, h2, h3, h4, h5⟩ := h
  refine ⟨by rw [List.length_take]; omega, by omega, h3, fun c hc => h4 c (List.mem_of_mem_take hc), ?_⟩
  rcases h5 with h5 | ⟨g, off, ha, hg, hB⟩
  · exact .inl (by omega)
  · exact .inr ⟨g, off, ha, hg, bytesAt_take hB n⟩

theorem few_both {xs ys : List Val} (h : fewB xs = true) (h' : fewB ys = true) : (keyL (xs ++ ys)).length ≤ 10000 := by
  have h1 := few_key h
  have h2 := few_key h'
  rw [keyL_append, List.length_append]
  omega

theorem fits_both {xs ys : List Val} (h : ∀ v ∈ xs, v.fits) (h' : ∀ v ∈ ys, v.fits) : ∀ v ∈ xs ++ ys, v.fits := by
  intro v hv
  rcases List.mem_append.1 hv with hv | hv
  · exact h v hv
  · exact h' v hv

set_option maxHeartbeats 8000000 in
theorem walk (a0 : Option Addr) (len0 cap0 : Nat) (x0 : List Val) (a1 : Option Addr) (len1 cap1 : Nat) (x1 : List Val) (w : World) (w0 : IsVals w a0 len0 cap0 x0) (w1 : IsVals w a1 len1 cap1 x1) :
    Calls Try.prog 8 #[.slice a0 len0 cap0, .slice a1 len1 cap1] w fun e w' => e = .returned (.bool true) ∧ Below w.heap.size w w' := by
  have HV := hide w0
  have HW := hide w1
  obtain ⟨-, hlc, hm, -, -⟩ := w0
  obtain ⟨-, hlc', hm', -, -⟩ := w1
  unfold maxLen at hm hm'
  have HF0 := hide (few_any a0 len0 cap0 x0)
  have HF1 := hide (few_any a1 len1 cap1 x1)
  cases hf0 : fewB x0
  · go_enter Try.func8, Try.ntmps8
    go_wp2_with (first
      | (go_at_call 9; refine (okawake_any _).mono ?_; rintro e wa ⟨rfl, hba⟩)
      | (go_at_call 10; go_must (refine (HF0.out _ (HV.out.keep hba)).mono ?_); rintro e wb ⟨rfl, hbb⟩))
    go_ret
    exact ⟨rfl, hba.trans (hbb.mono hba.size)⟩
  · cases hf1 : fewB x1
    · go_enter Try.func8, Try.ntmps8
      go_wp2_with (first
        | (go_at_call 9; refine (okawake_any _).mono ?_; rintro e wa ⟨rfl, hba⟩)
        | (go_at_call_of 10 len0; refine (HF0.out _ (HV.out.keep hba)).mono ?_; rintro e wb ⟨rfl, hbb⟩; have hb2 := hba.trans (hbb.mono hba.size); clear hbb)
        | (go_at_call_of 10 len1; go_must (refine (HF1.out _ (HW.out.keep hb2)).mono ?_); rintro e wc ⟨rfl, hbc⟩; have hb3 := hb2.trans (hbc.mono hb2.size); clear hbc))
      go_ret
      exact ⟨rfl, hb3⟩
    · have HK0 := hide (few_key hf0)
      have HK1 := hide (few_both hf0 hf1)
      have HN0 := hide (few_size hf0).2
      have HN1 := hide (few_size hf1).2
      have HFt := hide (fits_both HV.out.fits HW.out.fits)
      have hsw : w.heap.size ≤ w.heap.size := Nat.le_refl _
      go_enter Try.func8, Try.ntmps8
      go_wp2_with (first
        | (go_at_call 9; refine (okawake_any _).mono ?_; rintro e wa ⟨rfl, hba⟩)
        | (go_at_call_of 10 len0; refine (HF0.out _ (HV.out.keep hba)).mono ?_; rintro e wb ⟨rfl, hbb⟩; have hb2 := hba.trans (hbb.mono hba.size); clear hbb)
        | (go_at_call_of 10 len1; refine (HF1.out _ (HW.out.keep hb2)).mono ?_; rintro e wc ⟨rfl, hbc⟩; have hb3 := hb2.trans (hbc.mono hb2.size); clear hbc)
        | (go_at_call_of 17 len0; refine (okput_any a0 len0 cap0 x0 _ (HV.out.keep hb3) ?_).mono ?_; (have := HK0.out; omega); rintro e wd ⟨v5, rfl, hown5, hbd⟩; obtain ⟨a5, n5, c5, hv5, hIs5⟩ := hown5.at (keyL_range x0); subst hv5; have H5 := hide hIs5; have hb4 := hb3.trans (hbd.mono hb3.size); have hs4 := hb4.size; clear hown5 hIs5 hbd)
        | (at_builtin; refine wp_joinV _ rfl (.const (.slice none 0 0)) (.tmp 19) rfl wd.heap.size _ [] rfl (ownV_nil _ _) a0 len0 cap0 x0 rfl (HV.out.keep hb4) (by have := HN0.out; rw [List.length_nil]; omega) (Nat.le_refl _) ?_; intro v6 we hown6 hbe; have HO6 := hide hown6; have HB6 := hide hbe; have hb5 := hb4.trans (hbe.mono hs4); have hs5 := hbe.size; clear hown6 hbe)
        | (at_builtin; refine wp_joinV _ rfl (.tmp 20) (.tmp 21) rfl wd.heap.size _ _ rfl HO6.out a1 len1 cap1 x1 rfl (HW.out.keep hb5) (by have := HN0.out; have := HN1.out; rw [List.nil_append]; omega) hs5 ?_; intro v7 wf hown7 hbf; rw [List.nil_append] at hown7; obtain ⟨a7, n7, c7, hv7, hIs7⟩ := hown7.at HFt.out; subst hv7; have H7 := hide hIs7; have hb6 := hb5.trans (hbf.mono hs4); have H5b := hide (H5.out.keep (HB6.out.trans hbf)); clear hown7 hIs7 hbf)
        | (go_at_call_of 17 n7; refine (okput_any a7 n7 c7 (x0 ++ x1) _ H7.out ?_).mono ?_; (have := HK1.out; omega); rintro e wg ⟨v8, rfl, hown8, hbg⟩; have H5c := hide (H5b.out.keep hbg); have hb7 := hb6.trans (hbg.mono hb6.size); have HO8 := hide hown8; clear hown8 hbg))
      obtain ⟨a8, n8, c8, rfl, hIs8⟩ := HO8.out.at (keyL_range _)
      have hn5 : (keyL x0).length = n5 := H5c.out.1
      have hn8 : (keyL (x0 ++ x1)).length = n8 := hIs8.1
      have hle : n5 ≤ n8 := by rw [← hn5, ← hn8, keyL_append, List.length_append]; omega
      have htk : (keyL (x0 ++ x1)).take n5 = keyL x0 := by rw [keyL_append, ← hn5]; simp
      have H9 : Hid (IsBytes wg a8 n5 c8 (keyL x0)) := by have h := isBytes_take hIs8 hle; rw [htk] at h; exact h
      have hW : withinB (keyL (x0 ++ x1)) (keyL x0) (nextL (keyL x0)) = true := within_begins _ _ (keyL_range _) (keyL_range _) ⟨keyL x1, keyL_append x0 x1⟩
      have hk5 : n5 ≤ 5000 := by rw [← hn5]; exact HK0.out
      have hc8 : n8 ≤ c8 := hIs8.2.1
      have hm8 : c8 ≤ 9223372036854775807 := by have := hIs8.2.2.1; unfold maxLen at this; omega
      have H8 := hide hIs8
      have HR := hide (nextL_range _ (keyL_range x0))
      clear hn5 hn8 htk hIs8
      have hle' : (n5 : Int) ≤ (n8 : Int) := by omega
      have hle2 : (n5 : Int) ≤ (c8 : Int) := by omega
      have hp5 : (0 : Int) ≤ (n5 : Int) := by omega
      generalize keyL (x0 ++ x1) = ys at *
      generalize keyL x0 = xs at *
      go_region_held3 (fun w' => (convert 31 9 (.slice a8 n5 c8)).run Try.prog w' = .ok (.string (strB xs)) w' ∧ (convert 31 9 (.slice a5 n5 c5)).run Try.prog w' = .ok (.string (strB xs)) w') (first | exact ⟨(H9.out.keep (Below.refl wg.heap.size wg).drew).conv, (H5c.out.keep (Below.refl wg.heap.size wg).drew).conv⟩ | exact ⟨(H9.out.keep hbh').conv, (H5c.out.keep hbh').conv⟩) (first
        | (go_at_call 21; refine (next_any a5 n5 c5 xs _ (H5c.out.keep (Below.refl wg.heap.size wg).drew) ?_).mono ?_; omega; rintro e wh ⟨v10, rfl, hown10, hbh⟩; obtain ⟨a10, n10, c10, hv10, hIs10⟩ := hown10.at HR.out; subst hv10; have H10 := hide hIs10; have hbh' := below_undrew hbh; clear hown10 hIs10 hbh)
        | (go_at_call 23; refine (within_any a8 n8 c8 ys a5 n5 c5 xs a10 n10 c10 _ _ (H8.out.keep hbh') (H5c.out.keep hbh') H10.out).mono ?_; rintro e w' ⟨rfl, hw⟩; have hw := hw.symm; subst hw))
      all_goals
        go_wp2
        go_ret
        exact ⟨rfl, hb7.trans (hbh'.mono hb7.size)⟩

set_option maxRecDepth 100000 in
theorem lifted (os : Os) (started : os.Started) (H : Type) (enc : TypeId × Value → H) :
    ReturnsInHanded {} Try.checked os 8 .any (Rows.okeyBeginsSpec.pre6 enc Try.prog Try.f8 Rows.okeyBeginsRow.domain false) (Rows.okeyBeginsSpec.post enc Try.prog Try.f8 false true false false) := by
  refine returnsInHanded_of_change (C := Try.checked) own started (by kernel_rfl) Try.func8
    (ChangeSpec.witness6 (enc := enc) (C := Try.checked) false ⟨#[], #[.slice none 0 0, .slice none 0 0], []⟩ 8 (by kernel_rfl) (by kernel_rfl) (by kernel_rfl) (by kernel_rfl)) ?_
  intro W base args ds gs before hval0 hW hcnd _
  have hval : ∀ (j : Nat) t v, Try.f8.params[j]? = some t → args[j]? = some v → Value.okWide Try.prog W .any base t v := hval0
  have hW' := hW
  obtain ⟨p, q, hA0, hV, rfl, hfz, hnd⟩ := hW
  have hA : DataW.TrodAll enc Try.prog W 0 (fun _ => true) true Try.f8.params.toList args.toList ds p := hA0
  rw [Try.params8] at hA hval
  obtain ⟨v0, vs0, d0, ds0, p0, q0, hargs, rfl, rfl, h0, r0⟩ := trodAll_cons hA
  obtain ⟨v1, vs1, d1, ds1, p1, q1, rfl, rfl, rfl, h1, r1⟩ := trodAll_cons r0
  obtain ⟨rfl, rfl, rfl⟩ := trodAll_nil r1
  obtain rfl : args = #[v0, v1] := by cases args; simp_all
  obtain ⟨rfl, rfl⟩ := trodVars_none hV
  obtain ⟨a0, len0, cap0, rfl⟩ := okWide_slice Try.underlying22 (hval 0 22 v0 rfl rfl)
  have k0 := h0
  have lt0 : ∀ x ∈ p0, x.block < W.heap.size := by obtain ⟨m, hm⟩ := k0; exact DataW.trod_lt m _ _ _ hm
  obtain ⟨x0, w0⟩ : ∃ xs, IsVals W a0 len0 cap0 xs := by
    obtain ⟨fuel, hf⟩ := h0
    exact open_vals (by simpa [Value.cells] using hf)
  obtain ⟨a1, len1, cap1, rfl⟩ := okWide_slice Try.underlying22 (hval 1 22 v1 rfl rfl)
  have k1 := h1
  have lt1 : ∀ x ∈ p1, x.block < W.heap.size := by obtain ⟨m, hm⟩ := k1; exact DataW.trod_lt m _ _ _ hm
  obtain ⟨x1, w1⟩ : ∃ xs, IsVals W a1 len1 cap1 xs := by
    obtain ⟨fuel, hf⟩ := h1
    exact open_vals (by simpa [Value.cells] using hf)
  clear hA0 hval0
  refine (walk a0 len0 cap0 x0 a1 len1 cap1 x1 W w0 w1).mono fun e W' ⟨he, bel⟩ => ?_
  subst he
  exact ⟨_, rfl, _, _, _, [], _, [], hW', trodAll_mk1 (shut_bool Try.underlying4 _), (trodAll_cons_mk (Below.trod laidOut (by kernel_rfl) (of_decide_eq_true (by kernel_rfl)) k0 bel lt0) (trodAll_cons_mk (Below.trod laidOut (by kernel_rfl) (of_decide_eq_true (by kernel_rfl)) k1 bel lt1) trodAll_mk0)), rfl, bel.frame _, fun h => by cases h⟩

theorem over : Rows.okeyBeginsRow.holds Try.pinned (OpenSpec.ofChange Rows.okeyBeginsSpec) :=
  OpenClaim.holds_of_wide 8 Try.f8 rfl rfl rfl rfl rfl rfl rfl ⟨rfl, rfl, rfl, rfl, rfl⟩ rfl rfl rfl rfl rfl (by kernel_rfl) Try.func8 (by kernel_rfl)
    (of_decide_eq_true (by kernel_rfl)) (by unfold Func.isWrapper; first | (rw [if_pos (by decide +kernel)]; kernel_rfl) | (rw [if_neg (by decide +kernel)]; exact ⟨rfl, rfl⟩))
    (fun os started H enc _ => lifted os started H enc)

theorem proved : Rows.OkeyBeginsSaid := over
end Go.Proofs.Ytfihjhcjkgpgfaa.okeyBegins
namespace Go.Proofs.Ytfihjhcjkgpgfaa
theorem okeyBegins_holds : Rows.OkeyBeginsSaid := okeyBegins.proved
#print axioms okeyBegins_holds
end Go.Proofs.Ytfihjhcjkgpgfaa
