/- For any bytes b, k and hi plenumlaw02.OkeyNexts returns true (of more than 300 bytes the law itself asks nothing): okey.Next and okey.Within answer as the document's reference does, and k is within b and okey.Next of b just where it begins with b (where okey.Next is nothing: where it is not less than b); what was handed in is left as it was. No condition. -/
import Derived.Test.YtfihjhcjkgpgfaaRows
import Derived.WalkKit
import Derived.ProofKit
import Derived.OpenShut
import Derived.ShutString
import Derived.ChangeOld
import Derived.Below
import Derived.Test.YtfihjhcjkgpgfaaOkeyNextM
import Derived.Test.YtfihjhcjkgpgfaaOkeyAwake
import Derived.Test.YtfihjhcjkgpgfaaOkeyOpen
import Derived.Deep.RegionWith
import Derived.BigRegion
import Derived.Deep.Cut
namespace Go.Proofs.Ytfihjhcjkgpgfaa.okeyNexts
open Go.ChangeShapes Go.WideShapes Go.ChangeAt Go.RowKit
open Go.ChangeMaps (open_string shut_string)
set_option linter.unusedVariables false

theorem own : ownKnob Try.prog.godebug = none := by kernel_rfl
theorem laidOut : laidOutB Try.prog = true := by kernel_rfl

open NumMath

theorem isBytes_take {w : World} {a : Option Addr} {len cap n : Nat} {xs : List Int} (h : IsBytes w a len cap xs) (hn : n ≤ len) : IsBytes w a n cap (xs.take n) := by
  obtain ⟨h1, h2, h3, h4, h5⟩ := h
  refine ⟨by rw [List.length_take]; omega, by omega, h3, fun c hc => h4 c (List.mem_of_mem_take hc), ?_⟩
  rcases h5 with h5 | ⟨g, off, ha, hg, hB⟩
  · exact .inl (by omega)
  · exact .inr ⟨g, off, ha, hg, bytesAt_take hB n⟩

set_option maxHeartbeats 40000000 in
theorem walk (a0 : Option Addr) (len0 cap0 : Nat) (x0 : List Int) (a1 : Option Addr) (len1 cap1 : Nat) (x1 : List Int) (a2 : Option Addr) (len2 cap2 : Nat) (x2 : List Int) (w : World) (w0 : IsBytes w a0 len0 cap0 x0) (w1 : IsBytes w a1 len1 cap1 x1) (w2 : IsBytes w a2 len2 cap2 x2) :
    Calls Try.prog 7 #[.slice a0 len0 cap0, .slice a1 len1 cap1, .slice a2 len2 cap2] w fun e w' => e = .returned (.bool true) ∧ Below w.heap.size w w' := by
  have H0 := hide w0
  have H1 := hide w1
  have H2 := hide w2
  obtain ⟨-, hlc, hm, -, -⟩ := w0
  obtain ⟨-, hlc', hm', -, -⟩ := w1
  obtain ⟨-, hlc'', hm'', -, -⟩ := w2
  unfold maxLen at hm hm' hm''
  by_cases h3 : (300 : Int) < (len0 : Int) ∨ (300 : Int) < (len1 : Int) ∨ (300 : Int) < (len2 : Int)
  · by_cases g0 : (300 : Int) < (len0 : Int)
    · go_enter Try.func7, Try.ntmps7
      go_wp2_with (go_at_call 9; refine (okawake_any _).mono ?_; rintro e wa ⟨rfl, hba⟩)
      go_ret
      exact ⟨rfl, hba⟩
    · by_cases g1 : (300 : Int) < (len1 : Int)
      · go_enter Try.func7, Try.ntmps7
        go_wp2_with (go_at_call 9; refine (okawake_any _).mono ?_; rintro e wa ⟨rfl, hba⟩)
        go_ret
        exact ⟨rfl, hba⟩
      · have g2 : (300 : Int) < (len2 : Int) := by omega
        go_enter Try.func7, Try.ntmps7
        go_wp2_with (go_at_call 9; refine (okawake_any _).mono ?_; rintro e wa ⟨rfl, hba⟩)
        go_ret
        exact ⟨rfl, hba⟩
  · have g0 : ¬ (300 : Int) < (len0 : Int) := by omega
    have g1 : ¬ (300 : Int) < (len1 : Int) := by omega
    have g2 : ¬ (300 : Int) < (len2 : Int) := by omega
    have HR := hide (nextL_range x0 H0.out.2.2.2.1)
    clear h3
    go_enter Try.func7, Try.ntmps7
    go_wp2_with (first
      | (go_at_call 9; refine (okawake_any _).mono ?_; rintro e wa ⟨rfl, hba⟩)
      | (go_at_call 21; refine (next_any a0 len0 cap0 x0 _ (H0.out.keep hba) ?_).mono ?_; omega; rintro e wb ⟨v7, rfl, hown7, hbb⟩; obtain ⟨a7, n7, c7, hv7, hIs7⟩ := hown7.at HR.out; subst hv7; have H7 := hide hIs7; have hb2 := hba.trans (hbb.mono hba.size); clear hown7 hIs7 hbb))
    go_cut [42] from 26 (fun s w' => s = .bool false ∧ Below w.heap.size w w' ∧ IsBytes w' a7 n7 c7 (nextL x0))
    case first =>
      have q7 := (H7.out.keep (Below.refl wb.heap.size wb).drew).conv
      go_region_with (first
        | (go_at_call 22; refine (rnext_any a0 len0 cap0 x0 _ (H0.out.keep hb2.drew) ?_).mono ?_; omega; rintro e wc ⟨v8, rfl, hown8, hbc⟩; have q8 := hown8.holds.conv; have hbc' := below_undrew hbc; have q7c := (H7.out.keep hbc').conv; have hb3 := hb2.trans (hbc'.mono hb2.size); clear hown8 hbc)
        | (go_at_call 23; refine (within_any a1 len1 cap1 x1 a0 len0 cap0 x0 a2 len2 cap2 x2 _ (H1.out.keep hb3) (H0.out.keep hb3) (H2.out.keep hb3)).mono ?_; rintro e w' ⟨rfl, hw⟩; have hw := hw.symm; subst hw)
        | (go_at_call 24; refine (rwithin_any a1 len1 cap1 x1 a0 len0 cap0 x0 a2 len2 cap2 x2 _ (H1.out.keep hb3) (H0.out.keep hb3) (H2.out.keep hb3)).mono ?_; rintro e w' ⟨rfl, hw⟩; have hw := hw.symm; subst hw))
      all_goals (go_wp2_with fail; go_meet; exact ⟨rfl, hb3, H7.out.keep hbc'⟩)
    case rest =>
      obtain ⟨rfl, hb3, hIs7⟩ := hcut
      have HI7 := hide hIs7
      clear hIs7
      have hn7 := HI7.out.1
      have hWx : withinB x1 x0 (nextL x0) = withinB x1 x0 (nextL x0) := rfl
      have q1 := (H1.out.keep hb3.drew).conv
      have q0 := (H0.out.keep hb3.drew).conv
      have lx := bytesLess_strB x1 x0 H1.out.2.2.2.1 H0.out.2.2.2.1
      have hl0 := H0.out.1
      have hl1 := H1.out.1
      by_cases hle : len0 ≤ len1
      · have hqt := (isBytes_take (H1.out.keep hb3.drew) hle).conv
        have hle' : (len0 : Int) ≤ (len1 : Int) := by omega
        have hlc3 : (len0 : Int) ≤ (cap1 : Int) := by omega
        have hp0 : (0 : Int) ≤ (len0 : Int) := by omega
        by_cases htk : x1.take len0 = x0
        · have hW : withinB x1 x0 (nextL x0) = true := within_begins x1 x0 H1.out.2.2.2.1 H0.out.2.2.2.1 ((begins_iff x1 x0).2 ⟨by omega, by rw [hl0]; exact htk⟩)
          rw [htk] at hqt
          have HW := hide hW
          clear hW hWx hl0 hl1 htk hn7
          go_wp2
          first
            | go_region
            | fail
          all_goals
            go_wp2_with (go_at_call 23; refine (within_any a1 len1 cap1 x1 a0 len0 cap0 x0 a7 _ c7 (nextL x0) _ (H1.out.keep hb3.drew) (H0.out.keep hb3.drew) (HI7.out.keep (Below.refl _ _).drew)).mono ?_; rw [HW.out]; rintro e w' ⟨rfl, hw⟩; have hw := hw.symm; subst hw)
            go_ret
            exact ⟨rfl, hb3.drew⟩
        · have hnb : ¬ ∃ r, x1 = x0 ++ r := fun h => htk (by have h2 := ((begins_iff x1 x0).1 h).2; rw [hl0] at h2; exact h2)
          have eB : ((strB (x1.take len0)).toList == (strB x0).toList) = false := by rw [strB_eq _ _ (fun c hc => H1.out.2.2.2.1 c (List.mem_of_mem_take hc)) H0.out.2.2.2.1]; exact decide_eq_false htk
          clear htk
          by_cases h7 : n7 = 0
          · have hnx : nextL x0 = [] := List.length_eq_zero_iff.1 (by rw [hn7]; exact h7)
            have HW := hide (within_none x1 x0 hnx)
            subst h7
            clear hnx hn7 hl0 hl1 hWx hnb
            go_wp2
            first
              | go_region
              | fail
            all_goals
              go_wp2_with (go_at_call 23; refine (within_any a1 len1 cap1 x1 a0 len0 cap0 x0 a7 _ c7 (nextL x0) _ (H1.out.keep hb3.drew) (H0.out.keep hb3.drew) (HI7.out.keep (Below.refl _ _).drew)).mono ?_; rw [HW.out]; rintro e w' ⟨rfl, hw⟩; have hw := hw.symm; subst hw)
              go_ret
              exact ⟨rfl, hb3.drew⟩
          · have hnx : ¬ nextL x0 = [] := by intro h; rw [h] at hn7; exact h7 hn7.symm
            have HW := hide (within_not x1 x0 H1.out.2.2.2.1 H0.out.2.2.2.1 hnb hnx)
            have h7' : ((n7 : Int) == 0) = false := by simp; omega
            clear hnx hn7 hl0 hl1 hWx hnb
            go_wp2
            first
              | go_region
              | fail
            all_goals
              go_wp2_with (go_at_call 23; refine (within_any a1 len1 cap1 x1 a0 len0 cap0 x0 a7 _ c7 (nextL x0) _ (H1.out.keep hb3.drew) (H0.out.keep hb3.drew) (HI7.out.keep (Below.refl _ _).drew)).mono ?_; rw [HW.out]; rintro e w' ⟨rfl, hw⟩; have hw := hw.symm; subst hw)
              go_ret
              exact ⟨rfl, hb3.drew⟩
      · have hnb : ¬ ∃ r, x1 = x0 ++ r := fun h => hle (by have h2 := ((begins_iff x1 x0).1 h).1; omega)
        have hle' : decide ((len0 : Int) ≤ (len1 : Int)) = false := by simp; omega
        by_cases h7 : n7 = 0
        · have hnx : nextL x0 = [] := List.length_eq_zero_iff.1 (by rw [hn7]; exact h7)
          have HW := hide (within_none x1 x0 hnx)
          subst h7
          clear hnx hn7 hl0 hl1 hWx hnb
          go_wp2
          first
            | go_region
            | fail
          all_goals
            go_wp2_with (go_at_call 23; refine (within_any a1 len1 cap1 x1 a0 len0 cap0 x0 a7 _ c7 (nextL x0) _ (H1.out.keep hb3.drew) (H0.out.keep hb3.drew) (HI7.out.keep (Below.refl _ _).drew)).mono ?_; rw [HW.out]; rintro e w' ⟨rfl, hw⟩; have hw := hw.symm; subst hw)
            go_ret
            exact ⟨rfl, hb3.drew⟩
        · have hnx : ¬ nextL x0 = [] := by intro h; rw [h] at hn7; exact h7 hn7.symm
          have HW := hide (within_not x1 x0 H1.out.2.2.2.1 H0.out.2.2.2.1 hnb hnx)
          have h7' : ((n7 : Int) == 0) = false := by simp; omega
          clear hnx hn7 hl0 hl1 hWx hnb
          go_wp2
          first
            | go_region
            | fail
          all_goals
            go_wp2_with (go_at_call 23; refine (within_any a1 len1 cap1 x1 a0 len0 cap0 x0 a7 _ c7 (nextL x0) _ (H1.out.keep hb3.drew) (H0.out.keep hb3.drew) (HI7.out.keep (Below.refl _ _).drew)).mono ?_; rw [HW.out]; rintro e w' ⟨rfl, hw⟩; have hw := hw.symm; subst hw)
            go_ret
            exact ⟨rfl, hb3.drew⟩

set_option maxRecDepth 100000 in
theorem lifted (os : Os) (started : os.Started) (H : Type) (enc : TypeId × Value → H) :
    ReturnsInHanded {} Try.checked os 7 .any (Rows.okeyNextsSpec.pre6 enc Try.prog Try.f7 Rows.okeyNextsRow.domain false) (Rows.okeyNextsSpec.post enc Try.prog Try.f7 false true false false) := by
  refine returnsInHanded_of_change (C := Try.checked) own started (by kernel_rfl) Try.func7
    (ChangeSpec.witness6 (enc := enc) (C := Try.checked) false ⟨#[], #[.slice none 0 0, .slice none 0 0, .slice none 0 0], []⟩ 8 (by kernel_rfl) (by kernel_rfl) (by kernel_rfl) (by kernel_rfl)) ?_
  intro W base args ds gs before hval0 hW hcnd _
  have hval : ∀ (j : Nat) t v, Try.f7.params[j]? = some t → args[j]? = some v → Value.okWide Try.prog W .any base t v := hval0
  have hW' := hW
  obtain ⟨p, q, hA0, hV, rfl, hfz, hnd⟩ := hW
  have hA : DataW.TrodAll enc Try.prog W 0 (fun _ => true) true Try.f7.params.toList args.toList ds p := hA0
  rw [Try.params7] at hA hval
  obtain ⟨v0, vs0, d0, ds0, p0, q0, hargs, rfl, rfl, h0, r0⟩ := trodAll_cons hA
  obtain ⟨v1, vs1, d1, ds1, p1, q1, rfl, rfl, rfl, h1, r1⟩ := trodAll_cons r0
  obtain ⟨v2, vs2, d2, ds2, p2, q2, rfl, rfl, rfl, h2, r2⟩ := trodAll_cons r1
  obtain ⟨rfl, rfl, rfl⟩ := trodAll_nil r2
  obtain rfl : args = #[v0, v1, v2] := by cases args; simp_all
  obtain ⟨rfl, rfl⟩ := trodVars_none hV
  obtain ⟨a0, len0, cap0, rfl⟩ := okWide_slice Try.underlying31 (hval 0 31 v0 rfl rfl)
  have k0 := h0
  have lt0 : ∀ x ∈ p0, x.block < W.heap.size := by obtain ⟨m, hm⟩ := k0; exact DataW.trod_lt m _ _ _ hm
  obtain ⟨x0, w0⟩ : ∃ xs, IsBytes W a0 len0 cap0 xs := by
    obtain ⟨fuel, hf⟩ := h0
    exact open_bytes (by simpa [Value.cells] using hf)
  obtain ⟨a1, len1, cap1, rfl⟩ := okWide_slice Try.underlying31 (hval 1 31 v1 rfl rfl)
  have k1 := h1
  have lt1 : ∀ x ∈ p1, x.block < W.heap.size := by obtain ⟨m, hm⟩ := k1; exact DataW.trod_lt m _ _ _ hm
  obtain ⟨x1, w1⟩ : ∃ xs, IsBytes W a1 len1 cap1 xs := by
    obtain ⟨fuel, hf⟩ := h1
    exact open_bytes (by simpa [Value.cells] using hf)
  obtain ⟨a2, len2, cap2, rfl⟩ := okWide_slice Try.underlying31 (hval 2 31 v2 rfl rfl)
  have k2 := h2
  have lt2 : ∀ x ∈ p2, x.block < W.heap.size := by obtain ⟨m, hm⟩ := k2; exact DataW.trod_lt m _ _ _ hm
  obtain ⟨x2, w2⟩ : ∃ xs, IsBytes W a2 len2 cap2 xs := by
    obtain ⟨fuel, hf⟩ := h2
    exact open_bytes (by simpa [Value.cells] using hf)
  clear hA0 hval0
  refine (walk a0 len0 cap0 x0 a1 len1 cap1 x1 a2 len2 cap2 x2 W w0 w1 w2).mono fun e W' ⟨he, bel⟩ => ?_
  subst he
  exact ⟨_, rfl, _, _, _, [], _, [], hW', trodAll_mk1 (shut_bool Try.underlying4 _), (trodAll_cons_mk (Below.trod laidOut (by kernel_rfl) (of_decide_eq_true (by kernel_rfl)) k0 bel lt0) (trodAll_cons_mk (Below.trod laidOut (by kernel_rfl) (of_decide_eq_true (by kernel_rfl)) k1 bel lt1) (trodAll_cons_mk (Below.trod laidOut (by kernel_rfl) (of_decide_eq_true (by kernel_rfl)) k2 bel lt2) trodAll_mk0))), rfl, bel.frame _, fun h => by cases h⟩

theorem over : Rows.okeyNextsRow.holds Try.pinned (OpenSpec.ofChange Rows.okeyNextsSpec) :=
  OpenClaim.holds_of_wide 7 Try.f7 rfl rfl rfl rfl rfl rfl rfl ⟨rfl, rfl, rfl, rfl, rfl⟩ rfl rfl rfl rfl rfl (by kernel_rfl) Try.func7 (by kernel_rfl)
    (of_decide_eq_true (by kernel_rfl)) (by unfold Func.isWrapper; first | (rw [if_pos (by decide +kernel)]; kernel_rfl) | (rw [if_neg (by decide +kernel)]; exact ⟨rfl, rfl⟩))
    (fun os started H enc _ => lifted os started H enc)

theorem proved : Rows.OkeyNextsSaid := over
end Go.Proofs.Ytfihjhcjkgpgfaa.okeyNexts
namespace Go.Proofs.Ytfihjhcjkgpgfaa
theorem okeyNexts_holds : Rows.OkeyNextsSaid := okeyNexts.proved
#print axioms okeyNexts_holds
end Go.Proofs.Ytfihjhcjkgpgfaa
