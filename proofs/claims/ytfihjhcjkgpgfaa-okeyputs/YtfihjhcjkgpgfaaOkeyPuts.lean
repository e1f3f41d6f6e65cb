/- For any slice of values and any bytes plenumlaw02.OkeyPuts returns true (of a list that is not few, or of more than 300 bytes, the law itself asks nothing): okey.Put of the list and okey.Of of the bytes answer as the document's reference does, the error too; what was handed in is left as it was. No condition. -/
import Derived.Test.YtfihjhcjkgpgfaaRows
import Derived.WalkKit
import Derived.ProofKit
import Derived.OpenShut
import Derived.ShutString
import Derived.ChangeOld
import Derived.Below
import Derived.Test.YtfihjhcjkgpgfaaOkeyUnkey
import Derived.Test.YtfihjhcjkgpgfaaOkeyKeyC
import Derived.Test.YtfihjhcjkgpgfaaOkeySame
import Derived.Test.YtfihjhcjkgpgfaaOkeyConv
import Derived.Test.YtfihjhcjkgpgfaaOkeyAwake
import Derived.Test.YtfihjhcjkgpgfaaOkeyOpen
import Derived.Deep.RegionWith
import Derived.Deep.RegionHeld
namespace Go.Proofs.Ytfihjhcjkgpgfaa.okeyPuts
open Go.ChangeShapes Go.WideShapes Go.ChangeAt Go.RowKit
open Go.ChangeMaps (open_string shut_string)
set_option linter.unusedVariables false

theorem own : ownKnob Try.prog.godebug = none := by kernel_rfl
theorem laidOut : laidOutB Try.prog = true := by kernel_rfl

open NumMath

/-- the list that the bytes xs are, or that they are none -/
def OfRes (xs : List Int) (er : Int) (zs : List Val) : Prop := (er = 0 ∧ keyL zs = xs ∧ ∀ v ∈ zs, Plain v) ∨ (er = 20 ∧ zs = [] ∧ ∀ us, (∀ u ∈ us, Plain u) → ¬ keyL us = xs)

theorem OfRes.one {xs : List Int} {er er' : Int} {zs zs' : List Val} (h : OfRes xs er zs) (h' : OfRes xs er' zs') : er' = er ∧ zs' = zs := by
  rcases h with ⟨rfl, h1, h2⟩ | ⟨rfl, rfl, h2⟩ <;> rcases h' with ⟨rfl, h3, h4⟩ | ⟨rfl, rfl, h4⟩
  · exact ⟨rfl, keyL_inj h4 h2 (h3.trans h1.symm)⟩
  · exact absurd h1 (h4 zs h2)
  · exact absurd h3 (h2 zs' h4)
  · exact ⟨rfl, rfl⟩

theorem ofPost_res {w w' : World} {xs : List Int} {e : Ending} (h : OfPost w xs e w') : ∃ a n c er zs, e = .returned (.tuple #[.slice a n c, .int .i64 er]) ∧ IsVals w' a n c zs ∧ OfRes xs er zs ∧ Below w.heap.size w w' := by
  obtain ⟨h, hb⟩ := h
  rcases h with ⟨v, vs, rfl, hown, hpl, hk⟩ | ⟨rfl, hno⟩
  · obtain ⟨a, n, c, rfl, hi⟩ := hown.at (fun x hx => (hpl x hx).1)
    exact ⟨a, n, c, 0, vs, rfl, hi, .inl ⟨rfl, hk, hpl⟩, hb⟩
  · exact ⟨none, 0, 0, 20, [], rfl, ⟨rfl, Nat.le_refl _, by unfold maxLen; omega, by simp, .inl rfl⟩, .inr ⟨rfl, rfl, hno⟩, hb⟩

set_option maxHeartbeats 20000000 in
theorem walk (a0 : Option Addr) (len0 cap0 : Nat) (x0 : List Val) (a1 : Option Addr) (len1 cap1 : Nat) (x1 : List Int) (w : World) (w0 : IsVals w a0 len0 cap0 x0) (w1 : IsBytes w a1 len1 cap1 x1) :
    Calls Try.prog 4 #[.slice a0 len0 cap0, .slice a1 len1 cap1] w fun e w' => e = .returned (.bool true) ∧ Below w.heap.size w w' := by
  have HV := hide w0
  have HW := hide w1
  obtain ⟨-, hlc, hm, -, -⟩ := w0
  obtain ⟨-, hlc', hm', -, -⟩ := w1
  unfold maxLen at hm hm'
  have HF0 := hide (few_any a0 len0 cap0 x0)
  cases hf0 : fewB x0
  · go_enter Try.func4, Try.ntmps4
    go_wp2_with (first
      | (go_at_call 9; refine (okawake_any _).mono ?_; rintro e wa ⟨rfl, hba⟩)
      | (go_at_call 10; go_must (refine (HF0.out _ (HV.out.keep hba)).mono ?_); rintro e wb ⟨rfl, hbb⟩))
    go_ret
    exact ⟨rfl, hba.trans (hbb.mono hba.size)⟩
  · by_cases h300 : (300 : Int) < (len1 : Int)
    · go_enter Try.func4, Try.ntmps4
      go_wp2_with (first
        | (go_at_call 9; refine (okawake_any _).mono ?_; rintro e wa ⟨rfl, hba⟩)
        | (go_at_call 10; go_must (refine (HF0.out _ (HV.out.keep hba)).mono ?_); rintro e wb ⟨rfl, hbb⟩))
      go_ret
      exact ⟨rfl, hba.trans (hbb.mono hba.size)⟩
    · have HK := hide (few_key hf0)
      have h300' : len1 ≤ 300 := by omega
      go_enter Try.func4, Try.ntmps4
      go_wp2_with (first
        | (go_at_call 9; refine (okawake_any _).mono ?_; rintro e wa ⟨rfl, hba⟩)
        | (go_at_call 10; refine (HF0.out _ (HV.out.keep hba)).mono ?_; rintro e wb ⟨rfl, hbb⟩; have hb2 := hba.trans (hbb.mono hba.size); clear hbb)
        | (go_at_call 15; refine (okof_any a1 len1 cap1 x1 _ (HW.out.keep hb2) ?_).mono ?_; omega; rintro e wc hpost; obtain ⟨ax, nx, cx, er, zs, he, hIx, hrx, hbc⟩ := ofPost_res hpost; subst he; have HIx := hide hIx; have HRx := hide hrx; have hb3 := hb2.trans (hbc.mono hb2.size); clear hpost hIx hrx hbc)
        | (go_at_call 16; refine (runkey_any a1 len1 cap1 x1 _ (HW.out.keep hb3) ?_).mono ?_; omega; rintro e wd hpost; obtain ⟨ay, ny, cy, er2, zs2, he, hIy, hry, hbd⟩ := ofPost_res hpost; subst he; obtain ⟨e3, e4⟩ := OfRes.one HRx.out hry; subst e3 e4; have HIy := hide hIy; have HIz := hide (HIx.out.keep hbd); have hb4 := hb3.trans (hbd.mono hb3.size); clear hpost hIy hry hbd))
      go_region_held (fun _ => True) (trivial) (first
        | (go_at_call 17; refine (okput_any a0 len0 cap0 x0 _ (HV.out.keep hb4.drew) ?_).mono ?_; (have := HK.out; omega); rintro e w6 ⟨v6, rfl, hown6, hb6⟩; have HO6 := hide hown6; have q6 := hown6.holds.conv; have hb6' := below_undrew hb6; have hb64 := hb4.trans (hb6'.mono hb4.size); clear hown6 hb6)
        | (go_at_call 18; refine (rkey_any a0 len0 cap0 x0 _ (HV.out.keep hb64) ?_).mono ?_; (have := HK.out; omega); rintro e w7 ⟨v7, rfl, hown7, hb7⟩; have q7 := hown7.holds.conv; have q8 := (HO6.out.keep hb7).holds.conv; have hb7' := hb6'.trans (hb7.mono hb6'.size); have hb74 := hb4.trans (hb7'.mono hb4.size); clear hown7 hb7)
        | (go_at_call 19; refine (same_any ax nx cx ay ny cy _ _ (HIz.out.keep hb7') (HIy.out.keep hb7')).mono ?_; rintro e w8 ⟨rfl, hb8⟩; have hb84 := hb74.trans (hb8.mono hb74.size)))
      all_goals
        go_wp2
        go_ret
        exact ⟨rfl, hb84⟩

set_option maxRecDepth 100000 in
theorem lifted (os : Os) (started : os.Started) (H : Type) (enc : TypeId × Value → H) :
    ReturnsInHanded {} Try.checked os 4 .any (Rows.okeyPutsSpec.pre6 enc Try.prog Try.f4 Rows.okeyPutsRow.domain false) (Rows.okeyPutsSpec.post enc Try.prog Try.f4 false true false false) := by
  refine returnsInHanded_of_change (C := Try.checked) own started (by kernel_rfl) Try.func4
    (ChangeSpec.witness6 (enc := enc) (C := Try.checked) false ⟨#[], #[.slice none 0 0, .slice none 0 0], []⟩ 8 (by kernel_rfl) (by kernel_rfl) (by kernel_rfl) (by kernel_rfl)) ?_
  intro W base args ds gs before hval0 hW hcnd _
  have hval : ∀ (j : Nat) t v, Try.f4.params[j]? = some t → args[j]? = some v → Value.okWide Try.prog W .any base t v := hval0
  have hW' := hW
  obtain ⟨p, q, hA0, hV, rfl, hfz, hnd⟩ := hW
  have hA : DataW.TrodAll enc Try.prog W 0 (fun _ => true) true Try.f4.params.toList args.toList ds p := hA0
  rw [Try.params4] at hA hval
  obtain ⟨v0, vs0, d0, ds0, p0, q0, hargs, rfl, rfl, h0, r0⟩ := trodAll_cons hA
  obtain ⟨v1, vs1, d1, ds1, p1, q1, rfl, rfl, rfl, h1, r1⟩ := trodAll_cons r0
  obtain ⟨rfl, rfl, rfl⟩ := trodAll_nil r1
  obtain rfl : args = #[v0, v1] := by cases args; simp_all
  obtain ⟨rfl, rfl⟩ := trodVars_none hV
  obtain ⟨a0, len0, cap0, rfl⟩ := okWide_slice Try.underlying22 (hval 0 22 v0 rfl rfl)
  have k0 := h0
  have lt0 : ∀ x ∈ p0, x.block < W.heap.size := by obtain ⟨m, hm⟩ := k0; exact DataW.trod_lt m _ _ _ hm
  obtain ⟨x0, w0⟩ : ∃ xs, IsVals W a0 len0 cap0 xs := by
    obtain ⟨fuel, hf⟩ := h0
    exact open_vals (by simpa [Value.cells] using hf)
  obtain ⟨a1, len1, cap1, rfl⟩ := okWide_slice Try.underlying31 (hval 1 31 v1 rfl rfl)
  have k1 := h1
  have lt1 : ∀ x ∈ p1, x.block < W.heap.size := by obtain ⟨m, hm⟩ := k1; exact DataW.trod_lt m _ _ _ hm
  obtain ⟨x1, w1⟩ : ∃ xs, IsBytes W a1 len1 cap1 xs := by
    obtain ⟨fuel, hf⟩ := h1
    exact open_bytes (by simpa [Value.cells] using hf)
  clear hA0 hval0
  refine (walk a0 len0 cap0 x0 a1 len1 cap1 x1 W w0 w1).mono fun e W' ⟨he, bel⟩ => ?_
  subst he
  exact ⟨_, rfl, _, _, _, [], _, [], hW', trodAll_mk1 (shut_bool Try.underlying4 _), (trodAll_cons_mk (Below.trod laidOut (by kernel_rfl) (of_decide_eq_true (by kernel_rfl)) k0 bel lt0) (trodAll_cons_mk (Below.trod laidOut (by kernel_rfl) (of_decide_eq_true (by kernel_rfl)) k1 bel lt1) trodAll_mk0)), rfl, bel.frame _, fun h => by cases h⟩

theorem over : Rows.okeyPutsRow.holds Try.pinned (OpenSpec.ofChange Rows.okeyPutsSpec) :=
  OpenClaim.holds_of_wide 4 Try.f4 rfl rfl rfl rfl rfl rfl rfl ⟨rfl, rfl, rfl, rfl, rfl⟩ rfl rfl rfl rfl rfl (by kernel_rfl) Try.func4 (by kernel_rfl)
    (of_decide_eq_true (by kernel_rfl)) (by unfold Func.isWrapper; first | (rw [if_pos (by decide +kernel)]; kernel_rfl) | (rw [if_neg (by decide +kernel)]; exact ⟨rfl, rfl⟩))
    (fun os started H enc _ => lifted os started H enc)

theorem proved : Rows.OkeyPutsSaid := over
end Go.Proofs.Ytfihjhcjkgpgfaa.okeyPuts
namespace Go.Proofs.Ytfihjhcjkgpgfaa
theorem okeyPuts_holds : Rows.OkeyPutsSaid := okeyPuts.proved
#print axioms okeyPuts_holds
end Go.Proofs.Ytfihjhcjkgpgfaa
