/- For any bytes b and c and any int n plenumlaw05.FramePuts returns true (of more than 500 bytes in one of them the law itself asks nothing): frame.Put of b, frame.Size of n and frame.Of of c answer as the document's reference does, the error too; what was handed in is left as it was. No condition. -/
import Derived.Test.YtcmimhhealokhaaRows
import Derived.WalkKit
import Derived.ProofKit
import Derived.OpenShut
import Derived.ShutString
import Derived.ChangeOld
import Derived.Below
import Derived.Test.YtcmimhhealokhaaFrAll
namespace Go.Proofs.Ytcmimhhealokhaa.framePuts
open Go.ChangeShapes Go.WideShapes Go.ChangeAt Go.RowKit
open Go.ChangeMaps (open_string shut_string)
set_option linter.unusedVariables false

theorem own : ownKnob Try.prog.godebug = none := by kernel_rfl
theorem laidOut : laidOutB Try.prog = true := by kernel_rfl

open NumMath

/-- what frame.Of and the reference's Unframe answer alike -/
theorem of_both {w w' : World} {xs : List Int} {e : Ending} (hA : AreB xs) (h : OfPost w xs e w') : ∃ t b n c s er, e = .returned (.tuple #[.slice b n c, .int .i64 s, .int .i64 er]) ∧ IsBytes w' b n c t ∧ Below w.heap.size w w' ∧ ((unfr xs = none ∧ t = [] ∧ s = 0 ∧ er = 50) ∨ (unfr xs = some t ∧ s = 8 + (t.length : Int) ∧ er = 0)) := by
  rcases h with ⟨hu, rfl, rfl⟩ | ⟨t, v, hu, rfl, hown, hb⟩
  · exact ⟨[], none, 0, 0, 0, 50, rfl, isB_none _ _ _ (by unfold maxLen; omega), Below.refl _ _, .inl ⟨hu, rfl, rfl, rfl⟩⟩
  · obtain ⟨a, n, c, rfl, hI⟩ := hown.at (unfr_some hA hu).2.2.1
    exact ⟨t, a, n, c, _, 0, rfl, hI, hb, .inr ⟨hu, rfl, rfl⟩⟩

theorem un_both {w w' : World} {a : Option Addr} {len cap : Nat} {xs : List Int} {e : Ending} (hI : IsBytes w a len cap xs) (h : UnPost w a len cap xs e w') : ∃ t b n c s er, e = .returned (.tuple #[.slice b n c, .int .i64 s, .int .i64 er]) ∧ IsBytes w' b n c t ∧ Below w.heap.size w w' ∧ ((unfr xs = none ∧ t = [] ∧ s = 0 ∧ er = 50) ∨ (unfr xs = some t ∧ s = 8 + (t.length : Int) ∧ er = 0)) := by
  obtain ⟨hb, ⟨hu, rfl⟩ | ⟨t, b, n, c, hu, hn, rfl, hIt⟩⟩ := h
  · exact ⟨[], none, 0, 0, 0, 50, rfl, isB_none _ _ _ (by unfold maxLen; omega), hb, .inl ⟨hu, rfl, rfl, rfl⟩⟩
  · exact ⟨t, b, n, c, _, 0, rfl, (hIt _ hI).keep hb, hb, .inr ⟨hu, by rw [hn], rfl⟩⟩

theorem both_one {xs t t' : List Int} {s s' er er' : Int} (h : (unfr xs = none ∧ t = [] ∧ s = 0 ∧ er = 50) ∨ (unfr xs = some t ∧ s = 8 + (t.length : Int) ∧ er = 0)) (h' : (unfr xs = none ∧ t' = [] ∧ s' = 0 ∧ er' = 50) ∨ (unfr xs = some t' ∧ s' = 8 + (t'.length : Int) ∧ er' = 0)) : t' = t ∧ s' = s ∧ er' = er := by
  rcases h with ⟨h1, rfl, rfl, rfl⟩ | ⟨h1, rfl, rfl⟩ <;> rcases h' with ⟨h2, rfl, rfl, rfl⟩ | ⟨h2, rfl, rfl⟩
  · exact ⟨rfl, rfl, rfl⟩
  · rw [h1] at h2; cases h2
  · rw [h1] at h2; cases h2
  · rw [h1] at h2
    cases h2
    exact ⟨rfl, rfl, rfl⟩

set_option maxHeartbeats 20000000 in
theorem walk (a0 : Option Addr) (len0 cap0 : Nat) (x0 : List Int) (a1 : Option Addr) (len1 cap1 : Nat) (x1 : List Int) (a2 : Int) (w : World) (w0 : IsBytes w a0 len0 cap0 x0) (w1 : IsBytes w a1 len1 cap1 x1) (w2 : (Lit.int .i64 a2).wf = true) :
    Calls Try.prog 3 #[.slice a0 len0 cap0, .slice a1 len1 cap1, .int .i64 a2] w fun e w' => e = .returned (.bool true) ∧ Below w.heap.size w w' := by
  have H0 := hide w0
  have H1 := hide w1
  obtain ⟨n1, n2⟩ := wf_i64 w2
  have HA1 : Hid (AreB x1) := w1.2.2.2.1
  have hm0 : (len0 : Int) ≤ 9223372036854775807 := by have := w0.2.1; have := w0.2.2.1; unfold maxLen at this; omega
  have hm1 : (len1 : Int) ≤ 9223372036854775807 := by have := w1.2.1; have := w1.2.2.1; unfold maxLen at this; omega
  clear w0 w1 w2
  by_cases g0 : (500 : Int) < (len0 : Int)
  · go_enter Try.func3, Try.ntmps3
    go_wp2_with (go_at_call 8; refine (frawake_any _).mono ?_; rintro e wa ⟨rfl, hba⟩)
    go_ret
    exact ⟨rfl, hba⟩
  · by_cases g1 : (500 : Int) < (len1 : Int)
    · go_enter Try.func3, Try.ntmps3
      go_wp2_with (go_at_call 8; refine (frawake_any _).mono ?_; rintro e wa ⟨rfl, hba⟩)
      go_ret
      exact ⟨rfl, hba⟩
    · have cs : (a2 < 0 ∧ sizeI a2 = 0) ∨ (65536 < a2 ∧ sizeI a2 = 0) ∨ ((0 ≤ a2 ∧ a2 ≤ 65536) ∧ sizeI a2 = 8 + a2) := by
        unfold sizeI
        by_cases c1 : a2 < 0
        · exact .inl ⟨c1, if_pos (.inl c1)⟩
        · by_cases c2 : 65536 < a2
          · exact .inr (.inl ⟨c2, if_pos (.inr c2)⟩)
          · exact .inr (.inr ⟨⟨by omega, by omega⟩, if_neg (by omega)⟩)
      rcases cs with ⟨s1, s2⟩ | ⟨s1, s2⟩ | ⟨⟨s1, s3⟩, s2⟩
      all_goals
        have HZ := hide s2
        clear s2
        go_enter Try.func3, Try.ntmps3
        go_wp2_with (first
          | (go_at_call 8; refine (frawake_any _).mono ?_; rintro e wa ⟨rfl, hba⟩)
          | (go_at_call 9; refine (frof_any a1 len1 cap1 x1 _ (H1.out.keep hba)).mono ?_; rintro e wc hpost; obtain ⟨t, b3, m3, c3, s, er, he, hI3, hbc, hres⟩ := of_both HA1.out hpost; subst he; have HI3 := hide hI3; have HR := hide hres; have hb3 := hba.trans (hbc.mono hba.size); clear hpost hI3 hres hbc)
          | (go_at_call 10; refine (runframe_any a1 len1 cap1 x1 _ (H1.out.keep hb3)).mono ?_; rintro e wd hpost; obtain ⟨t4, b4, m4, c4, s4, er4, he, hI4, hbd, hres⟩ := un_both (H1.out.keep hb3) hpost; subst he; obtain ⟨e1, e2, e3⟩ := both_one HR.out hres; subst e1 e2 e3; have HI4 := hide hI4; have HI3d := hide (HI3.out.keep hbd); have hb4 := hb3.trans (hbd.mono hb3.size); clear hpost hI4 hres hbd))
        go_region_held (fun _ => True) (trivial) (first
          | (go_at_call 11; refine (frput_any a0 len0 cap0 x0 _ (H0.out.keep hb4.drew)).mono ?_; rintro e w6 ⟨v6, rfl, hown6, hb6⟩; have HO6 := hide hown6; have q6 := hown6.holds.conv; have hb6' := below_undrew hb6; have hb64 := hb4.trans (hb6'.mono hb4.size); clear hown6 hb6)
          | (go_at_call 12; refine (rframe_any a0 len0 cap0 x0 _ (H0.out.keep hb64)).mono ?_; rintro e w7 ⟨v7, rfl, hown7, hb7⟩; have q7 := hown7.holds.conv; have q8 := (HO6.out.keep hb7).holds.conv; have hb7' := hb6'.trans (hb7.mono hb6'.size); have hb74 := hb4.trans (hb7'.mono hb4.size); have q9 := (HI3d.out.keep hb7').conv; have q10 := (HI4.out.keep hb7').conv; clear hown7 hb7)
          | (go_at_call 13; refine (size_any a2 _ (by omega) (by omega)).mono ?_; rw [HZ.out]; rintro e w' ⟨rfl, hw⟩; have hw := hw.symm; subst hw))
        all_goals
          go_wp2
          go_ret
          exact ⟨rfl, hb74⟩

set_option maxRecDepth 100000 in
theorem lifted (os : Os) (started : os.Started) (H : Type) (enc : TypeId × Value → H) :
    ReturnsInHanded {} Try.checked os 3 .any (Rows.framePutsSpec.pre6 enc Try.prog Try.f3 Rows.framePutsRow.domain false) (Rows.framePutsSpec.post enc Try.prog Try.f3 false true false false) := by
  refine returnsInHanded_of_change (C := Try.checked) own started (by kernel_rfl) Try.func3
    (ChangeSpec.witness6 (enc := enc) (C := Try.checked) false ⟨#[], #[.slice none 0 0, .slice none 0 0, .int .i64 0], []⟩ 8 (by kernel_rfl) (by kernel_rfl) (by kernel_rfl) (by kernel_rfl)) ?_
  intro W base args ds gs before hval0 hW hcnd _
  have hval : ∀ (j : Nat) t v, Try.f3.params[j]? = some t → args[j]? = some v → Value.okWide Try.prog W .any base t v := hval0
  have hW' := hW
  obtain ⟨p, q, hA0, hV, rfl, hfz, hnd⟩ := hW
  have hA : DataW.TrodAll enc Try.prog W 0 (fun _ => true) true Try.f3.params.toList args.toList ds p := hA0
  rw [Try.params3] at hA hval
  obtain ⟨v0, vs0, d0, ds0, p0, q0, hargs, rfl, rfl, h0, r0⟩ := trodAll_cons hA
  obtain ⟨v1, vs1, d1, ds1, p1, q1, rfl, rfl, rfl, h1, r1⟩ := trodAll_cons r0
  obtain ⟨v2, vs2, d2, ds2, p2, q2, rfl, rfl, rfl, h2, r2⟩ := trodAll_cons r1
  obtain ⟨rfl, rfl, rfl⟩ := trodAll_nil r2
  obtain rfl : args = #[v0, v1, v2] := by cases args; simp_all
  obtain ⟨rfl, rfl⟩ := trodVars_none hV
  obtain ⟨a0, len0, cap0, rfl⟩ := okWide_slice Try.underlying22 (hval 0 22 v0 rfl rfl)
  have k0 := h0
  have lt0 : ∀ x ∈ p0, x.block < W.heap.size := by obtain ⟨m, hm⟩ := k0; exact DataW.trod_lt m _ _ _ hm
  obtain ⟨x0, w0⟩ : ∃ xs, IsBytes W a0 len0 cap0 xs := by
    obtain ⟨fuel, hf⟩ := h0
    exact open_bytes (by simpa [Value.cells] using hf)
  obtain ⟨a1, len1, cap1, rfl⟩ := okWide_slice Try.underlying22 (hval 1 22 v1 rfl rfl)
  have k1 := h1
  have lt1 : ∀ x ∈ p1, x.block < W.heap.size := by obtain ⟨m, hm⟩ := k1; exact DataW.trod_lt m _ _ _ hm
  obtain ⟨x1, w1⟩ : ∃ xs, IsBytes W a1 len1 cap1 xs := by
    obtain ⟨fuel, hf⟩ := h1
    exact open_bytes (by simpa [Value.cells] using hf)
  have k2 := h2
  have lt2 : ∀ x ∈ p2, x.block < W.heap.size := by obtain ⟨m, hm⟩ := k2; exact DataW.trod_lt m _ _ _ hm
  obtain ⟨a2, rfl, w2⟩ : ∃ n, v2 = .int .i64 n ∧ (Lit.int .i64 n).wf = true := by
    obtain ⟨n, hn, _, _, hw⟩ := open_int Try.underlying3 (hval 2 3 v2 rfl rfl) h2
    exact ⟨n, hn, hw⟩
  clear hA0 hval0
  refine (walk a0 len0 cap0 x0 a1 len1 cap1 x1 a2 W w0 w1 w2).mono fun e W' ⟨he, bel⟩ => ?_
  subst he
  exact ⟨_, rfl, _, _, _, [], _, [], hW', trodAll_mk1 (shut_bool Try.underlying4 _), (trodAll_cons_mk (Below.trod laidOut (by kernel_rfl) (of_decide_eq_true (by kernel_rfl)) k0 bel lt0) (trodAll_cons_mk (Below.trod laidOut (by kernel_rfl) (of_decide_eq_true (by kernel_rfl)) k1 bel lt1) (trodAll_cons_mk (Below.trod laidOut (by kernel_rfl) (of_decide_eq_true (by kernel_rfl)) k2 bel lt2) trodAll_mk0))), rfl, bel.frame _, fun h => by cases h⟩

theorem over : Rows.framePutsRow.holds Try.pinned (OpenSpec.ofChange Rows.framePutsSpec) :=
  OpenClaim.holds_of_wide 3 Try.f3 rfl rfl rfl rfl rfl rfl rfl ⟨rfl, rfl, rfl, rfl, rfl⟩ rfl rfl rfl rfl rfl (by kernel_rfl) Try.func3 (by kernel_rfl)
    (of_decide_eq_true (by kernel_rfl)) (by unfold Func.isWrapper; first | (rw [if_pos (by decide +kernel)]; kernel_rfl) | (rw [if_neg (by decide +kernel)]; exact ⟨rfl, rfl⟩))
    (fun os started H enc _ => lifted os started H enc)

theorem proved : Rows.FramePutsSaid := over
end Go.Proofs.Ytcmimhhealokhaa.framePuts
namespace Go.Proofs.Ytcmimhhealokhaa
theorem framePuts_holds : Rows.FramePutsSaid := framePuts.proved
#print axioms framePuts_holds
end Go.Proofs.Ytcmimhhealokhaa
