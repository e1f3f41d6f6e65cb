/- For any int size and any texts l, m and k plenumlaw07.WalAdds returns true (of a size above 10,000, of more than 12 texts, or of one of more than 100 bytes, the law itself asks nothing): Add of l, Rewrite with m and Add of k answer what the document's reference answers, and the disk's bytes and how many are synced are the reference's then; what was handed in is left as it was. No condition. -/
import Derived.Test.YtajpamkdcpbabaaRows
import Derived.WalkKit
import Derived.ProofKit
import Derived.OpenShut
import Derived.ShutString
import Derived.ChangeOld
import Derived.Below
import Derived.Test.YtajpamkdcpbabaaWl5
import Derived.Deep.RegionHeld
namespace Go.Proofs.Ytajpamkdcpbabaa.walAdds
open Go.ChangeShapes Go.WideShapes Go.ChangeAt Go.RowKit
open Go.ChangeMaps (open_string shut_string)
set_option linter.unusedVariables false

theorem own : ownKnob Try.prog.godebug = none := by kernel_rfl
theorem laidOut : laidOutB Try.prog = true := by kernel_rfl

open NumMath

set_option maxRecDepth 20000 in
set_option maxHeartbeats 8000000 in
theorem walk (a0 : Int) (a1 : Option Addr) (len1 cap1 : Nat) (x1 : List (List Int)) (a2 : Option Addr) (len2 cap2 : Nat) (x2 : List (List Int)) (a3 : Option Addr) (len3 cap3 : Nat) (x3 : List (List Int)) (w : World) (w0 : (Lit.int .i64 a0).wf = true) (w1 : IsTexts w a1 len1 cap1 x1) (w2 : IsTexts w a2 len2 cap2 x2) (w3 : IsTexts w a3 len3 cap3 x3) :
    Calls Try.prog 4 #[.int .i64 a0, .slice a1 len1 cap1, .slice a2 len2 cap2, .slice a3 len3 cap3] w fun e w' => e = .returned (.bool true) ∧ Below w.heap.size w w' := by
  have H1 := hide w1
  have H2 := hide w2
  have H3 := hide w3
  obtain ⟨n1, n2⟩ := wf_i64 w0
  clear w0 w1 w2 w3
  by_cases g0 : (10000 : Int) < a0
  · go_enter Try.func4, Try.ntmps4
    go_wp2_with (first
      | (go_at_call 8; refine (wlawake_any _).mono ?_; rintro e wa ⟨rfl, hba⟩))
    go_ret
    exact ⟨rfl, hba⟩
  cases hf1 : fewT x1
  · have HF1 := hide hf1
    clear hf1
    go_enter Try.func4, Try.ntmps4
    go_wp2_with (first
      | (go_at_call 20; refine (few07_any a1 len1 cap1 x1 _ (H1.out.keep hba)).mono ?_; rw [HF1.out]; rintro e w' ⟨rfl, hw⟩; have hw := hw.symm; subst hw)
      | (go_at_call 8; refine (wlawake_any _).mono ?_; rintro e wa ⟨rfl, hba⟩))
    go_ret
    exact ⟨rfl, hba⟩
  cases hf2 : fewT x2
  · have HF1 := hide hf1
    have HF2 := hide hf2
    clear hf1 hf2
    go_enter Try.func4, Try.ntmps4
    go_wp2_with (first
      | (go_at_call 20; have hq := hg1; refine (few07_any a2 len2 cap2 x2 _ (H2.out.keep hba)).mono ?_; rw [HF2.out]; rintro e w' ⟨rfl, hw⟩; have hw := hw.symm; subst hw)
      | (go_at_call 20; refine (few07_any a1 len1 cap1 x1 _ (H1.out.keep hba)).mono ?_; rw [HF1.out]; rintro e w' ⟨rfl, hw⟩; have hw := hw.symm; subst hw; have hg1 := True.intro)
      | (go_at_call 8; refine (wlawake_any _).mono ?_; rintro e wa ⟨rfl, hba⟩))
    go_ret
    exact ⟨rfl, hba⟩
  cases hf3 : fewT x3
  · have HF1 := hide hf1
    have HF2 := hide hf2
    have HF3 := hide hf3
    clear hf1 hf2 hf3
    go_enter Try.func4, Try.ntmps4
    go_wp2_with (first
      | (go_at_call 20; have hq := hg2; refine (few07_any a3 len3 cap3 x3 _ (H3.out.keep hba)).mono ?_; rw [HF3.out]; rintro e w' ⟨rfl, hw⟩; have hw := hw.symm; subst hw)
      | (go_at_call 20; have hq := hg1; refine (few07_any a2 len2 cap2 x2 _ (H2.out.keep hba)).mono ?_; rw [HF2.out]; rintro e w' ⟨rfl, hw⟩; have hw := hw.symm; subst hw; have hg2 := True.intro)
      | (go_at_call 20; refine (few07_any a1 len1 cap1 x1 _ (H1.out.keep hba)).mono ?_; rw [HF1.out]; rintro e w' ⟨rfl, hw⟩; have hw := hw.symm; subst hw; have hg1 := True.intro)
      | (go_at_call 8; refine (wlawake_any _).mono ?_; rintro e wa ⟨rfl, hba⟩))
    go_ret
    exact ⟨rfl, hba⟩
  have HF1 := hide hf1
  have HF2 := hide hf2
  have HF3 := hide hf3
  have HT1 := hide (fewT_flat hf1 H1.out.are)
  have HT2 := hide (fewT_flat hf2 H2.out.are)
  have HT3 := hide (fewT_flat hf3 H3.out.are)
  have HSz : Hid (a0.toNat ≤ 10000) := by show _ ≤ _; omega
  have hs9 : Hid (a0.toNat ≤ 1000000000) := by show _ ≤ _; omega
  have HNew := hide (dnew_any a0)
  have HXew := hide (xnew_any a0)
  clear n1 n2 hf1 hf2 hf3
  generalize a0.toNat = size at *
  have HC1 := hide (fun w b p q h hw ht hb => wadd_any b p size [] 0 q a1 len1 cap1 x1 w h hw ht HT1.out.1 (by have := HT1.out.2.1; omega) hs9.out (Nat.zero_le _) hb)
  have HX1 := hide (fun w b q h ht hb => xadd_any b q size [] 0 a1 len1 cap1 x1 w h ht HT1.out.1 (by have := HT1.out.2.1; omega) hs9.out (Nat.zero_le _) hb)
  have HN1 := hide (dadd_num size [] (flat x1) 0 (Nat.zero_le _) (Nat.zero_le _))
  generalize dadd size [] 0 (flat x1) = r1 at *
  obtain ⟨e1, bs1, s1⟩ := r1
  dsimp only at HC1 HX1 HN1
  have HC2 := hide (fun w b p q h hw ht hb => wrewrite_any b p size bs1 s1 q a2 len2 cap2 x2 w h hw ht HT2.out.1 (by have := HT2.out.2.1; omega) hb)
  have HX2 := hide (fun w b q h ht hb => xrewrite_any b q size bs1 s1 a2 len2 cap2 x2 w h ht HT2.out.1 (by have := HT2.out.2.1; omega) hb)
  have HN2 := hide (dswap_num size bs1 s1 (flat x2) HN1.out.1 HN1.out.2)
  generalize dswap size bs1 s1 (flat x2) = r2 at *
  obtain ⟨e2, bs2, s2⟩ := r2
  dsimp only at HC2 HX2 HN2
  have HC3 := hide (fun w b p q h hw ht hb => wadd_any b p size bs2 s2 q a3 len3 cap3 x3 w h hw ht HT3.out.1 (by have := HT3.out.2.1; omega) hs9.out HN2.out.2 hb)
  have HX3 := hide (fun w b q h ht hb => xadd_any b q size bs2 s2 a3 len3 cap3 x3 w h ht HT3.out.1 (by have := HT3.out.2.1; omega) hs9.out HN2.out.2 hb)
  have HN3 := hide (dadd_num size bs2 (flat x3) s2 HN2.out.1 HN2.out.2)
  generalize dadd size bs2 s2 (flat x3) = r3 at *
  obtain ⟨e3, bs3, s3⟩ := r3
  dsimp only at HC3 HX3 HN3
  go_enter Try.func4, Try.ntmps4
  go_wp2_with (first
    | (go_at_call 22; have hq := HP8; go_must (refine (HX3.out _ _ _ (HT7.out.b.mid HP8.out) (H3.out.keep hb8) (Nat.le_trans HT7.out.b.base HP8.out.size)).mono ?_); rintro e w9 ⟨rfl, hd9, hp9⟩; have HT9 := hide (HT7.out.next HP8.out HD8.out hp9 hd9 HN3.out); have hb9 := hb7.trans ((HT7.out.b.below HP8.out hp9).mono hba.size); clear hd9 hp9)
    | (go_at_call 21; have hq := HT7; go_must (refine (HC3.out _ _ _ q HT7.out.b.d HT7.out.wl (H3.out.keep hb7) HT7.out.b.base).mono ?_); rintro e w8 ⟨rfl, hd8, hp8⟩; have HD8 := hide hd8; have HP8 := hide hp8; have hb8 := hb7.trans ((HT7.out.b.d.below hp8 HT7.out.b.base).mono hba.size); clear hd8 hp8)
    | (go_at_call 24; have hq := HP6; go_must (refine (HX2.out _ _ _ (HT5.out.b.mid HP6.out) (H2.out.keep hb6) (Nat.le_trans HT5.out.b.base HP6.out.size)).mono ?_); rintro e w7 ⟨rfl, hd7, hp7⟩; have HT7 := hide (HT5.out.next HP6.out HD6.out hp7 hd7 HN2.out); have hb7 := hb5.trans ((HT5.out.b.below HP6.out hp7).mono hba.size); clear hd7 hp7)
    | (go_at_call 23; have hq := HT5; go_must (refine (HC2.out _ _ _ q HT5.out.b.d HT5.out.wl (H2.out.keep hb5) HT5.out.b.base).mono ?_); rintro e w6 ⟨rfl, hd6, hp6⟩; have HD6 := hide hd6; have HP6 := hide hp6; have hb6 := hb5.trans ((HT5.out.b.d.below hp6 HT5.out.b.base).mono hba.size); clear hd6 hp6)
    | (go_at_call 22; have hq := HP4; go_must (refine (HX1.out _ _ _ (HT3.out.b.mid HP4.out) (H1.out.keep hb4) (Nat.le_trans HT3.out.b.base HP4.out.size)).mono ?_); rintro e w5 ⟨rfl, hd5, hp5⟩; have HT5 := hide (HT3.out.next HP4.out HD4.out hp5 hd5 HN1.out); have hb5 := hb3.trans ((HT3.out.b.below HP4.out hp5).mono hba.size); clear hd5 hp5)
    | (go_at_call 21; have hq := HT3; go_must (refine (HC1.out _ _ _ q HT3.out.b.d HT3.out.wl (H1.out.keep hb3) HT3.out.b.base).mono ?_); rintro e w4 ⟨rfl, hd4, hp4⟩; have HD4 := hide hd4; have HP4 := hide hp4; have hb4 := hb3.trans ((HT3.out.b.d.below hp4 HT3.out.b.base).mono hba.size); clear hd4 hp4)
    | (go_at_call 13; go_must (refine (wopen_any wa.heap.size wa.heap.size size [] 0 _ HTw2.out.d (by intro c hc; cases hc) (by decide)).mono ?_); rintro e w3 ⟨q, v, L, rfl, hL, hO, hd3, hp3, hw3, hq3, -⟩; have hL := all_nil hL; subst hL; obtain ⟨a3', n3', c3', rfl⟩ := hO.ownT.form; have HT3 := hide (wboth_open HTw2.out hp3 hd3 hw3 hq3); have hb3 := hb2.trans ((HTw2.out.d.below hp3 HTw2.out.base).mono hba.size); clear hO hd3 hw3 hp3)
    | (go_at_call 10; refine (HXew.out _).mono ?_; rintro e w2 ⟨rfl, hx2, hb2⟩; have HTw2 := hide (both_new HD1.out hb1' hx2 hb2 HSz.out); have hb2 := hb1.trans (hb2.mono hb1.size); clear hx2)
    | (go_at_call 9; refine (HNew.out _).mono ?_; rintro e w1 ⟨rfl, hd1, hb1'⟩; have HD1 := hide hd1; have hb1 := hba.trans (hb1'.mono hba.size); clear hd1)
    | (go_at_call 20; have hq := hg2; refine (few07_any a3 len3 cap3 x3 _ (H3.out.keep hba)).mono ?_; rw [HF3.out]; rintro e w' ⟨rfl, hw⟩; have hw := hw.symm; subst hw)
    | (go_at_call 20; have hq := hg1; refine (few07_any a2 len2 cap2 x2 _ (H2.out.keep hba)).mono ?_; rw [HF2.out]; rintro e w' ⟨rfl, hw⟩; have hw := hw.symm; subst hw; have hg2 := True.intro)
    | (go_at_call 20; refine (few07_any a1 len1 cap1 x1 _ (H1.out.keep hba)).mono ?_; rw [HF1.out]; rintro e w' ⟨rfl, hw⟩; have hw := hw.symm; subst hw; have hg1 := True.intro)
    | (go_at_call 8; refine (wlawake_any _).mono ?_; rintro e wa ⟨rfl, hba⟩))
  obtain ⟨sa, sn, sc, hx0, hx1, hxB⟩ := HT9.out.b.xs
  have q0 := (show IsBytes w9.drew sa sn sc bs3 from hxB).conv
  have HXB := hide hxB
  have HF9 := hide HT9.out.b.few
  clear hxB
  go_region_held (fun w' => w'.cell? ⟨w1.heap.size, 0, none⟩ = some (.slice sa sn sc) ∧ w'.cell? ⟨w1.heap.size, 1, none⟩ = some (.int .i64 (s3 : Int))) (first | go_keep | exact ⟨hx0', hx1'⟩) (first
    | (go_at_call 19; refine (dbytes_any wa.heap.size wa.heap.size size bs3 s3 _ HT9.out.b.d.drew HF9.out).mono ?_; rintro e w10 ⟨v10, rfl, hown10, hb10⟩; have hbu := below_undrew hb10; have q6 := hown10.holds.conv; have q7 := (HXB.out.keep hbu).conv; have hx0' := (hbu.cell (p := ⟨w1.heap.size, 0, none⟩) HT9.out.b.x.at).trans hx0; have hx1' := (hbu.cell (p := ⟨w1.heap.size, 1, none⟩) HT9.out.b.x.at).trans hx1; have HD10 := hide (HT9.out.b.d.keep hbu); have hb10' := hb9.trans (hbu.mono hb9.size); clear hown10 hb10 hbu)
    | (go_at_call 25; refine (dsynced_any wa.heap.size wa.heap.size size bs3 s3 _ HD10.out).mono ?_; rintro e w' ⟨rfl, hw⟩; have hw := hw.symm; subst hw))
  all_goals
    go_wp2
    go_ret
    exact ⟨rfl, hb10'⟩

set_option maxRecDepth 100000 in
theorem lifted (os : Os) (started : os.Started) (H : Type) (enc : TypeId × Value → H) :
    ReturnsInHanded {} Try.checked os 4 .any (Rows.walAddsSpec.pre6 enc Try.prog Try.f4 Rows.walAddsRow.domain false) (Rows.walAddsSpec.post enc Try.prog Try.f4 false true false false) := by
  refine returnsInHanded_of_change (C := Try.checked) own started (by kernel_rfl) Try.func4
    (ChangeSpec.witness6 (enc := enc) (C := Try.checked) false ⟨#[], #[.int .i64 0, .slice none 0 0, .slice none 0 0, .slice none 0 0], []⟩ 8 (by kernel_rfl) (by kernel_rfl) (by kernel_rfl) (by kernel_rfl)) ?_
  intro W base args ds gs before hval0 hW hcnd _
  have hval : ∀ (j : Nat) t v, Try.f4.params[j]? = some t → args[j]? = some v → Value.okWide Try.prog W .any base t v := hval0
  have hW' := hW
  obtain ⟨p, q, hA0, hV, rfl, hfz, hnd⟩ := hW
  have hA : DataW.TrodAll enc Try.prog W 0 (fun _ => true) true Try.f4.params.toList args.toList ds p := hA0
  rw [Try.params4] at hA hval
  obtain ⟨v0, vs0, d0, ds0, p0, q0, hargs, rfl, rfl, h0, r0⟩ := trodAll_cons hA
  obtain ⟨v1, vs1, d1, ds1, p1, q1, rfl, rfl, rfl, h1, r1⟩ := trodAll_cons r0
  obtain ⟨v2, vs2, d2, ds2, p2, q2, rfl, rfl, rfl, h2, r2⟩ := trodAll_cons r1
  obtain ⟨v3, vs3, d3, ds3, p3, q3, rfl, rfl, rfl, h3, r3⟩ := trodAll_cons r2
  obtain ⟨rfl, rfl, rfl⟩ := trodAll_nil r3
  obtain rfl : args = #[v0, v1, v2, v3] := by cases args; simp_all
  obtain ⟨rfl, rfl⟩ := trodVars_none hV
  have k0 := h0
  have lt0 : ∀ x ∈ p0, x.block < W.heap.size := by obtain ⟨m, hm⟩ := k0; exact DataW.trod_lt m _ _ _ hm
  obtain ⟨a0, rfl, w0⟩ : ∃ n, v0 = .int .i64 n ∧ (Lit.int .i64 n).wf = true := by
    obtain ⟨n, hn, _, _, hw⟩ := open_int Try.underlying3 (hval 0 3 v0 rfl rfl) h0
    exact ⟨n, hn, hw⟩
  obtain ⟨a1, len1, cap1, rfl⟩ := okWide_slice Try.underlying32 (hval 1 32 v1 rfl rfl)
  have k1 := h1
  have lt1 : ∀ x ∈ p1, x.block < W.heap.size := by obtain ⟨m, hm⟩ := k1; exact DataW.trod_lt m _ _ _ hm
  obtain ⟨x1, w1⟩ : ∃ xs, IsTexts W a1 len1 cap1 xs := by
    obtain ⟨fuel, hf⟩ := h1
    exact open_texts (by simpa [Value.cells] using hf)
  obtain ⟨a2, len2, cap2, rfl⟩ := okWide_slice Try.underlying32 (hval 2 32 v2 rfl rfl)
  have k2 := h2
  have lt2 : ∀ x ∈ p2, x.block < W.heap.size := by obtain ⟨m, hm⟩ := k2; exact DataW.trod_lt m _ _ _ hm
  obtain ⟨x2, w2⟩ : ∃ xs, IsTexts W a2 len2 cap2 xs := by
    obtain ⟨fuel, hf⟩ := h2
    exact open_texts (by simpa [Value.cells] using hf)
  obtain ⟨a3, len3, cap3, rfl⟩ := okWide_slice Try.underlying32 (hval 3 32 v3 rfl rfl)
  have k3 := h3
  have lt3 : ∀ x ∈ p3, x.block < W.heap.size := by obtain ⟨m, hm⟩ := k3; exact DataW.trod_lt m _ _ _ hm
  obtain ⟨x3, w3⟩ : ∃ xs, IsTexts W a3 len3 cap3 xs := by
    obtain ⟨fuel, hf⟩ := h3
    exact open_texts (by simpa [Value.cells] using hf)
  clear hA0 hval0
  refine (walk a0 a1 len1 cap1 x1 a2 len2 cap2 x2 a3 len3 cap3 x3 W w0 w1 w2 w3).mono fun e W' ⟨he, bel⟩ => ?_
  subst he
  exact ⟨_, rfl, _, _, _, [], _, [], hW', trodAll_mk1 (shut_bool Try.underlying4 _), (trodAll_cons_mk (Below.trod laidOut (by kernel_rfl) (of_decide_eq_true (by kernel_rfl)) k0 bel lt0) (trodAll_cons_mk (Below.trod laidOut (by kernel_rfl) (of_decide_eq_true (by kernel_rfl)) k1 bel lt1) (trodAll_cons_mk (Below.trod laidOut (by kernel_rfl) (of_decide_eq_true (by kernel_rfl)) k2 bel lt2) (trodAll_cons_mk (Below.trod laidOut (by kernel_rfl) (of_decide_eq_true (by kernel_rfl)) k3 bel lt3) trodAll_mk0)))), rfl, bel.frame _, fun h => by cases h⟩

theorem over : Rows.walAddsRow.holds Try.pinned (OpenSpec.ofChange Rows.walAddsSpec) :=
  OpenClaim.holds_of_wide 4 Try.f4 rfl rfl rfl rfl rfl rfl rfl ⟨rfl, rfl, rfl, rfl, rfl⟩ rfl rfl rfl rfl rfl (by kernel_rfl) Try.func4 (by kernel_rfl)
    (of_decide_eq_true (by kernel_rfl)) (by unfold Func.isWrapper; first | (rw [if_pos (by decide +kernel)]; kernel_rfl) | (rw [if_neg (by decide +kernel)]; exact ⟨rfl, rfl⟩))
    (fun os started H enc _ => lifted os started H enc)

theorem proved : Rows.WalAddsSaid := over
end Go.Proofs.Ytajpamkdcpbabaa.walAdds
namespace Go.Proofs.Ytajpamkdcpbabaa
theorem walAdds_holds : Rows.WalAddsSaid := walAdds.proved
#print axioms walAdds_holds
end Go.Proofs.Ytajpamkdcpbabaa
