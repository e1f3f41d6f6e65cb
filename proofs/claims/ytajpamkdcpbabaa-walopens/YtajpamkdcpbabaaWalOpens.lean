/- For any int size and any bytes b plenumlaw07.WalOpens returns true (of a size above 10,000 or of more than 1000 bytes the law itself asks nothing): of whatever is on a disk Open tells the records that the document's reference tells, and leaves what it leaves; Records of b are the reference's; what was handed in is left as it was. No condition. -/
import Derived.Test.YtajpamkdcpbabaaRows
import Derived.WalkKit
import Derived.ProofKit
import Derived.OpenShut
import Derived.ShutString
import Derived.ChangeOld
import Derived.Below
import Derived.Test.YtajpamkdcpbabaaWl6
import Derived.Deep.RegionHeld
namespace Go.Proofs.Ytajpamkdcpbabaa.walOpens
open Go.ChangeShapes Go.WideShapes Go.ChangeAt Go.RowKit
open Go.ChangeMaps (open_string shut_string)
set_option linter.unusedVariables false

theorem own : ownKnob Try.prog.godebug = none := by kernel_rfl
theorem laidOut : laidOutB Try.prog = true := by kernel_rfl

open NumMath

theorem walAt_beside {w w' : World} {q p x : Nat} (h : WalAt w q p) (hq : ¬ SB 0 w x q) (hpx : ¬ SB 0 w x p) (hl : p < w.heap.size) (hp : SPost 0 w x w') : WalAt w' q p := by
  have hlt : q < w.heap.size := World.block_lt_of_cell? _ ⟨q, 0, none⟩ h.1
  exact ⟨(hp.cell hlt hq).trans h.1, fun hy => h.2 (hy.same (hp.1.block p hl hpx))⟩

set_option maxRecDepth 20000 in
set_option maxHeartbeats 8000000 in
theorem walk (a0 : Int) (a1 : Option Addr) (len1 cap1 : Nat) (x1 : List Int) (w : World) (w0 : (Lit.int .i64 a0).wf = true) (w1 : IsBytes w a1 len1 cap1 x1) :
    Calls Try.prog 3 #[.int .i64 a0, .slice a1 len1 cap1] w fun e w' => e = .returned (.bool true) ∧ Below w.heap.size w w' := by
  have H1 := hide w1
  have HA : Hid (AreB x1) := w1.2.2.2.1
  have HL1 := hide w1.1
  have hm1 : (len1 : Int) ≤ 9223372036854775807 := by have := w1.2.1; have := w1.2.2.1; unfold maxLen at this; omega
  obtain ⟨n1, n2⟩ := wf_i64 w0
  clear w0 w1
  by_cases g0 : (10000 : Int) < a0
  · go_enter Try.func3, Try.ntmps3
    go_wp2_with (first
      | (go_at_call 8; refine (wlawake_any _).mono ?_; rintro e wa ⟨rfl, hba⟩))
    go_ret
    exact ⟨rfl, hba⟩
  by_cases g1 : (1000 : Int) < (len1 : Int)
  · go_enter Try.func3, Try.ntmps3
    go_wp2_with (first
      | (go_at_call 8; refine (wlawake_any _).mono ?_; rintro e wa ⟨rfl, hba⟩))
    go_ret
    exact ⟨rfl, hba⟩
  have HSz : Hid (a0.toNat ≤ 10000) := by show _ ≤ _; omega
  have HS9 : Hid (a0.toNat ≤ 1000000000) := by show _ ≤ _; omega
  have HNew := hide (dnew_any a0)
  have HXew := hide (xnew_any a0)
  clear n1 n2
  generalize a0.toNat = size at *
  have hl9 : len1 ≤ 1000000000 := by omega
  have HC1 := hide (fun w b p h ht hb => dapp_any b p size [] 0 a1 len1 cap1 x1 w h ht HS9.out (Nat.zero_le _) hl9 hb)
  have HX1 := hide (fun w b q h ht hb => xapp_any b q size [] 0 a1 len1 cap1 x1 w h ht HA.out HS9.out (Nat.zero_le _) hl9 hb)
  have HN1 := hide (dapp_num size [] x1 0 (Nat.zero_le _) (Nat.zero_le _))
  have HAB : Hid (AreB (dapp size [] x1).2) := by
    show AreB _
    unfold dapp
    split
    · intro c hc; cases hc
    · rw [List.nil_append]; exact HA.out
  generalize dapp size [] x1 = r1 at *
  obtain ⟨e1, bs⟩ := r1
  dsimp only at HC1 HX1 HN1 HAB
  go_enter Try.func3, Try.ntmps3
  go_wp2_with (first
    | (go_at_call 16; go_must (refine (framesF_any a1 len1 cap1 x1 _ (H1.out.keep hb7) hl9).mono ?_); rintro e w8 ⟨v8, L8, rfl, hL8, hO8, hb78⟩; have hL8 := (all_one _ _ _ hL8 HL7.out).symm; subst hL8; obtain ⟨a8, n8, c8, rfl, hI8⟩ := hO8.is (H1.out.keep (hb7.trans (hb78.mono hb7.size))); have HI8 := hide hI8; have HI7 := hide (isT_of (HO7.out.keep hb78)); have HB68 := hide (hb67.trans (hb78.mono hb67.size)); have hb8 := hb7.trans (hb78.mono hb7.size); clear hI8 hO8)
    | (go_at_call 15; go_must (refine (wrecords_any a1 len1 cap1 x1 _ (H1.out.keep hb6) hl9).mono ?_); rintro e w7 ⟨v7, L7, rfl, hL7, hO7, hb67⟩; obtain ⟨a7, n7, c7, rfl⟩ := hO7.ownT.form; have HL7 := hide hL7; have HO7 := hide hO7; have hb7 := hb6.trans (hb67.mono hb6.size); clear hL7 hO7)
    | (go_at_call 14; go_must (refine (xrecords_any _ _ _ _ _ _ (HT4.out.mid HP5.out) HT4.out.few (Nat.le_trans HT4.out.base HP5.out.size)).mono ?_); rintro e w6 ⟨a6, n6, c6, L6, rfl, hL6, hI6, hx6, hp6⟩; have hL6 := (all_one _ _ _ hL6 HL5.out).symm; subst hL6; have HI6 := hide hI6; have HT6 := hide (HT4.out.next HP5.out HD5.out hp6 hx6 (Nat.le_refl _) (Nat.le_trans (all_flat HL5.out).1 HT4.out.h2)); have HOff := hide (HT4.out.off.next (fun k hk => (HT4.out.x.lt hk).1) HP5.out); have HI5 := hide (isT_of (HO5.out.lies hp6.1 (fun k hk hk' hx => by have := (HT4.out.x.lt (hx.same (HP5.out.1.block _ HT4.out.x.at (fun hz => HT4.out.off _ hz SB.at)))).1; omega))); have HW6 := hide (walAt_beside HW5.out (fun hx => by have := (HT4.out.x.lt (hx.same (HP5.out.1.block _ HT4.out.x.at (fun hz => HT4.out.off _ hz SB.at)))).1; omega) (fun hz => HOff.out _ SB.at hz) HD5.out.at hp6); have hb6 := hb4.trans ((HT4.out.below HP5.out hp6).mono hba.size); clear hI6 hx6 hp6)
    | (go_at_call 13; go_must (refine (wopen_any _ _ size bs 0 _ HT4.out.d HAB.out HT4.out.few).mono ?_); rintro e w5 ⟨q, v5, L, rfl, hL, hO, hd5, hp5, hw5, hq5, -⟩; obtain ⟨a5, n5, c5, rfl⟩ := hO.ownT.form; have HL5 := hide hL; have HO5 := hide hO; have HD5 := hide hd5; have HP5 := hide hp5; have HW5 := hide hw5; clear hL hO hd5 hp5 hw5)
    | (go_at_call 12; go_must (refine (HX1.out _ _ _ (HTw2.out.mid HP3.out) (H1.out.keep hb3).src (Nat.le_trans HTw2.out.base HP3.out.size)).mono ?_); rintro e w4 ⟨rfl, hd4, hp4⟩; have HT4 := hide (HTw2.out.next HP3.out HD3.out hp4 hd4 HN1.out.1 HN1.out.2); have hb4 := hb2.trans ((HTw2.out.below HP3.out hp4).mono hba.size); clear hd4 hp4)
    | (go_at_call 11; go_must (refine (HC1.out _ _ _ HTw2.out.d (H1.out.keep hb2).src HTw2.out.base).mono ?_); rintro e w3 ⟨rfl, hd3, hp3⟩; have HD3 := hide hd3; have HP3 := hide hp3; have hb3 := hb2.trans ((HTw2.out.d.below hp3 HTw2.out.base).mono hba.size); clear hd3 hp3)
    | (go_at_call 10; refine (HXew.out _).mono ?_; rintro e w2 ⟨rfl, hx2, hb2⟩; have HTw2 := hide (both_new HD1.out hb1' hx2 hb2 HSz.out); have hb2 := hb1.trans (hb2.mono hb1.size); clear hx2)
    | (go_at_call 9; refine (HNew.out _).mono ?_; rintro e w1 ⟨rfl, hd1, hb1'⟩; have HD1 := hide hd1; have hb1 := hba.trans (hb1'.mono hba.size); clear hd1)
    | (go_at_call 8; refine (wlawake_any _).mono ?_; rintro e wa ⟨rfl, hba⟩))
  have HT8 := hide (HT6.out.keep HB68.out)
  have HW8 := hide (HW6.out.keep HT6.out.d.at HB68.out)
  obtain ⟨sa, sn, sc, hx0, hx1, hxB⟩ := HT8.out.xs
  have q0 := (show IsBytes w8.drew sa sn sc (flat L) from hxB).conv
  have HSN := hide hxB.1
  have HXB := hide hxB
  have HF8 := hide HT8.out.few
  clear hxB hx1
  go_region_held (fun w' => w'.cell? ⟨w1.heap.size, 0, none⟩ = some (.slice sa sn sc)) (first | go_keep | exact hx12 | exact hx11 | exact hx10 | exact hx9) (first
    | (go_at_call 18; have hq := hB11; go_must (refine (sameT_self a7 n7 c7 L7 a8 n8 c8 _ (HI7.out.keep hB11) (HI8.out.keep hB11)).mono ?_); rintro e w12 ⟨rfl, hb12⟩; have hB12 := hB11.trans (hb12.mono hB11.size); have hx12 := (hB12.cell (p := ⟨w1.heap.size, 0, none⟩) HT8.out.x.at).trans hx0; clear hb12)
    | (go_at_call 19; go_must (refine (dbytes_any _ _ size _ _ _ (HT8.out.d.keep hB10) HF8.out).mono ?_); rintro e w11 ⟨v11, rfl, hown11, hb11⟩; have q6 := hown11.holds.conv; have hB11 := hB10.trans (hb11.mono hB10.size); have q11 := (HXB.out.keep hB11).conv; have hx11 := (hB11.cell (p := ⟨w1.heap.size, 0, none⟩) HT8.out.x.at).trans hx0; clear hown11 hb11)
    | (go_at_call 18; go_must (refine (sameT_self a5 n5 c5 L a6 n6 c6 _ (HI5.out.keep (HB68.out.trans (hB9.mono HB68.out.size))) (HI6.out.keep (HB68.out.trans (hB9.mono HB68.out.size)))).mono ?_); rintro e w10 ⟨rfl, hb10⟩; have hB10 := hB9.trans (hb10.mono hB9.size); have q10 := (HXB.out.keep hB10).conv; have hx10 := (hB10.cell (p := ⟨w1.heap.size, 0, none⟩) HT8.out.x.at).trans hx0; clear hb10)
    | (go_at_call 17; go_must (refine (wsize_any _ _ size _ _ q _ (HT8.out.d.keep (Below.refl _ w8).drew) (HW8.out.keep HT8.out.d.at (Below.refl _ w8).drew) HF8.out).mono ?_); rw [HSN.out]; rintro e w9 ⟨rfl, hb9⟩; have hB9 := below_undrew hb9; have q9 := (HXB.out.keep hB9).conv; have hx9 := (hB9.cell (p := ⟨w1.heap.size, 0, none⟩) HT8.out.x.at).trans hx0; clear hb9))
  all_goals
    go_wp2
    go_ret
    exact ⟨rfl, hb8.trans (hB12.mono hb8.size)⟩

set_option maxRecDepth 100000 in
theorem lifted (os : Os) (started : os.Started) (H : Type) (enc : TypeId × Value → H) :
    ReturnsInHanded {} Try.checked os 3 .any (Rows.walOpensSpec.pre6 enc Try.prog Try.f3 Rows.walOpensRow.domain false) (Rows.walOpensSpec.post enc Try.prog Try.f3 false true false false) := by
  refine returnsInHanded_of_change (C := Try.checked) own started (by kernel_rfl) Try.func3
    (ChangeSpec.witness6 (enc := enc) (C := Try.checked) false ⟨#[], #[.int .i64 0, .slice none 0 0], []⟩ 8 (by kernel_rfl) (by kernel_rfl) (by kernel_rfl) (by kernel_rfl)) ?_
  intro W base args ds gs before hval0 hW hcnd _
  have hval : ∀ (j : Nat) t v, Try.f3.params[j]? = some t → args[j]? = some v → Value.okWide Try.prog W .any base t v := hval0
  have hW' := hW
  obtain ⟨p, q, hA0, hV, rfl, hfz, hnd⟩ := hW
  have hA : DataW.TrodAll enc Try.prog W 0 (fun _ => true) true Try.f3.params.toList args.toList ds p := hA0
  rw [Try.params3] at hA hval
  obtain ⟨v0, vs0, d0, ds0, p0, q0, hargs, rfl, rfl, h0, r0⟩ := trodAll_cons hA
  obtain ⟨v1, vs1, d1, ds1, p1, q1, rfl, rfl, rfl, h1, r1⟩ := trodAll_cons r0
  obtain ⟨rfl, rfl, rfl⟩ := trodAll_nil r1
  obtain rfl : args = #[v0, v1] := by cases args; simp_all
  obtain ⟨rfl, rfl⟩ := trodVars_none hV
  have k0 := h0
  have lt0 : ∀ x ∈ p0, x.block < W.heap.size := by obtain ⟨m, hm⟩ := k0; exact DataW.trod_lt m _ _ _ hm
  obtain ⟨a0, rfl, w0⟩ : ∃ n, v0 = .int .i64 n ∧ (Lit.int .i64 n).wf = true := by
    obtain ⟨n, hn, _, _, hw⟩ := open_int Try.underlying3 (hval 0 3 v0 rfl rfl) h0
    exact ⟨n, hn, hw⟩
  obtain ⟨a1, len1, cap1, rfl⟩ := okWide_slice Try.underlying22 (hval 1 22 v1 rfl rfl)
  have k1 := h1
  have lt1 : ∀ x ∈ p1, x.block < W.heap.size := by obtain ⟨m, hm⟩ := k1; exact DataW.trod_lt m _ _ _ hm
  obtain ⟨x1, w1⟩ : ∃ xs, IsBytes W a1 len1 cap1 xs := by
    obtain ⟨fuel, hf⟩ := h1
    exact open_bytes (by simpa [Value.cells] using hf)
  clear hA0 hval0
  refine (walk a0 a1 len1 cap1 x1 W w0 w1).mono fun e W' ⟨he, bel⟩ => ?_
  subst he
  exact ⟨_, rfl, _, _, _, [], _, [], hW', trodAll_mk1 (shut_bool Try.underlying4 _), (trodAll_cons_mk (Below.trod laidOut (by kernel_rfl) (of_decide_eq_true (by kernel_rfl)) k0 bel lt0) (trodAll_cons_mk (Below.trod laidOut (by kernel_rfl) (of_decide_eq_true (by kernel_rfl)) k1 bel lt1) trodAll_mk0)), rfl, bel.frame _, fun h => by cases h⟩

theorem over : Rows.walOpensRow.holds Try.pinned (OpenSpec.ofChange Rows.walOpensSpec) :=
  OpenClaim.holds_of_wide 3 Try.f3 rfl rfl rfl rfl rfl rfl rfl ⟨rfl, rfl, rfl, rfl, rfl⟩ rfl rfl rfl rfl rfl (by kernel_rfl) Try.func3 (by kernel_rfl)
    (of_decide_eq_true (by kernel_rfl)) (by unfold Func.isWrapper; first | (rw [if_pos (by decide +kernel)]; kernel_rfl) | (rw [if_neg (by decide +kernel)]; exact ⟨rfl, rfl⟩))
    (fun os started H enc _ => lifted os started H enc)

theorem proved : Rows.WalOpensSaid := over
end Go.Proofs.Ytajpamkdcpbabaa.walOpens
namespace Go.Proofs.Ytajpamkdcpbabaa
theorem walOpens_holds : Rows.WalOpensSaid := walOpens.proved
#print axioms walOpens_holds
end Go.Proofs.Ytajpamkdcpbabaa
