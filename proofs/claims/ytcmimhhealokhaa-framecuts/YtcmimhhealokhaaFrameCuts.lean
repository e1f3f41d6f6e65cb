/- For any bytes b plenumlaw05.FrameCuts returns true (of more than 1000 bytes the law itself asks nothing): the texts that frame.All tells of b, framed again by frame.Put one behind the other, are what b begins with, and as many bytes as frame.All says; what was handed in is left as it was. No condition. -/
import Derived.Test.YtcmimhhealokhaaRows
import Derived.WalkKit
import Derived.ProofKit
import Derived.OpenShut
import Derived.ShutString
import Derived.ChangeOld
import Derived.Below
import Derived.Test.YtcmimhhealokhaaFrAll
namespace Go.Proofs.Ytcmimhhealokhaa.frameCuts
open Go.ChangeShapes Go.WideShapes Go.ChangeAt Go.RowKit
open Go.ChangeMaps (open_string shut_string)
set_option linter.unusedVariables false

theorem own : ownKnob Try.prog.godebug = none := by kernel_rfl
theorem laidOut : laidOutB Try.prog = true := by kernel_rfl

open NumMath

theorem flat_take (L : List (List Int)) (k : Nat) (hk : k < L.length) : flat (L.take (k + 1)) = flat (L.take k) ++ frL (L.getD k []) := by
  rw [List.take_succ_eq_append_getElem hk, flat_snoc]
  simp [List.getD, List.getElem?_eq_getElem hk]

theorem mem_getD (L : List (List Int)) (k : Nat) (hk : k < L.length) : L.getD k [] ∈ L := by
  simp only [List.getD, List.getElem?_eq_getElem hk]
  exact List.getElem_mem _

set_option maxHeartbeats 4000000 in
theorem walk (a0 : Option Addr) (len0 cap0 : Nat) (x0 : List Int) (w : World) (w0 : IsBytes w a0 len0 cap0 x0) :
    Calls Try.prog 7 #[.slice a0 len0 cap0] w fun e w' => e = .returned (.bool true) ∧ Below w.heap.size w w' := by
  have H0 := hide w0
  have HA : Hid (AreB x0) := w0.2.2.2.1
  have HL0 := hide w0.1
  have hlc0 := w0.2.1
  have hm0 : (len0 : Int) ≤ 9223372036854775807 := by have := w0.2.1; have := w0.2.2.1; unfold maxLen at this; omega
  have hmc : (cap0 : Int) ≤ 9223372036854775807 := by have := w0.2.2.1; unfold maxLen at this; omega
  clear w0
  by_cases g0 : (1000 : Int) < (len0 : Int)
  · go_enter Try.func7, Try.ntmps7
    go_wp2_with (go_at_call 8; refine (frawake_any _).mono ?_; rintro e wa ⟨rfl, hba⟩)
    go_ret
    exact ⟨rfl, hba⟩
  · have HB : Hid (len0 ≤ 1000000000) := by show _ ≤ _; omega
    go_enter Try.func7, Try.ntmps7
    go_wp2_with (first
      | (go_at_call 8; refine (frawake_any _).mono ?_; rintro e wa ⟨rfl, hba⟩)
      | (go_at_call 14; refine (all_any a0 len0 cap0 x0 _ (H0.out.keep hba) HB.out).mono ?_; rintro e wb ⟨a1, n1, c1, L, rfl, hL, hI1, hbb⟩; have HAl := hide hL; have HI1 := hide hI1; have hb2 := hba.trans (hbb.mono hba.size); have hlc1 := hI1.2.1; have hmx1 : (c1 : Int) ≤ 9223372036854775807 := (by have := hI1.2.2.1; unfold maxLen at this; omega); have HL := hide hI1.1; clear hL hI1 hbb))
    obtain ⟨hT, r, hx, -⟩ := HAl.out
    have HT := hide hT
    have HX := hide hx
    have hfl : (flat L).length ≤ len0 := by rw [← HL0.out, hx, List.length_append]; omega
    obtain ⟨N, HN⟩ : ∃ N, Hid (N = (flat L).length) := ⟨_, rfl⟩
    rw [← HN.out] at hfl ⊢
    clear hT hx
    have hsz2 := hb2.size
    go_loopw [5, 20] (fun v i wr => ∃ k : Nat, k ≤ n1 ∧ i = .int .i64 k ∧ OwnB wr wb.heap.size v (flat (L.take k)) ∧ Below wb.heap.size wb wr) (fun _ i _ => n1 - (intOf i).toNat)
    case atStart => exact ⟨0, Nat.zero_le _, rfl, ownB_nil _ _, Below.refl _ _⟩
    case round =>
      obtain ⟨k, hk, rfl, hown, hb⟩ := hrel
      have hszr := hb.size
      by_cases hlt : k < n1
      · have hkL : k < L.length := by rw [HL.out]; exact hlt
        have HFt := hide (flat_take L k hkL)
        have HMm := hide (HT.out _ (mem_getD L k hkL))
        have HLe : Hid ((flat (L.take k)).length ≤ 1000) := by show _ ≤ _; have := flat_take_le L k; have := HN.out; omega
        obtain ⟨g, off, b1, m1, d1, rfl, hg, hc, hI⟩ := (HI1.out.keep hb).at hlt
        have HIt := hide hI
        have HOw := hide hown
        clear hI hkL hown
        generalize L.getD k [] = t at *
        have HF : Hid (frA t = frL t) := if_neg (by have := HMm.out.1; omega)
        go_wp2_with (first
          | (go_at_call 11; refine (frput_any b1 m1 d1 t _ HIt.out).mono ?_; rw [HF.out]; rintro e w3 ⟨v3, rfl, hown3, hb3⟩; obtain ⟨a3, n3, c3, rfl, hS3⟩ := hown3.any; have hsz3 := hb3.size; have hO3 := HOw.out.keep hb3)
          | (at_builtin; go_must (refine wp_joinB _ rfl _ _ rfl wb.heap.size _ _ rfl hO3 a3 n3 c3 _ rfl hS3 (by have := HLe.out; have := HMm.out.1; rw [frL_length]; omega) (by omega) ?_); intro v4 w4 hown4 hg4 hat4; have hb4 := hO3.grown hg4 (by omega)))
        go_roundw
        case rel => exact ⟨k + 1, by omega, by go_num, by rw [HFt.out]; exact hown4, hb.trans ((hb3.mono hszr).trans hb4)⟩
        case measure => simp [intOf]; omega
      · have hkl : k = n1 := by omega
        subst hkl
        rw [List.take_of_length_le (by rw [HL.out]; exact Nat.le_refl _)] at hown
        have hbr := hb2.trans (hb.mono hsz2)
        obtain ⟨a5, m5, c5, rfl, hI5⟩ := hown.at (flat_are HT.out)
        have hm5 : m5 = N := by rw [HN.out, hI5.1]
        subst hm5
        have hm5x : (m5 : Int) ≤ 9223372036854775807 := by omega
        obtain ⟨bt, hst, htb⟩ := isB_cutTo (H0.out.keep hbr) m5 hfl .i64 (m5 : Int) rfl
        have e5 : x0.take m5 = flat L := by rw [HX.out, HN.out, List.take_left]
        rw [e5] at htb
        have q1 := (hI5.keep (Below.refl _ wr).drew).conv
        have q2 := (htb.keep (Below.refl _ wr).drew).conv
        have hle : (m5 : Int) ≤ len0 := by omega
        clear hI5 htb e5 hown
        go_wp2
        go_region
        all_goals
          go_wp2
          go_ret
          exact ⟨rfl, hbr.drew⟩

set_option maxRecDepth 100000 in
theorem lifted (os : Os) (started : os.Started) (H : Type) (enc : TypeId × Value → H) :
    ReturnsInHanded {} Try.checked os 7 .any (Rows.frameCutsSpec.pre6 enc Try.prog Try.f7 Rows.frameCutsRow.domain false) (Rows.frameCutsSpec.post enc Try.prog Try.f7 false true false false) := by
  refine returnsInHanded_of_change (C := Try.checked) own started (by kernel_rfl) Try.func7
    (ChangeSpec.witness6 (enc := enc) (C := Try.checked) false ⟨#[], #[.slice none 0 0], []⟩ 8 (by kernel_rfl) (by kernel_rfl) (by kernel_rfl) (by kernel_rfl)) ?_
  intro W base args ds gs before hval0 hW hcnd _
  have hval : ∀ (j : Nat) t v, Try.f7.params[j]? = some t → args[j]? = some v → Value.okWide Try.prog W .any base t v := hval0
  have hW' := hW
  obtain ⟨p, q, hA0, hV, rfl, hfz, hnd⟩ := hW
  have hA : DataW.TrodAll enc Try.prog W 0 (fun _ => true) true Try.f7.params.toList args.toList ds p := hA0
  rw [Try.params7] at hA hval
  obtain ⟨v0, vs0, d0, ds0, p0, q0, hargs, rfl, rfl, h0, r0⟩ := trodAll_cons hA
  obtain ⟨rfl, rfl, rfl⟩ := trodAll_nil r0
  obtain rfl : args = #[v0] := by cases args; simp_all
  obtain ⟨rfl, rfl⟩ := trodVars_none hV
  obtain ⟨a0, len0, cap0, rfl⟩ := okWide_slice Try.underlying22 (hval 0 22 v0 rfl rfl)
  have k0 := h0
  have lt0 : ∀ x ∈ p0, x.block < W.heap.size := by obtain ⟨m, hm⟩ := k0; exact DataW.trod_lt m _ _ _ hm
  obtain ⟨x0, w0⟩ : ∃ xs, IsBytes W a0 len0 cap0 xs := by
    obtain ⟨fuel, hf⟩ := h0
    exact open_bytes (by simpa [Value.cells] using hf)
  clear hA0 hval0
  refine (walk a0 len0 cap0 x0 W w0).mono fun e W' ⟨he, bel⟩ => ?_
  subst he
  exact ⟨_, rfl, _, _, _, [], _, [], hW', trodAll_mk1 (shut_bool Try.underlying4 _), (trodAll_cons_mk (Below.trod laidOut (by kernel_rfl) (of_decide_eq_true (by kernel_rfl)) k0 bel lt0) trodAll_mk0), rfl, bel.frame _, fun h => by cases h⟩

theorem over : Rows.frameCutsRow.holds Try.pinned (OpenSpec.ofChange Rows.frameCutsSpec) :=
  OpenClaim.holds_of_wide 7 Try.f7 rfl rfl rfl rfl rfl rfl rfl ⟨rfl, rfl, rfl, rfl, rfl⟩ rfl rfl rfl rfl rfl (by kernel_rfl) Try.func7 (by kernel_rfl)
    (of_decide_eq_true (by kernel_rfl)) (by unfold Func.isWrapper; first | (rw [if_pos (by decide +kernel)]; kernel_rfl) | (rw [if_neg (by decide +kernel)]; exact ⟨rfl, rfl⟩))
    (fun os started H enc _ => lifted os started H enc)

theorem proved : Rows.FrameCutsSaid := over
end Go.Proofs.Ytcmimhhealokhaa.frameCuts
namespace Go.Proofs.Ytcmimhhealokhaa
theorem frameCuts_holds : Rows.FrameCutsSaid := frameCuts.proved
#print axioms frameCuts_holds
end Go.Proofs.Ytcmimhhealokhaa
