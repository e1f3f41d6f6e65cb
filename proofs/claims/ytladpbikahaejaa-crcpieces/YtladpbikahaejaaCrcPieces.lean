/- For any uint32 c and any bytes a and b plenumlaw04.CrcPieces returns true (of more than 300 bytes in one of them the law itself asks nothing): crc.More takes in byte by byte as the document's reference does, and crc.More over a and then over b is crc.More over both, one behind the other; what was handed in is left as it was. No condition. -/
import Derived.Test.YtladpbikahaejaaRows
import Derived.WalkKit
import Derived.ProofKit
import Derived.OpenShut
import Derived.ShutString
import Derived.ChangeOld
import Derived.Below
import Derived.Test.YtladpbikahaejaaCrcWalks
import Derived.Deep.RegionWith
import Derived.BigRegion
namespace Go.Proofs.Ytladpbikahaejaa.crcPieces
open Go.ChangeShapes Go.WideShapes Go.ChangeAt Go.RowKit
open Go.ChangeMaps (open_string shut_string)
set_option linter.unusedVariables false

theorem own : ownKnob Try.prog.godebug = none := by kernel_rfl
theorem laidOut : laidOutB Try.prog = true := by kernel_rfl

open NumMath

theorem wf_u32 {n : Int} (h : (Lit.int .u32 n).wf = true) : 0 ≤ n ∧ n < 4294967296 := by
  simp [Lit.wf, IntKind.min, IntKind.max, IntKind.signed, IntKind.bits] at h
  omega

set_option maxHeartbeats 4000000 in
theorem walk (a0 : Int) (a1 : Option Addr) (len1 cap1 : Nat) (x1 : List Int) (a2 : Option Addr) (len2 cap2 : Nat) (x2 : List Int) (w : World) (w0 : (Lit.int .u32 a0).wf = true) (w1 : IsBytes w a1 len1 cap1 x1) (w2 : IsBytes w a2 len2 cap2 x2) :
    Calls Try.prog 4 #[.int .u32 a0, .slice a1 len1 cap1, .slice a2 len2 cap2] w fun e w' => e = .returned (.bool true) ∧ Below w.heap.size w w' := by
  obtain ⟨c1, c2⟩ := wf_u32 w0
  have H1 := hide w1
  have H2 := hide w2
  have hm1 : (len1 : Int) ≤ 9223372036854775807 := by have := w1.2.1; have := w1.2.2.1; unfold maxLen at this; omega
  have hm2 : (len2 : Int) ≤ 9223372036854775807 := by have := w2.2.1; have := w2.2.2.1; unfold maxLen at this; omega
  clear w0 w1 w2
  by_cases h5 : (300 : Int) < (len1 : Int) ∨ (300 : Int) < (len2 : Int)
  · by_cases g0 : (300 : Int) < (len1 : Int)
    · go_enter Try.func4, Try.ntmps4
      go_wp2_with (go_at_call 7; refine (crcawake_any _).mono ?_; rintro e wa ⟨rfl, hba⟩)
      go_ret
      exact ⟨rfl, hba⟩
    · have g1 : (300 : Int) < (len2 : Int) := by omega
      go_enter Try.func4, Try.ntmps4
      go_wp2_with (go_at_call 7; refine (crcawake_any _).mono ?_; rintro e wa ⟨rfl, hba⟩)
      go_ret
      exact ⟨rfl, hba⟩
  · have g0 : ¬ (300 : Int) < (len1 : Int) := by omega
    have g1 : ¬ (300 : Int) < (len2 : Int) := by omega
    clear h5
    have HL := hide H1.out.1
    have HR : Hid (∀ b ∈ x1 ++ x2, 0 ≤ b ∧ b < 256) := fun b hb => by rcases List.mem_append.1 hb with hb | hb; exact H1.out.2.2.2.1 b hb; exact H2.out.2.2.2.1 b hb
    obtain ⟨m1, m2⟩ := crcMI_range x1 a0 c1 c2 H1.out.2.2.2.1
    have HA := hide (crcMI_append a0 x1 x2)
    go_enter Try.func4, Try.ntmps4
    go_wp2_with (first
      | (go_at_call 7; refine (crcawake_any _).mono ?_; rintro e wa ⟨rfl, hba⟩; have H1a := hide (H1.out.keep hba); have H2a := hide (H2.out.keep hba)))
    go_loop [7, 23] (fun x i => ∃ k : Nat, k ≤ len1 ∧ i = .int .i64 k ∧ x = .int .u32 (crcMI a0 (x1.take k))) (fun _ i => len1 - (intOf i).toNat)
    case atStart => exact ⟨0, Nat.zero_le _, rfl, rfl⟩
    case round =>
      obtain ⟨k, hk, rfl, rfl⟩ := hrel
      by_cases hlt : k < len1
      · obtain ⟨g, off, rfl, hg, hc⟩ := H1a.out.at hlt
        have hcell := hc k (by rw [HL.out]; exact hlt)
        obtain ⟨b1, b2⟩ := H1a.out.nth k
        have HT := hide (crcMI_take a0 x1 k (by rw [HL.out]; exact hlt))
        obtain ⟨y1, y2⟩ := crcMI_range (x1.take k) a0 c1 c2 (fun b hb => H1a.out.2.2.2.1 b (List.mem_of_mem_take hb))
        generalize x1.getD k 0 = b at *
        generalize crcMI a0 (x1.take k) = x at *
        clear hc
        go_wp2_with (first | (go_at_call 9; refine (rstep_any x b _ y1 y2 b1 b2).mono ?_; rintro e w' ⟨rfl, hw⟩; have hw := hw.symm; subst hw))
        go_round
        case rel => exact ⟨k + 1, by omega, by go_num, by rw [HT.out]⟩
        case measure => simp [intOf]; omega
      · have hkl : k = len1 := by omega
        subst hkl
        rw [List.take_of_length_le (by rw [HL.out]; exact Nat.le_refl _)]
        have hl1 : x1.length ≤ 300 := by have := H1.out.1; omega
        have hl2 : x2.length ≤ 300 := by have := H2.out.1; omega
        have HL1 := hide hl1
        have HL2 := hide hl2
        clear hl1 hl2
        have hsz := hba.size
        generalize hM : crcMI a0 x1 = m at *
        have HM := hide hM
        clear hM
        go_wp2_with (first
          | (go_at_call_of 12 m; refine (more_any m a2 len2 cap2 x2 _ m1 m2 H2a.out).mono ?_; rintro e w' ⟨rfl, hw⟩; have hw := hw.symm; subst hw)
          | (go_at_call_of 12 k; refine (more_any a0 a1 _ cap1 x1 _ c1 c2 H1a.out).mono ?_; rw [HM.out]; rintro e w' ⟨rfl, hw⟩; have hw := hw.symm; subst hw)
          | (at_builtin; refine wp_joinG _ (by rfl) _ (.tmp 45) rfl wa.heap.size _ _ rfl HO3.out a2 len2 cap2 x2 rfl H23.out (by have := HL1.out; have := HL2.out; simp only [List.nil_append]; omega) hsz3 ?_; intro v4 w4 hown4 hg4 hat4; have hb4 := hb3.trans (HO3.out.grown hg4 hsz3); obtain ⟨a4, n4, cap4, e4, hI4⟩ := hown4.at (by simpa using HR.out); subst e4; have HI4 := hide hI4; clear hown4 hg4 hat4 hI4)
          | (at_builtin; go_must (refine wp_joinG _ (by rfl) _ (.tmp 43) rfl wa.heap.size _ [] rfl (ownB_nil _ _) a1 _ cap1 x1 rfl H1a.out.src (by have := HL1.out; simp; omega) (Nat.le_refl _) ?_); intro v3 w3 hown3 hg3 hat3; have hb3 := (ownB_nil wa wa.heap.size).grown hg3 (Nat.le_refl _); have HO3 := hide hown3; have hsz3 := hb3.size; have H23 := hide ((H2a.out.keep hb3).src); clear hown3 hg3 hat3)
          | (go_at_call 12; refine (more_any a0 a4 n4 cap4 _ _ c1 c2 HI4.out).mono ?_; rintro e w' ⟨rfl, hw⟩; have hw := hw.symm; subst hw))
        go_ret
        exact ⟨retB (by rw [HA.out]; simp), hba.trans (hb4.mono hsz)⟩

set_option maxRecDepth 100000 in
theorem lifted (os : Os) (started : os.Started) (H : Type) (enc : TypeId × Value → H) :
    ReturnsInHanded {} Try.checked os 4 .any (Rows.crcPiecesSpec.pre6 enc Try.prog Try.f4 Rows.crcPiecesRow.domain false) (Rows.crcPiecesSpec.post enc Try.prog Try.f4 false true false false) := by
  refine returnsInHanded_of_change (C := Try.checked) own started (by kernel_rfl) Try.func4
    (ChangeSpec.witness6 (enc := enc) (C := Try.checked) false ⟨#[], #[.int .u32 0, .slice none 0 0, .slice none 0 0], []⟩ 8 (by kernel_rfl) (by kernel_rfl) (by kernel_rfl) (by kernel_rfl)) ?_
  intro W base args ds gs before hval0 hW hcnd _
  have hval : ∀ (j : Nat) t v, Try.f4.params[j]? = some t → args[j]? = some v → Value.okWide Try.prog W .any base t v := hval0
  have hW' := hW
  obtain ⟨p, q, hA0, hV, rfl, hfz, hnd⟩ := hW
  have hA : DataW.TrodAll enc Try.prog W 0 (fun _ => true) true Try.f4.params.toList args.toList ds p := hA0
  rw [Try.params4] at hA hval
  obtain ⟨v0, vs0, d0, ds0, p0, q0, hargs, rfl, rfl, h0, r0⟩ := trodAll_cons hA
  obtain ⟨v1, vs1, d1, ds1, p1, q1, rfl, rfl, rfl, h1, r1⟩ := trodAll_cons r0
  obtain ⟨v2, vs2, d2, ds2, p2, q2, rfl, rfl, rfl, h2, r2⟩ := trodAll_cons r1
  obtain ⟨rfl, rfl, rfl⟩ := trodAll_nil r2
  obtain rfl : args = #[v0, v1, v2] := by cases args; simp_all
  obtain ⟨rfl, rfl⟩ := trodVars_none hV
  have k0 := h0
  have lt0 : ∀ x ∈ p0, x.block < W.heap.size := by obtain ⟨m, hm⟩ := k0; exact DataW.trod_lt m _ _ _ hm
  obtain ⟨a0, rfl, w0⟩ : ∃ n, v0 = .int .u32 n ∧ (Lit.int .u32 n).wf = true := by
    obtain ⟨n, hn, _, _, hw⟩ := open_int Try.underlying22 (hval 0 22 v0 rfl rfl) h0
    exact ⟨n, hn, hw⟩
  obtain ⟨a1, len1, cap1, rfl⟩ := okWide_slice Try.underlying23 (hval 1 23 v1 rfl rfl)
  have k1 := h1
  have lt1 : ∀ x ∈ p1, x.block < W.heap.size := by obtain ⟨m, hm⟩ := k1; exact DataW.trod_lt m _ _ _ hm
  obtain ⟨x1, w1⟩ : ∃ xs, IsBytes W a1 len1 cap1 xs := by
    obtain ⟨fuel, hf⟩ := h1
    exact open_bytes (by simpa [Value.cells] using hf)
  obtain ⟨a2, len2, cap2, rfl⟩ := okWide_slice Try.underlying23 (hval 2 23 v2 rfl rfl)
  have k2 := h2
  have lt2 : ∀ x ∈ p2, x.block < W.heap.size := by obtain ⟨m, hm⟩ := k2; exact DataW.trod_lt m _ _ _ hm
  obtain ⟨x2, w2⟩ : ∃ xs, IsBytes W a2 len2 cap2 xs := by
    obtain ⟨fuel, hf⟩ := h2
    exact open_bytes (by simpa [Value.cells] using hf)
  clear hA0 hval0
  refine (walk a0 a1 len1 cap1 x1 a2 len2 cap2 x2 W w0 w1 w2).mono fun e W' ⟨he, bel⟩ => ?_
  subst he
  exact ⟨_, rfl, _, _, _, [], _, [], hW', trodAll_mk1 (shut_bool Try.underlying4 _), (trodAll_cons_mk (Below.trod laidOut (by kernel_rfl) (of_decide_eq_true (by kernel_rfl)) k0 bel lt0) (trodAll_cons_mk (Below.trod laidOut (by kernel_rfl) (of_decide_eq_true (by kernel_rfl)) k1 bel lt1) (trodAll_cons_mk (Below.trod laidOut (by kernel_rfl) (of_decide_eq_true (by kernel_rfl)) k2 bel lt2) trodAll_mk0))), rfl, bel.frame _, fun h => by cases h⟩

theorem over : Rows.crcPiecesRow.holds Try.pinned (OpenSpec.ofChange Rows.crcPiecesSpec) :=
  OpenClaim.holds_of_wide 4 Try.f4 rfl rfl rfl rfl rfl rfl rfl ⟨rfl, rfl, rfl, rfl, rfl⟩ rfl rfl rfl rfl rfl (by kernel_rfl) Try.func4 (by kernel_rfl)
    (of_decide_eq_true (by kernel_rfl)) (by unfold Func.isWrapper; first | (rw [if_pos (by decide +kernel)]; kernel_rfl) | (rw [if_neg (by decide +kernel)]; exact ⟨rfl, rfl⟩))
    (fun os started H enc _ => lifted os started H enc)

theorem proved : Rows.CrcPiecesSaid := over
end Go.Proofs.Ytladpbikahaejaa.crcPieces
namespace Go.Proofs.Ytladpbikahaejaa
theorem crcPieces_holds : Rows.CrcPiecesSaid := crcPieces.proved
#print axioms crcPieces_holds
end Go.Proofs.Ytladpbikahaejaa
