/- For any bytes b and any int i plenumlaw05.FrameBits returns true (of more than 200 bytes, and where i is no bit of b's frame, the law itself asks nothing): of b's frame with its bit i turned frame.Of does not tell the text b; what was handed in is left as it was. No condition. -/
import Derived.Test.YtcmimhhealokhaaRows
import Derived.WalkKit
import Derived.ProofKit
import Derived.OpenShut
import Derived.ShutString
import Derived.ChangeOld
import Derived.Below
import Derived.Test.YtcmimhhealokhaaFrAll
namespace Go.Proofs.Ytcmimhhealokhaa.frameBits
open Go.ChangeShapes Go.WideShapes Go.ChangeAt Go.RowKit
open Go.ChangeMaps (open_string shut_string)
set_option linter.unusedVariables false

theorem own : ownKnob Try.prog.godebug = none := by kernel_rfl
theorem laidOut : laidOutB Try.prog = true := by kernel_rfl

open NumMath

theorem bit_turned (c : Int) (j : Nat) (h : 0 ≤ c ∧ c < 256) (hj : j < 8) : (0 ≤ bits .xor .u8 c (2 ^ j % 256) ∧ bits .xor .u8 c (2 ^ j % 256) < 256) ∧ bits .xor .u8 c (2 ^ j % 256) ≠ c := by
  have all : ∀ (k : Fin 8) (n : Fin 256), (0 ≤ bits .xor .u8 ((n.val : Nat) : Int) (2 ^ k.val % 256) ∧ bits .xor .u8 ((n.val : Nat) : Int) (2 ^ k.val % 256) < 256) ∧ bits .xor .u8 ((n.val : Nat) : Int) (2 ^ k.val % 256) ≠ ((n.val : Nat) : Int) := by decide +kernel
  have := all ⟨j, hj⟩ ⟨c.toNat, by omega⟩
  have e : ((c.toNat : Nat) : Int) = c := by omega
  rw [e] at this
  exact this

set_option maxHeartbeats 4000000 in
theorem walk (a0 : Option Addr) (len0 cap0 : Nat) (x0 : List Int) (a1 : Int) (w : World) (w0 : IsBytes w a0 len0 cap0 x0) (w1 : (Lit.int .i64 a1).wf = true) :
    Calls Try.prog 6 #[.slice a0 len0 cap0, .int .i64 a1] w fun e w' => e = .returned (.bool true) ∧ Below w.heap.size w w' := by
  have H0 := hide w0
  obtain ⟨n1, n2⟩ := wf_i64 w1
  have hm0 : (len0 : Int) ≤ 9223372036854775807 := by have := w0.2.1; have := w0.2.2.1; unfold maxLen at this; omega
  have HA : Hid (AreB x0) := w0.2.2.2.1
  have HL := hide w0.1
  clear w0 w1
  by_cases g0 : (200 : Int) < (len0 : Int)
  · go_enter Try.func6, Try.ntmps6
    go_wp2_with (first
      | (go_at_call 8; refine (frawake_any _).mono ?_; rintro e wa ⟨rfl, hba⟩)
      | (go_at_call 11; refine (frput_any a0 len0 cap0 x0 _ (H0.out.keep hba)).mono ?_; rintro e wb ⟨v1, rfl, hown1, hbb⟩; obtain ⟨a2, m2, c2, rfl, -⟩ := hown1.any))
    go_ret
    exact ⟨rfl, hba.trans (hbb.mono hba.size)⟩
  · by_cases g1 : a1 < 0
    · go_enter Try.func6, Try.ntmps6
      go_wp2_with (first
        | (go_at_call 8; refine (frawake_any _).mono ?_; rintro e wa ⟨rfl, hba⟩)
        | (go_at_call 11; refine (frput_any a0 len0 cap0 x0 _ (H0.out.keep hba)).mono ?_; rintro e wb ⟨v1, rfl, hown1, hbb⟩; obtain ⟨a2, m2, c2, rfl, -⟩ := hown1.any))
      go_ret
      exact ⟨rfl, hba.trans (hbb.mono hba.size)⟩
    · have HF : Hid (frA x0 = frL x0) := if_neg (by rw [HL.out]; omega)
      have HFl : Hid ((frL x0).length = 8 + len0) := by show _ = _; rw [frL_length, HL.out]
      by_cases g2 : 8 * ((8 + len0 : Nat) : Int) ≤ a1
      · have g2' : (8 * ((8 + len0 : Nat) : Int) ≤ a1) = True := by simpa using g2
        generalize hz : 8 + len0 = z at *
        have hz1 : (z : Int) ≤ 300 := by omega
        have hz2 : 0 < z := by omega
        clear hz g2
        go_enter Try.func6, Try.ntmps6
        go_wp2_with (first
          | (go_at_call 8; refine (frawake_any _).mono ?_; rintro e wa ⟨rfl, hba⟩)
          | (go_at_call 11; refine (frput_any a0 len0 cap0 x0 _ (H0.out.keep hba)).mono ?_; rw [HF.out]; rintro e wb ⟨v1, rfl, hown1, hbb⟩; obtain ⟨g3, c3, rfl, -, -, hc3, hmax3⟩ := hown1.row HFl.out hz2; unfold maxLen at hmax3; clear hown1))
        go_ret
        exact ⟨rfl, hba.trans (hbb.mono hba.size)⟩
      · obtain ⟨i, rfl⟩ := Int.eq_ofNat_of_zero_le (show 0 ≤ a1 by omega)
        have hml : i / 8 < 8 + len0 := by omega
        have hj : i % 8 < 8 := by omega
        have hmx : i / 8 < (frL x0).length := by rw [HFl.out]; exact hml
        have HR := hide (frL_are HA.out)
        obtain ⟨r1, r2⟩ := nth_range (frL x0) HR.out (i / 8)
        obtain ⟨hu, hne⟩ := bit_turned ((frL x0).getD (i / 8) 0) (i % 8) ⟨r1, r2⟩ hj
        have HS := hide (bit_none x0 (i / 8) _ (by rw [HL.out]; omega) HA.out (by rw [HL.out]; exact hml) hu hne)
        have HU : Hid (∀ b ∈ (frL x0).set (i / 8) (bits .xor .u8 ((frL x0).getD (i / 8) 0) (2 ^ (i % 8) % 256)), 0 ≤ b ∧ b < 256) := fun b hb => by
          rcases List.mem_or_eq_of_mem_set hb with hb | rfl
          · exact HR.out b hb
          · exact hu
        obtain ⟨c, hcc⟩ : ∃ c, (frL x0).getD (i / 8) 0 = c := ⟨_, rfl⟩
        rw [hcc] at r1 r2 hu hne HS HU
        have HC := hide hcc
        clear hcc
        have HMX := hide hmx
        have g2' : (8 * ((8 + len0 : Nat) : Int) ≤ (i : Int)) = False := by simp; omega
        generalize hz : 8 + len0 = z at *
        have hz1 : (z : Int) ≤ 300 := by omega
        have hz2 : 0 < z := by omega
        clear hu hne hmx hz g2
        match hun : unfr ((frL x0).set (i / 8) (bits .xor .u8 c (2 ^ (i % 8) % 256))) with
        | none =>
          have HUN := hide hun
          clear hun
          go_enter Try.func6, Try.ntmps6
          go_wp2_with (first
            | (go_at_call 8; refine (frawake_any _).mono ?_; rintro e wa ⟨rfl, hba⟩; have hsz := hba.size)
            | (go_at_call 11; refine (frput_any a0 len0 cap0 x0 _ (H0.out.keep hba)).mono ?_; rw [HF.out]; rintro e w3 ⟨v3, rfl, hown3, hb3⟩; obtain ⟨g3, c3, rfl, hg3a, hg3b, hc3, hmax3⟩ := hown3.row HFl.out hz2; obtain ⟨hcell3, hfr3, -, -⟩ := ownB_cell hown3 (i / 8) HMX.out; rw [HC.out] at hcell3; have HO4 := hide (fun u => ownB_set HFl.out hown3 (i / 8) u); have hsz3 := hb3.size; clear hown3; unfold maxLen at hmax3)
            | (go_at_call 9; refine (frof_no _ _ _ _ _ ((HO4.out _).isAt HU.out) HUN.out).mono ?_; rintro e w' ⟨rfl, hw⟩; have hw := hw.symm; subst hw))
          go_ret
          exact ⟨rfl, hba.trans ((hb3.setCell (p := ⟨g3, i / 8, none⟩) hg3a _).mono hsz)⟩
        | some t =>
          have HUN := hide hun
          have HNE : Hid (((strB t).toList == (strB x0).toList) = false) := by
            show _ = _
            have hAt := (unfr_some HU.out hun).2.2.1
            rw [strB_same hAt HA.out]
            exact decide_eq_false (fun e => HS.out (hun.trans (congrArg some e)))
          have hNE := HNE.out
          clear hun
          go_enter Try.func6, Try.ntmps6
          go_wp2_with (first
            | (go_at_call 8; refine (frawake_any _).mono ?_; rintro e wa ⟨rfl, hba⟩; have hsz := hba.size)
            | (go_at_call 11; refine (frput_any a0 len0 cap0 x0 _ (H0.out.keep hba)).mono ?_; rw [HF.out]; rintro e w3 ⟨v3, rfl, hown3, hb3⟩; obtain ⟨g3, c3, rfl, hg3a, hg3b, hc3, hmax3⟩ := hown3.row HFl.out hz2; obtain ⟨hcell3, hfr3, -, -⟩ := ownB_cell hown3 (i / 8) HMX.out; rw [HC.out] at hcell3; have HO4 := hide (fun u => ownB_set HFl.out hown3 (i / 8) u); have hsz3 := hb3.size; clear hown3; unfold maxLen at hmax3)
            | (go_at_call 9; refine (frof_yes _ _ _ _ t _ ((HO4.out _).isAt HU.out) HUN.out).mono ?_; rintro e w5 ⟨b5, n5, c5, rfl, -, hI5, -, hb5⟩; have hb6 := hba.trans (((hb3.setCell (p := ⟨g3, i / 8, none⟩) hg3a _).mono hsz).trans (hb5.mono (by simp; omega))); have q5 := hI5.conv; have q0 := (H0.out.keep hb6).conv))
          go_ret
          exact ⟨rfl, hb6⟩

set_option maxRecDepth 100000 in
theorem lifted (os : Os) (started : os.Started) (H : Type) (enc : TypeId × Value → H) :
    ReturnsInHanded {} Try.checked os 6 .any (Rows.frameBitsSpec.pre6 enc Try.prog Try.f6 Rows.frameBitsRow.domain false) (Rows.frameBitsSpec.post enc Try.prog Try.f6 false true false false) := by
  refine returnsInHanded_of_change (C := Try.checked) own started (by kernel_rfl) Try.func6
    (ChangeSpec.witness6 (enc := enc) (C := Try.checked) false ⟨#[], #[.slice none 0 0, .int .i64 0], []⟩ 8 (by kernel_rfl) (by kernel_rfl) (by kernel_rfl) (by kernel_rfl)) ?_
  intro W base args ds gs before hval0 hW hcnd _
  have hval : ∀ (j : Nat) t v, Try.f6.params[j]? = some t → args[j]? = some v → Value.okWide Try.prog W .any base t v := hval0
  have hW' := hW
  obtain ⟨p, q, hA0, hV, rfl, hfz, hnd⟩ := hW
  have hA : DataW.TrodAll enc Try.prog W 0 (fun _ => true) true Try.f6.params.toList args.toList ds p := hA0
  rw [Try.params6] at hA hval
  obtain ⟨v0, vs0, d0, ds0, p0, q0, hargs, rfl, rfl, h0, r0⟩ := trodAll_cons hA
  obtain ⟨v1, vs1, d1, ds1, p1, q1, rfl, rfl, rfl, h1, r1⟩ := trodAll_cons r0
  obtain ⟨rfl, rfl, rfl⟩ := trodAll_nil r1
  obtain rfl : args = #[v0, v1] := by cases args; simp_all
  obtain ⟨rfl, rfl⟩ := trodVars_none hV
  obtain ⟨a0, len0, cap0, rfl⟩ := okWide_slice Try.underlying22 (hval 0 22 v0 rfl rfl)
  have k0 := h0
  have lt0 : ∀ x ∈ p0, x.block < W.heap.size := by obtain ⟨m, hm⟩ := k0; exact DataW.trod_lt m _ _ _ hm
  obtain ⟨x0, w0⟩ : ∃ xs, IsBytes W a0 len0 cap0 xs := by
    obtain ⟨fuel, hf⟩ := h0
    exact open_bytes (by simpa [Value.cells] using hf)
  have k1 := h1
  have lt1 : ∀ x ∈ p1, x.block < W.heap.size := by obtain ⟨m, hm⟩ := k1; exact DataW.trod_lt m _ _ _ hm
  obtain ⟨a1, rfl, w1⟩ : ∃ n, v1 = .int .i64 n ∧ (Lit.int .i64 n).wf = true := by
    obtain ⟨n, hn, _, _, hw⟩ := open_int Try.underlying3 (hval 1 3 v1 rfl rfl) h1
    exact ⟨n, hn, hw⟩
  clear hA0 hval0
  refine (walk a0 len0 cap0 x0 a1 W w0 w1).mono fun e W' ⟨he, bel⟩ => ?_
  subst he
  exact ⟨_, rfl, _, _, _, [], _, [], hW', trodAll_mk1 (shut_bool Try.underlying4 _), (trodAll_cons_mk (Below.trod laidOut (by kernel_rfl) (of_decide_eq_true (by kernel_rfl)) k0 bel lt0) (trodAll_cons_mk (Below.trod laidOut (by kernel_rfl) (of_decide_eq_true (by kernel_rfl)) k1 bel lt1) trodAll_mk0)), rfl, bel.frame _, fun h => by cases h⟩

theorem over : Rows.frameBitsRow.holds Try.pinned (OpenSpec.ofChange Rows.frameBitsSpec) :=
  OpenClaim.holds_of_wide 6 Try.f6 rfl rfl rfl rfl rfl rfl rfl ⟨rfl, rfl, rfl, rfl, rfl⟩ rfl rfl rfl rfl rfl (by kernel_rfl) Try.func6 (by kernel_rfl)
    (of_decide_eq_true (by kernel_rfl)) (by unfold Func.isWrapper; first | (rw [if_pos (by decide +kernel)]; kernel_rfl) | (rw [if_neg (by decide +kernel)]; exact ⟨rfl, rfl⟩))
    (fun os started H enc _ => lifted os started H enc)

theorem proved : Rows.FrameBitsSaid := over
end Go.Proofs.Ytcmimhhealokhaa.frameBits
namespace Go.Proofs.Ytcmimhhealokhaa
theorem frameBits_holds : Rows.FrameBitsSaid := frameBits.proved
#print axioms frameBits_holds
end Go.Proofs.Ytcmimhhealokhaa
