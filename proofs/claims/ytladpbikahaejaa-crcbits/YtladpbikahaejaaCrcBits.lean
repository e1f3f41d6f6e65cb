/- For any bytes b and any int i plenumlaw04.CrcBits returns true (of more than 300 bytes, and where i is no bit of b, the law itself asks nothing): b with its bit i turned has another crc.Sum than b; what was handed in is left as it was. No condition. -/
import Derived.Test.YtladpbikahaejaaRows
import Derived.WalkKit
import Derived.ProofKit
import Derived.OpenShut
import Derived.ShutString
import Derived.ChangeOld
import Derived.Below
import Derived.Test.YtladpbikahaejaaCrcWalks
import Derived.Deep.RegionWith
import Derived.BigRegion
namespace Go.Proofs.Ytladpbikahaejaa.crcBits
open Go.ChangeShapes Go.WideShapes Go.ChangeAt Go.RowKit
open Go.ChangeMaps (open_string shut_string)
set_option linter.unusedVariables false

theorem own : ownKnob Try.prog.godebug = none := by kernel_rfl
theorem laidOut : laidOutB Try.prog = true := by kernel_rfl

open NumMath

theorem bit_turned (c : Int) (j : Nat) (h : 0 ≤ c ∧ c < 256) (hj : j < 8) : (0 ≤ bits .xor .u8 c (2 ^ j % 256) ∧ bits .xor .u8 c (2 ^ j % 256) < 256) ∧ bits .xor .u8 c (2 ^ j % 256) ≠ c := by
  have all : ∀ (k : Fin 8) (n : Fin 256), (0 ≤ bits .xor .u8 ((n.val : Nat) : Int) (2 ^ k.val % 256) ∧ bits .xor .u8 ((n.val : Nat) : Int) (2 ^ k.val % 256) < 256) ∧ bits .xor .u8 ((n.val : Nat) : Int) (2 ^ k.val % 256) ≠ ((n.val : Nat) : Int) := by decide +kernel
  have := all ⟨j, hj⟩ ⟨c.toNat, by omega⟩
  have e : ((c.toNat : Nat) : Int) = c := by omega
  rw [e] at this
  exact this

theorem sum_set (xs : List Int) (m : Nat) (u : Int) (hm : m < xs.length) (hr : ∀ b ∈ xs, 0 ≤ b ∧ b < 256) (hu : 0 ≤ u ∧ u < 256) (hne : u ≠ xs.getD m 0) : crcSumI (xs.set m u) ≠ crcSumI xs := by
  have e1 : xs.set m u = xs.take m ++ u :: xs.drop (m + 1) := List.set_eq_take_append_cons_drop.trans (if_pos hm)
  have e2 : xs = xs.take m ++ xs.getD m 0 :: xs.drop (m + 1) := by
    rw [List.getD_eq_getElem?_getD, List.getElem?_eq_getElem hm]
    simp
  have hg := nth_range xs hr m
  have := sum_differs (xs.take m) (xs.drop (m + 1)) u (xs.getD m 0) (fun b hb => hr b (List.mem_of_mem_take hb)) (fun b hb => hr b (List.mem_of_mem_drop hb)) hu hg hne
  rw [e1]
  intro h
  exact this (h.trans (congrArg crcSumI e2))

set_option maxHeartbeats 4000000 in
theorem walk (a0 : Option Addr) (len0 cap0 : Nat) (x0 : List Int) (a1 : Int) (w : World) (w0 : IsBytes w a0 len0 cap0 x0) (w1 : (Lit.int .i64 a1).wf = true) :
    Calls Try.prog 6 #[.slice a0 len0 cap0, .int .i64 a1] w fun e w' => e = .returned (.bool true) ∧ Below w.heap.size w w' := by
  have H0 := hide w0
  obtain ⟨n1, n2⟩ := wf_i64 w1
  have hm0 : (len0 : Int) ≤ 9223372036854775807 := by have := w0.2.1; have := w0.2.2.1; unfold maxLen at this; omega
  clear w0 w1
  by_cases g0 : (300 : Int) < (len0 : Int)
  · go_enter Try.func6, Try.ntmps6
    go_wp2_with (go_at_call 7; refine (crcawake_any _).mono ?_; rintro e wa ⟨rfl, hba⟩)
    go_ret
    exact ⟨rfl, hba⟩
  · by_cases g1 : a1 < 0
    · go_enter Try.func6, Try.ntmps6
      go_wp2_with (go_at_call 7; refine (crcawake_any _).mono ?_; rintro e wa ⟨rfl, hba⟩)
      go_ret
      exact ⟨rfl, hba⟩
    · by_cases g2 : 8 * (len0 : Int) ≤ a1
      · go_enter Try.func6, Try.ntmps6
        go_wp2_with (go_at_call 7; refine (crcawake_any _).mono ?_; rintro e wa ⟨rfl, hba⟩)
        go_ret
        exact ⟨rfl, hba⟩
      · obtain ⟨i, rfl⟩ := Int.eq_ofNat_of_zero_le (show 0 ≤ a1 by omega)
        have hml : i / 8 < len0 := by omega
        have hj : i % 8 < 8 := by omega
        have HL := hide H0.out.1
        have hmx : i / 8 < x0.length := by rw [HL.out]; exact hml
        obtain ⟨r1, r2⟩ := H0.out.nth (i / 8)
        obtain ⟨hu, hne⟩ := bit_turned (x0.getD (i / 8) 0) (i % 8) ⟨r1, r2⟩ hj
        have HS := hide (sum_set x0 (i / 8) _ hmx H0.out.2.2.2.1 hu hne)
        have HZ : Hid ((crcSumI (x0.set (i / 8) (bits .xor .u8 (x0.getD (i / 8) 0) (2 ^ (i % 8) % 256))) != crcSumI x0) = true) := bne_iff_ne.2 HS.out
        have HU : Hid (∀ b ∈ x0.set (i / 8) (bits .xor .u8 (x0.getD (i / 8) 0) (2 ^ (i % 8) % 256)), 0 ≤ b ∧ b < 256) := fun b hb => by
          rcases List.mem_or_eq_of_mem_set hb with hb | rfl
          · exact H0.out.2.2.2.1 b hb
          · exact hu
        obtain ⟨c, hcc⟩ : ∃ c, x0.getD (i / 8) 0 = c := ⟨_, rfl⟩
        rw [hcc] at r1 r2 hu hne HS HU HZ
        have HC := hide hcc
        clear hcc
        have HMX := hide hmx
        have HR := hide H0.out.2.2.2.1
        have HL0 : Hid (x0.length ≤ 300) := by show _ ≤ _; have := HL.out; omega
        clear hu hne hmx
        go_enter Try.func6, Try.ntmps6
        go_wp2_with (first
          | (go_at_call 7; refine (crcawake_any _).mono ?_; rintro e wa ⟨rfl, hba⟩; have hsz := hba.size; have H0a := hide (H0.out.keep hba))
          | (at_builtin; go_must (refine wp_joinB _ rfl _ (.tmp 22) rfl wa.heap.size _ [] rfl (ownB_nil _ _) a0 len0 cap0 x0 rfl H0a.out.src (by have := HL0.out; simp; omega) (Nat.le_refl _) ?_); intro v3 w3 hown3 hg3 hat3; have hb3 := (ownB_nil wa wa.heap.size).grown hg3 (Nat.le_refl _); rw [List.nil_append] at hown3; obtain ⟨g3, c3, rfl, hg3a, hg3b, hc3, hmax3⟩ := hown3.row HL.out (by omega); obtain ⟨hcell3, hfr3, -, -⟩ := ownB_cell hown3 (i / 8) HMX.out; rw [HC.out] at hcell3; have HO3 := hide hown3; have HO4 := hide (fun u => ownB_set HL.out hown3 (i / 8) u); have hsz3 := hb3.size; clear hown3 hg3 hat3; unfold maxLen at hmax3)
          | (go_at_call_of 10 c3; refine (sum_any _ _ _ _ _ ((HO4.out _).isAt HU.out)).mono ?_; rintro e w' ⟨rfl, hw⟩; have hw := hw.symm; subst hw)
          | (go_at_call 10; refine (sum_any a0 len0 cap0 x0 _ (H0.out.keep (hba.trans ((hb3.setCell (p := ⟨g3, i / 8, none⟩) hg3a _).mono hsz)))).mono ?_; rintro e w' ⟨rfl, hw⟩; have hw := hw.symm; subst hw))
        go_ret
        exact ⟨retB HZ.out, (hba.trans ((hb3.setCell (p := ⟨g3, i / 8, none⟩) hg3a _).mono hsz))⟩

set_option maxRecDepth 100000 in
theorem lifted (os : Os) (started : os.Started) (H : Type) (enc : TypeId × Value → H) :
    ReturnsInHanded {} Try.checked os 6 .any (Rows.crcBitsSpec.pre6 enc Try.prog Try.f6 Rows.crcBitsRow.domain false) (Rows.crcBitsSpec.post enc Try.prog Try.f6 false true false false) := by
  refine returnsInHanded_of_change (C := Try.checked) own started (by kernel_rfl) Try.func6
    (ChangeSpec.witness6 (enc := enc) (C := Try.checked) false ⟨#[], #[.slice none 0 0, .int .i64 0], []⟩ 8 (by kernel_rfl) (by kernel_rfl) (by kernel_rfl) (by kernel_rfl)) ?_
  intro W base args ds gs before hval0 hW hcnd _
  have hval : ∀ (j : Nat) t v, Try.f6.params[j]? = some t → args[j]? = some v → Value.okWide Try.prog W .any base t v := hval0
  have hW' := hW
  obtain ⟨p, q, hA0, hV, rfl, hfz, hnd⟩ := hW
  have hA : DataW.TrodAll enc Try.prog W 0 (fun _ => true) true Try.f6.params.toList args.toList ds p := hA0
  rw [Try.params6] at hA hval
  obtain ⟨v0, vs0, d0, ds0, p0, q0, hargs, rfl, rfl, h0, r0⟩ := trodAll_cons hA
  obtain ⟨v1, vs1, d1, ds1, p1, q1, rfl, rfl, rfl, h1, r1⟩ := trodAll_cons r0
  obtain ⟨rfl, rfl, rfl⟩ := trodAll_nil r1
  obtain rfl : args = #[v0, v1] := by cases args; simp_all
  obtain ⟨rfl, rfl⟩ := trodVars_none hV
  obtain ⟨a0, len0, cap0, rfl⟩ := okWide_slice Try.underlying23 (hval 0 23 v0 rfl rfl)
  have k0 := h0
  have lt0 : ∀ x ∈ p0, x.block < W.heap.size := by obtain ⟨m, hm⟩ := k0; exact DataW.trod_lt m _ _ _ hm
  obtain ⟨x0, w0⟩ : ∃ xs, IsBytes W a0 len0 cap0 xs := by
    obtain ⟨fuel, hf⟩ := h0
    exact open_bytes (by simpa [Value.cells] using hf)
  have k1 := h1
  have lt1 : ∀ x ∈ p1, x.block < W.heap.size := by obtain ⟨m, hm⟩ := k1; exact DataW.trod_lt m _ _ _ hm
  obtain ⟨a1, rfl, w1⟩ : ∃ n, v1 = .int .i64 n ∧ (Lit.int .i64 n).wf = true := by
    obtain ⟨n, hn, _, _, hw⟩ := open_int Try.underlying3 (hval 1 3 v1 rfl rfl) h1
    exact ⟨n, hn, hw⟩
  clear hA0 hval0
  refine (walk a0 len0 cap0 x0 a1 W w0 w1).mono fun e W' ⟨he, bel⟩ => ?_
  subst he
  exact ⟨_, rfl, _, _, _, [], _, [], hW', trodAll_mk1 (shut_bool Try.underlying4 _), (trodAll_cons_mk (Below.trod laidOut (by kernel_rfl) (of_decide_eq_true (by kernel_rfl)) k0 bel lt0) (trodAll_cons_mk (Below.trod laidOut (by kernel_rfl) (of_decide_eq_true (by kernel_rfl)) k1 bel lt1) trodAll_mk0)), rfl, bel.frame _, fun h => by cases h⟩

theorem over : Rows.crcBitsRow.holds Try.pinned (OpenSpec.ofChange Rows.crcBitsSpec) :=
  OpenClaim.holds_of_wide 6 Try.f6 rfl rfl rfl rfl rfl rfl rfl ⟨rfl, rfl, rfl, rfl, rfl⟩ rfl rfl rfl rfl rfl (by kernel_rfl) Try.func6 (by kernel_rfl)
    (of_decide_eq_true (by kernel_rfl)) (by unfold Func.isWrapper; first | (rw [if_pos (by decide +kernel)]; kernel_rfl) | (rw [if_neg (by decide +kernel)]; exact ⟨rfl, rfl⟩))
    (fun os started H enc _ => lifted os started H enc)

theorem proved : Rows.CrcBitsSaid := over
end Go.Proofs.Ytladpbikahaejaa.crcBits
namespace Go.Proofs.Ytladpbikahaejaa
theorem crcBits_holds : Rows.CrcBitsSaid := crcBits.proved
#print axioms crcBits_holds
end Go.Proofs.Ytladpbikahaejaa
