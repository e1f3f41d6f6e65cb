/- For any bytes a, b and noise and any int keep plenumlaw06.DiskKeeps returns true (of more than 300 bytes the law itself asks nothing): behind a crash what was synced is there as it was, and of the rest no more than there was; without noise just the first keep bytes of it; what was handed in is left as it was. No condition. -/
import Derived.Test.YtgoojljbilphkaaRows
import Derived.WalkKit
import Derived.ProofKit
import Derived.OpenShut
import Derived.ShutString
import Derived.ChangeOld
import Derived.Below
import Derived.Test.YtgoojljbilphkaaDkAwake
import Derived.Deep.RegionHeld
import Derived.BigRegion
namespace Go.Proofs.Ytgoojljbilphkaa.diskKeeps
open Go.ChangeShapes Go.WideShapes Go.ChangeAt Go.RowKit
open Go.ChangeMaps (open_string shut_string)
set_option linter.unusedVariables false

theorem own : ownKnob Try.prog.godebug = none := by kernel_rfl
theorem laidOut : laidOutB Try.prog = true := by kernel_rfl

open NumMath

theorem keeps_all (x0 x1 x3 : List Int) (keep : Int) (len0 : Nat) (h0 : x0.length = len0) : ∃ ys, crashL (x0 ++ x1) len0 keep x3 = x0 ++ ys ∧ ys.length ≤ x1.length ∧ (x3 = [] → ys = x1.take keep.toNat) ∧ ∀ c ∈ ys, c ∈ x1 ∨ c ∈ x3 := by
  subst h0
  refine ⟨x1.take keep.toNat ++ x3.take (x1.length - keep.toNat), ?_, ?_, ?_, ?_⟩
  · unfold crashL
    rw [List.take_length_add_append, List.append_assoc, List.length_append, Nat.add_sub_cancel_left]
  · simp; omega
  · rintro rfl
    simp
  · intro c hc
    rcases List.mem_append.1 hc with h | h
    · exact .inl (List.mem_of_mem_take h)
    · exact .inr (List.mem_of_mem_take h)

set_option maxRecDepth 4000 in
set_option maxHeartbeats 4000000 in
theorem walk (a0 : Option Addr) (len0 cap0 : Nat) (x0 : List Int) (a1 : Option Addr) (len1 cap1 : Nat) (x1 : List Int) (a2 : Int) (a3 : Option Addr) (len3 cap3 : Nat) (x3 : List Int) (w : World) (w0 : IsBytes w a0 len0 cap0 x0) (w1 : IsBytes w a1 len1 cap1 x1) (w2 : (Lit.int .i64 a2).wf = true) (w3 : IsBytes w a3 len3 cap3 x3) :
    Calls Try.prog 4 #[.slice a0 len0 cap0, .slice a1 len1 cap1, .int .i64 a2, .slice a3 len3 cap3] w fun e w' => e = .returned (.bool true) ∧ Below w.heap.size w w' := by
  have H0 := hide w0
  have H1 := hide w1
  have H3 := hide w3
  have hm0 : (len0 : Int) ≤ 9223372036854775807 := by have := w0.2.1; have := w0.2.2.1; unfold maxLen at this; omega
  have hm1 : (len1 : Int) ≤ 9223372036854775807 := by have := w1.2.1; have := w1.2.2.1; unfold maxLen at this; omega
  have hm3 : (len3 : Int) ≤ 9223372036854775807 := by have := w3.2.1; have := w3.2.2.1; unfold maxLen at this; omega
  obtain ⟨n1, n2⟩ := wf_i64 w2
  clear w0 w1 w2 w3
  by_cases g0 : (300 : Int) < (len0 : Int)
  · go_enter Try.func4, Try.ntmps4
    go_wp2_with (first
      | (go_at_call 7; refine (dkawake_any _).mono ?_; rintro e wa ⟨rfl, hba⟩))
    go_ret
    exact ⟨rfl, hba⟩
  by_cases g1 : (300 : Int) < (len1 : Int)
  · go_enter Try.func4, Try.ntmps4
    go_wp2_with (first
      | (go_at_call 7; refine (dkawake_any _).mono ?_; rintro e wa ⟨rfl, hba⟩))
    go_ret
    exact ⟨rfl, hba⟩
  by_cases g3 : (300 : Int) < (len3 : Int)
  · go_enter Try.func4, Try.ntmps4
    go_wp2_with (first
      | (go_at_call 7; refine (dkawake_any _).mono ?_; rintro e wa ⟨rfl, hba⟩))
    go_ret
    exact ⟨rfl, hba⟩
  have HL0 := hide H0.out.1
  have HL1 := hide H1.out.1
  have HL3 := hide H3.out.1
  have E1 : Hid (dapp 1000 [] x0 = (0, x0)) := by show _ = _; unfold dapp; rw [if_neg (by simp only [List.length_nil, HL0.out]; omega), List.nil_append]
  have E2 : Hid (dapp 1000 x0 x1 = (0, x0 ++ x1)) := by show _ = _; unfold dapp; rw [if_neg (by rw [HL0.out, HL1.out]; omega)]
  have HL01 : Hid ((x0 ++ x1).length ≤ 600) := by show _ ≤ _; rw [List.length_append, HL0.out, HL1.out]; omega
  obtain ⟨ys, hys, hyl, hyn, hyr⟩ := keeps_all x0 x1 x3 a2 len0 HL0.out
  have HY := hide hys
  have HYN := hide hyn
  obtain ⟨n6, hn6⟩ : ∃ n6, (x0 ++ ys).length = n6 := ⟨_, rfl⟩
  have HN6 := hide hn6
  have hn6' : n6 = len0 + ys.length := by rw [← hn6, List.length_append, HL0.out]
  rw [HL1.out] at hyl
  have HR : Hid (∀ c ∈ x0 ++ ys, 0 ≤ c ∧ c < 256) := by
    intro c hc
    rcases List.mem_append.1 hc with h | h
    · exact H0.out.2.2.2.1 c h
    · rcases hyr c h with h | h
      · exact H1.out.2.2.2.1 c h
      · exact H3.out.2.2.2.1 c h
  have t1 : decide ((n6 : Int) < (len0 : Int)) = false := by simp; omega
  have t2 : decide ((len0 : Int) + (len1 : Int) < (n6 : Int)) = false := by simp; omega
  have t3 : decide (n6 < len0) = false := by simp; omega
  have t4 : decide (len0 + len1 < n6) = false := by simp; omega
  have tw := wrap_nat ((len0 : Int) + len1) (len0 + len1) rfl (by omega)
  have tk := kwrap_i64 ((len0 : Int) + len1) (by omega) (by omega)
  have hq0 : len0 ≤ n6 := by omega
  have HQ0 := hide hq0
  have HQ6 : Hid (n6 ≤ 600) := by show _ ≤ _; omega
  clear hys hyl hyn hyr hn6 hn6' n1 n2 tw
  go_enter Try.func4, Try.ntmps4
  go_wp2_with (first
    | (go_at_call 20; refine (dbytes_any wa.heap.size wa.heap.size 1000 (x0 ++ ys) (x0 ++ ys).length _ HD5.out (by rw [HN6.out]; have := HQ6.out; omega)).mono ?_; rintro e w6 ⟨v6, rfl, hown6, hb6⟩; obtain ⟨a6, m6, c6, rfl, hi6⟩ := hown6.at HR.out; have e6 : n6 = m6 := HN6.out.symm.trans hi6.1; subst e6; have HI6 := hide hi6; have hb6' := hb5.trans (hb6.mono hb5.size); have HD6 := hide (HD5.out.keep hb6); clear hown6 hb6 hi6)
    | (go_at_call 18; refine (dcrash_any wa.heap.size wa.heap.size 1000 (x0 ++ x1) len0 a2 a3 len3 cap3 x3 _ HD4.out (H3.out.keep hb4).src (by omega) (by have := HL01.out; omega) (by rw [List.length_append, HL0.out]; omega)).mono ?_; rw [HY.out]; rintro e w5 ⟨rfl, hd5, hp5⟩; have HD5 := hide hd5; have hb5 := hb4.trans ((HD4.out.below hp5 hs4).mono hba.size); clear hd5 hp5)
    | (go_at_call 10; refine (dapp_any wa.heap.size wa.heap.size 1000 x0 len0 a1 len1 cap1 x1 _ HD3.out (H1.out.keep hb3).src (by decide) (by rw [HL0.out]; omega) (by omega) hs3).mono ?_; rw [E2.out]; rintro e w4 ⟨rfl, hd4, hp4⟩; have HD4 := hide hd4; have hb4 := hb3.trans ((HD3.out.below hp4 hs3).mono hba.size); have hs4 := Nat.le_trans hs3 hp4.size; clear hd4 hp4)
    | (go_at_call 12; refine (dsync_any wa.heap.size wa.heap.size 1000 x0 0 _ HD2.out (by rw [HL0.out]; omega)).mono ?_; rw [HL0.out]; rintro e w3 ⟨rfl, hd3, hp3⟩; have HD3 := hide hd3; have hb3 := hb2.trans ((HD2.out.below hp3 hs2).mono hba.size); have hs3 := Nat.le_trans hs2 hp3.size; clear hd3 hp3)
    | (go_at_call 10; refine (dapp_any wa.heap.size wa.heap.size 1000 [] 0 a0 len0 cap0 x0 _ HD1.out (H0.out.keep hb1).src (by decide) (by decide) (by omega) hs1).mono ?_; rw [E1.out]; rintro e w2 ⟨rfl, hd2, hp2⟩; have HD2 := hide hd2; have hb2 := hb1.trans ((HD1.out.below hp2 hs1).mono hba.size); have hs2 := Nat.le_trans hs1 hp2.size; clear hd2 hp2)
    | (go_at_call 8; refine (dnew_any 1000 _).mono ?_; rintro e w1 ⟨rfl, hd1, hb1⟩; have HD1 : Hid (IsD w1 wa.heap.size wa.heap.size 1000 [] 0) := hd1; have hs1 := hb1.size; have hb1 := hba.trans (hb1.mono hba.size); clear hd1)
    | (go_at_call 7; refine (dkawake_any _).mono ?_; rintro e wa ⟨rfl, hba⟩))
  rw [HN6.out] at HD6
  obtain ⟨b7, hcut7, hi7⟩ := isB_cutTo HI6.out len0 HQ0.out .i64 (len0 : Int) rfl
  rw [List.take_left' HL0.out] at hi7
  have q7 := (show IsBytes w6.drew b7 len0 c6 x0 from hi7).conv
  have q8 := (show IsBytes w6.drew a0 len0 cap0 x0 from H0.out.keep hb6'.drew).conv
  clear hi7
  go_region_held (fun _ => True) (trivial) (first
    | (go_at_call 21; refine (dsynced_any wa.heap.size wa.heap.size 1000 (x0 ++ ys) n6 _ HD6.out.drew).mono ?_; rintro e w' ⟨rfl, hw⟩; have hw := hw.symm; subst hw))
  all_goals
    go_wp2
    by_cases h3 : len3 = 0
    · subst h3
      have hx3 : x3 = [] := List.length_eq_zero_iff.1 HL3.out
      have hy := HYN.out hx3
      obtain ⟨k8, hk8⟩ : ∃ k8, len0 + k8 = n6 := ⟨n6 - len0, by have := HQ0.out; omega⟩
      obtain ⟨d8, hd8⟩ : ∃ d8, len0 + d8 = c6 := ⟨c6 - len0, by have := HQ0.out; have := HI6.out.2.1; omega⟩
      obtain ⟨b8, hcut8, hi8⟩ := isB_cutFrom HI6.out len0 k8 d8 hk8 hd8 .i64 (len0 : Int) rfl
      rw [List.drop_left' HL0.out, hy] at hi8
      have q9 := (show IsBytes w6.drew.drew b8 k8 d8 _ from hi8).conv
      clear hi8 hk8 hd8 hy hx3 q7 q8 hcut7 t1 t2 t3 t4 tk HYN
      by_cases hneg : a2 < 0
      · have hmin : ¬ (len1 : Int) < a2 := by omega
        rw [Int.toNat_of_nonpos (Int.le_of_lt hneg), List.take_zero] at q9
        have q10 := conv_none w6.drew.drew a1 cap1
        have e0 : (strB []).toList.isEmpty = true := by decide +kernel
        go_region
        all_goals
          go_wp2
          go_ret
          exact ⟨rfl, hb6'.drew.drew⟩
      · by_cases hgt : (len1 : Int) < a2
        · rw [List.take_of_length_le (by rw [HL1.out]; omega)] at q9
          obtain ⟨b10, hcut10, hi10⟩ := isB_cutTo (H1.out.keep hb6'.drew.drew) len1 (Nat.le_refl _) .i64 (len1 : Int) rfl
          rw [List.take_of_length_le (by rw [HL1.out]; omega)] at hi10
          have q10 := hi10.conv
          clear hi10
          go_region
          all_goals
            go_wp2
            go_ret
            exact ⟨rfl, hb6'.drew.drew⟩
        · obtain ⟨K, rfl⟩ := Int.eq_ofNat_of_zero_le (show 0 ≤ a2 by omega)
          rw [Int.toNat_natCast] at q9
          obtain ⟨b10, hcut10, hi10⟩ := isB_cutTo (H1.out.keep hb6'.drew.drew) K (by omega) .i64 (K : Int) rfl
          have q10 := hi10.conv
          clear hi10
          go_region
          all_goals
            go_wp2
            go_ret
            exact ⟨rfl, hb6'.drew.drew⟩
    · have h3' : decide ((0 : Int) < (len3 : Int)) = true := by simp; omega
      have h3'' : decide (0 < len3) = true := by simp; omega
      go_region
      all_goals
        go_wp2
        go_ret
        exact ⟨rfl, hb6'.drew.drew⟩

set_option maxRecDepth 100000 in
theorem lifted (os : Os) (started : os.Started) (H : Type) (enc : TypeId × Value → H) :
    ReturnsInHanded {} Try.checked os 4 .any (Rows.diskKeepsSpec.pre6 enc Try.prog Try.f4 Rows.diskKeepsRow.domain false) (Rows.diskKeepsSpec.post enc Try.prog Try.f4 false true false false) := by
  refine returnsInHanded_of_change (C := Try.checked) own started (by kernel_rfl) Try.func4
    (ChangeSpec.witness6 (enc := enc) (C := Try.checked) false ⟨#[], #[.slice none 0 0, .slice none 0 0, .int .i64 0, .slice none 0 0], []⟩ 8 (by kernel_rfl) (by kernel_rfl) (by kernel_rfl) (by kernel_rfl)) ?_
  intro W base args ds gs before hval0 hW hcnd _
  have hval : ∀ (j : Nat) t v, Try.f4.params[j]? = some t → args[j]? = some v → Value.okWide Try.prog W .any base t v := hval0
  have hW' := hW
  obtain ⟨p, q, hA0, hV, rfl, hfz, hnd⟩ := hW
  have hA : DataW.TrodAll enc Try.prog W 0 (fun _ => true) true Try.f4.params.toList args.toList ds p := hA0
  rw [Try.params4] at hA hval
  obtain ⟨v0, vs0, d0, ds0, p0, q0, hargs, rfl, rfl, h0, r0⟩ := trodAll_cons hA
  obtain ⟨v1, vs1, d1, ds1, p1, q1, rfl, rfl, rfl, h1, r1⟩ := trodAll_cons r0
  obtain ⟨v2, vs2, d2, ds2, p2, q2, rfl, rfl, rfl, h2, r2⟩ := trodAll_cons r1
  obtain ⟨v3, vs3, d3, ds3, p3, q3, rfl, rfl, rfl, h3, r3⟩ := trodAll_cons r2
  obtain ⟨rfl, rfl, rfl⟩ := trodAll_nil r3
  obtain rfl : args = #[v0, v1, v2, v3] := by cases args; simp_all
  obtain ⟨rfl, rfl⟩ := trodVars_none hV
  obtain ⟨a0, len0, cap0, rfl⟩ := okWide_slice Try.underlying28 (hval 0 28 v0 rfl rfl)
  have k0 := h0
  have lt0 : ∀ x ∈ p0, x.block < W.heap.size := by obtain ⟨m, hm⟩ := k0; exact DataW.trod_lt m _ _ _ hm
  obtain ⟨x0, w0⟩ : ∃ xs, IsBytes W a0 len0 cap0 xs := by
    obtain ⟨fuel, hf⟩ := h0
    exact open_bytes (by simpa [Value.cells] using hf)
  obtain ⟨a1, len1, cap1, rfl⟩ := okWide_slice Try.underlying28 (hval 1 28 v1 rfl rfl)
  have k1 := h1
  have lt1 : ∀ x ∈ p1, x.block < W.heap.size := by obtain ⟨m, hm⟩ := k1; exact DataW.trod_lt m _ _ _ hm
  obtain ⟨x1, w1⟩ : ∃ xs, IsBytes W a1 len1 cap1 xs := by
    obtain ⟨fuel, hf⟩ := h1
    exact open_bytes (by simpa [Value.cells] using hf)
  have k2 := h2
  have lt2 : ∀ x ∈ p2, x.block < W.heap.size := by obtain ⟨m, hm⟩ := k2; exact DataW.trod_lt m _ _ _ hm
  obtain ⟨a2, rfl, w2⟩ : ∃ n, v2 = .int .i64 n ∧ (Lit.int .i64 n).wf = true := by
    obtain ⟨n, hn, _, _, hw⟩ := open_int Try.underlying3 (hval 2 3 v2 rfl rfl) h2
    exact ⟨n, hn, hw⟩
  obtain ⟨a3, len3, cap3, rfl⟩ := okWide_slice Try.underlying28 (hval 3 28 v3 rfl rfl)
  have k3 := h3
  have lt3 : ∀ x ∈ p3, x.block < W.heap.size := by obtain ⟨m, hm⟩ := k3; exact DataW.trod_lt m _ _ _ hm
  obtain ⟨x3, w3⟩ : ∃ xs, IsBytes W a3 len3 cap3 xs := by
    obtain ⟨fuel, hf⟩ := h3
    exact open_bytes (by simpa [Value.cells] using hf)
  clear hA0 hval0
  refine (walk a0 len0 cap0 x0 a1 len1 cap1 x1 a2 a3 len3 cap3 x3 W w0 w1 w2 w3).mono fun e W' ⟨he, bel⟩ => ?_
  subst he
  exact ⟨_, rfl, _, _, _, [], _, [], hW', trodAll_mk1 (shut_bool Try.underlying4 _), (trodAll_cons_mk (Below.trod laidOut (by kernel_rfl) (of_decide_eq_true (by kernel_rfl)) k0 bel lt0) (trodAll_cons_mk (Below.trod laidOut (by kernel_rfl) (of_decide_eq_true (by kernel_rfl)) k1 bel lt1) (trodAll_cons_mk (Below.trod laidOut (by kernel_rfl) (of_decide_eq_true (by kernel_rfl)) k2 bel lt2) (trodAll_cons_mk (Below.trod laidOut (by kernel_rfl) (of_decide_eq_true (by kernel_rfl)) k3 bel lt3) trodAll_mk0)))), rfl, bel.frame _, fun h => by cases h⟩

theorem over : Rows.diskKeepsRow.holds Try.pinned (OpenSpec.ofChange Rows.diskKeepsSpec) :=
  OpenClaim.holds_of_wide 4 Try.f4 rfl rfl rfl rfl rfl rfl rfl ⟨rfl, rfl, rfl, rfl, rfl⟩ rfl rfl rfl rfl rfl (by kernel_rfl) Try.func4 (by kernel_rfl)
    (of_decide_eq_true (by kernel_rfl)) (by unfold Func.isWrapper; first | (rw [if_pos (by decide +kernel)]; kernel_rfl) | (rw [if_neg (by decide +kernel)]; exact ⟨rfl, rfl⟩))
    (fun os started H enc _ => lifted os started H enc)

theorem proved : Rows.DiskKeepsSaid := over
end Go.Proofs.Ytgoojljbilphkaa.diskKeeps
namespace Go.Proofs.Ytgoojljbilphkaa
theorem diskKeeps_holds : Rows.DiskKeepsSaid := diskKeeps.proved
#print axioms diskKeeps_holds
end Go.Proofs.Ytgoojljbilphkaa
