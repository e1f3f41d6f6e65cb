/- RaftCommits: for every id, hard state, snapshot, entries and inputs plenumlaw09.RaftCommits returns true (of inputs, a snapshot or entries that are not small, and of a snapshot's Index above 2^40, the law itself asks nothing): whatever a node is given, no entry up to what it has committed changes, as long as it has it. What was handed in is left as it was. No condition. -/
import Derived.Test.YtodmieehdleohaaGreatRows
import Derived.WalkKit
import Derived.ProofKit
import Derived.OpenShut
import Derived.ShutString
import Derived.ChangeOld
import Derived.Below
import Derived.Test.YtodmieehdleohaaGreatRq9
namespace Go.Proofs.YtodmieehdleohaaGreat.raftCommits
open Go.ChangeShapes Go.WideShapes Go.ChangeAt Go.RowKit
open Go.ChangeMaps (open_string shut_string)
set_option linter.unusedVariables false

theorem own : ownKnob Tryz.prog.godebug = none := by kernel_rfl
theorem laidOut : laidOutB Tryz.prog = true := by kernel_rfl

open NumMath

theorem walk (a0 : Int) (t1 v1 : Int) (i2 t2 : Int) (ma2 : Option Addr) (mn2 mc2 : Nat) (m2 : List Int) (da2 : Option Addr) (dn2 dc2 : Nat) (d2 : List Int) (a3 : Option Addr) (len3 cap3 : Nat) (x3 : List MEnt) (a4 : Option Addr) (len4 cap4 : Nat) (x4 : List MInp) (w : World) (w0 : (Lit.int .u64 a0).wf = true) (w1 : (0 ≤ t1 ∧ t1 ≤ 18446744073709551615) ∧ (0 ≤ v1 ∧ v1 ≤ 18446744073709551615)) (w2 : IsSnap w i2 t2 ma2 mn2 mc2 m2 da2 dn2 dc2 d2) (w3 : IsMs (fun _ => False) w a3 len3 cap3 x3) (w4 : IsInps w a4 len4 cap4 x4) :
    Calls Tryz.prog 6 #[.int .u64 a0, .agg #[.int .u64 t1, .int .u64 v1], .agg #[.int .u64 i2, .int .u64 t2, .slice ma2 mn2 mc2, .slice da2 dn2 dc2], .slice a3 len3 cap3, .slice a4 len4 cap4] w fun e w' => e = .returned (.bool true) ∧ Below w.heap.size w w' := by
  have hid : U64 a0 := wf_u64n w0
  by_cases gS : (mn2 : Int) ≤ 9 ∧ (dn2 : Int) ≤ 200
  · by_cases gE : SmallM len3 x3
    · cases gI : decide (1099511627776 < i2) with
      | true => exact rq_d a0 t1 v1 i2 t2 ma2 mn2 mc2 m2 da2 dn2 dc2 d2 a3 len3 cap3 x3 a4 len4 cap4 x4 w hid w1 w2 w3 w4 gS gE gI
      | false => exact rq_main a0 t1 v1 i2 t2 ma2 mn2 mc2 m2 da2 dn2 dc2 d2 a3 len3 cap3 x3 a4 len4 cap4 x4 w hid w1 w2 w3 w4 gS gE gI
    · exact rq_b a0 t1 v1 i2 t2 ma2 mn2 mc2 m2 da2 dn2 dc2 d2 a3 len3 cap3 x3 a4 len4 cap4 x4 w hid w1 w2 w3 w4 gS gE
  · exact rq_a a0 t1 v1 i2 t2 ma2 mn2 mc2 m2 da2 dn2 dc2 d2 a3 len3 cap3 x3 a4 len4 cap4 x4 w hid w1 w2 w3 w4 gS

set_option maxRecDepth 100000 in
theorem lifted (os : Os) (started : os.Started) (H : Type) (enc : TypeId × Value → H) :
    ReturnsInHanded {} Tryz.checked os 6 .any (Rows.raftCommitsSpec.pre6 enc Tryz.prog Tryz.f6 Rows.raftCommitsRow.domain false) (Rows.raftCommitsSpec.post enc Tryz.prog Tryz.f6 false true false false) := by
  refine returnsInHanded_of_change (C := Tryz.checked) own started (by kernel_rfl) Tryz.func6
    (ChangeSpec.witness6 (enc := enc) (C := Tryz.checked) false ⟨#[], #[.int .u64 0, .agg #[.int .u64 0, .int .u64 0], .agg #[.int .u64 0, .int .u64 0, .slice none 0 0, .slice none 0 0], .slice none 0 0, .slice none 0 0], []⟩ 8 (by kernel_rfl) (by kernel_rfl) (by kernel_rfl) (by kernel_rfl)) ?_
  intro W base args ds gs before hval0 hW hcnd _
  have hval : ∀ (j : Nat) t v, Tryz.f6.params[j]? = some t → args[j]? = some v → Value.okWide Tryz.prog W .any base t v := hval0
  have hW' := hW
  obtain ⟨p, q, hA0, hV, rfl, hfz, hnd⟩ := hW
  have hA : DataW.TrodAll enc Tryz.prog W 0 (fun _ => true) true Tryz.f6.params.toList args.toList ds p := hA0
  rw [Tryz.params6] at hA hval
  obtain ⟨v0, vs0, d0, ds0, p0, q0, hargs, rfl, rfl, h0, r0⟩ := trodAll_cons hA
  obtain ⟨v1, vs1, d1, ds1, p1, q1, rfl, rfl, rfl, h1, r1⟩ := trodAll_cons r0
  obtain ⟨v2, vs2, d2, ds2, p2, q2, rfl, rfl, rfl, h2, r2⟩ := trodAll_cons r1
  obtain ⟨v3, vs3, d3, ds3, p3, q3, rfl, rfl, rfl, h3, r3⟩ := trodAll_cons r2
  obtain ⟨v4, vs4, d4, ds4, p4, q4, rfl, rfl, rfl, h4, r4⟩ := trodAll_cons r3
  obtain ⟨rfl, rfl, rfl⟩ := trodAll_nil r4
  obtain rfl : args = #[v0, v1, v2, v3, v4] := by cases args; simp_all
  obtain ⟨rfl, rfl⟩ := trodVars_none hV
  have k0 := h0
  have lt0 : ∀ x ∈ p0, x.block < W.heap.size := by obtain ⟨m, hm⟩ := k0; exact DataW.trod_lt m _ _ _ hm
  obtain ⟨a0, rfl, w0⟩ : ∃ n, v0 = .int .u64 n ∧ (Lit.int .u64 n).wf = true := by
    obtain ⟨n, hn, _, _, hw⟩ := open_int Tryz.underlying22 (hval 0 22 v0 rfl rfl) h0
    exact ⟨n, hn, hw⟩
  have k1 := h1
  have lt1 : ∀ x ∈ p1, x.block < W.heap.size := by obtain ⟨m, hm⟩ := k1; exact DataW.trod_lt m _ _ _ hm
  obtain ⟨cs1, rfl, hz1⟩ := okWide_struct Tryz.underlying24 (hval 1 24 v1 rfl rfl)
  obtain ⟨u10, u11, rfl⟩ := Go.Joins.array2 (hz1.trans (by kernel_rfl))
  obtain ⟨fuel1, hf1⟩ := h1
  obtain ⟨t1, v1, rfl, rfl, w1⟩ := open_hard (by simpa [Value.cells] using hf1)
  have k2 := h2
  have lt2 : ∀ x ∈ p2, x.block < W.heap.size := by obtain ⟨m, hm⟩ := k2; exact DataW.trod_lt m _ _ _ hm
  obtain ⟨cs2, rfl, hz2⟩ := okWide_struct Tryz.underlying28 (hval 2 28 v2 rfl rfl)
  obtain ⟨u20, u21, u22, u23, rfl⟩ := Go.Joins.array4 (hz2.trans (by kernel_rfl))
  obtain ⟨fuel2, hf2⟩ := h2
  obtain ⟨i2, t2, ma2, mn2, mc2, m2, da2, dn2, dc2, d2, rfl, rfl, rfl, rfl, w2⟩ := open_snap (by simpa [Value.cells] using hf2)
  obtain ⟨a3, len3, cap3, rfl⟩ := okWide_slice Tryz.underlying29 (hval 3 29 v3 rfl rfl)
  have k3 := h3
  have lt3 : ∀ x ∈ p3, x.block < W.heap.size := by obtain ⟨m, hm⟩ := k3; exact DataW.trod_lt m _ _ _ hm
  obtain ⟨x3, w3⟩ : ∃ xs, IsMs (fun _ => False) W a3 len3 cap3 xs := by
    obtain ⟨fuel, hf⟩ := h3
    exact open_ms (by simpa [Value.cells] using hf)
  obtain ⟨a4, len4, cap4, rfl⟩ := okWide_slice Tryz.underlying30 (hval 4 30 v4 rfl rfl)
  have k4 := h4
  have lt4 : ∀ x ∈ p4, x.block < W.heap.size := by obtain ⟨m, hm⟩ := k4; exact DataW.trod_lt m _ _ _ hm
  obtain ⟨x4, w4⟩ : ∃ xs, IsInps W a4 len4 cap4 xs := by
    obtain ⟨fuel, hf⟩ := h4
    exact open_inps (by simpa [Value.cells] using hf)
  clear hA0 hval0
  refine (walk a0 t1 v1 i2 t2 ma2 mn2 mc2 m2 da2 dn2 dc2 d2 a3 len3 cap3 x3 a4 len4 cap4 x4 W w0 w1 w2 w3 w4).mono fun e W' ⟨he, bel⟩ => ?_
  subst he
  exact ⟨_, rfl, _, _, _, [], _, [], hW', trodAll_mk1 (shut_bool Tryz.underlying4 _), (trodAll_cons_mk (Below.trod laidOut (by kernel_rfl) (of_decide_eq_true (by kernel_rfl)) k0 bel lt0) (trodAll_cons_mk (Below.trod laidOut (by kernel_rfl) (of_decide_eq_true (by kernel_rfl)) k1 bel lt1) (trodAll_cons_mk (Below.trod laidOut (by kernel_rfl) (of_decide_eq_true (by kernel_rfl)) k2 bel lt2) (trodAll_cons_mk (Below.trod laidOut (by kernel_rfl) (of_decide_eq_true (by kernel_rfl)) k3 bel lt3) (trodAll_cons_mk (Below.trod laidOut (by kernel_rfl) (of_decide_eq_true (by kernel_rfl)) k4 bel lt4) trodAll_mk0))))), rfl, bel.frame _, fun h => by cases h⟩

theorem over : Rows.raftCommitsRow.holds Tryz.pinned (OpenSpec.ofChange Rows.raftCommitsSpec) :=
  OpenClaim.holds_of_wide 6 Tryz.f6 rfl rfl rfl rfl rfl rfl rfl ⟨rfl, rfl, rfl, rfl, rfl⟩ rfl rfl rfl rfl rfl (by kernel_rfl) Tryz.func6 (by kernel_rfl)
    (of_decide_eq_true (by kernel_rfl)) (by unfold Func.isWrapper; first | (rw [if_pos (by decide +kernel)]; kernel_rfl) | (rw [if_neg (by decide +kernel)]; exact ⟨rfl, rfl⟩))
    (fun os started H enc _ => lifted os started H enc)

theorem proved : Rows.RaftCommitsSaid := over
end Go.Proofs.YtodmieehdleohaaGreat.raftCommits
namespace Go.Proofs.YtodmieehdleohaaGreat
theorem raftCommits_holds : Rows.RaftCommitsSaid := raftCommits.proved
#print axioms raftCommits_holds
end Go.Proofs.YtodmieehdleohaaGreat
