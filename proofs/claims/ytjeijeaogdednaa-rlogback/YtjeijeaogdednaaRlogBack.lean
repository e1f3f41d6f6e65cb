/- For any hard state, any snapshot and any list of entries plenumlaw08.RlogBack returns true (of a snapshot of more than 9 members or more than 200 bytes of data or an index above 2^61, of more than 12 entries or one with more than 100 bytes of data, of members that make no list of members, and of entries that cannot be appended the law itself asks nothing): what PutSnap, PutHard and PutEntry wrote, Replay makes the same hard state and the same log of; what was handed in is left as it was. No condition. -/
import Derived.Test.YtjeijeaogdednaaRows
import Derived.WalkKit
import Derived.ProofKit
import Derived.OpenShut
import Derived.ShutString
import Derived.ChangeOld
import Derived.Below
import Derived.Test.YtjeijeaogdednaaBk3
import Derived.Test.YtjeijeaogdednaaOpen8
namespace Go.Proofs.Ytjeijeaogdednaa.rlogBack
open Go.ChangeShapes Go.WideShapes Go.ChangeAt Go.RowKit
open Go.ChangeMaps (open_string shut_string)
set_option linter.unusedVariables false

theorem own : ownKnob Try.prog.godebug = none := by kernel_rfl
theorem laidOut : laidOutB Try.prog = true := by kernel_rfl

open NumMath

theorem walk (t0 v0 : Int) (i1 t1 : Int) (ma1 : Option Addr) (mn1 mc1 : Nat) (m1 : List Int) (da1 : Option Addr) (dn1 dc1 : Nat) (d1 : List Int) (a2 : Option Addr) (len2 cap2 : Nat) (x2 : List MEnt) (w : World) (w0 : (0 ≤ t0 ∧ t0 ≤ 18446744073709551615) ∧ (0 ≤ v0 ∧ v0 ≤ 18446744073709551615)) (w1 : IsSnap w i1 t1 ma1 mn1 mc1 m1 da1 dn1 dc1 d1) (w2 : IsMs (fun _ => False) w a2 len2 cap2 x2) :
    Calls Try.prog 6 #[.agg #[.int .u64 t0, .int .u64 v0], .agg #[.int .u64 i1, .int .u64 t1, .slice ma1 mn1 mc1, .slice da1 dn1 dc1], .slice a2 len2 cap2] w fun e w' => e = .returned (.bool true) ∧ Below w.heap.size w w' := by
  exact rlback_any t0 v0 i1 t1 ma1 mn1 mc1 m1 da1 dn1 dc1 d1 a2 len2 cap2 x2 w w0 w1 w2

set_option maxRecDepth 100000 in
theorem lifted (os : Os) (started : os.Started) (H : Type) (enc : TypeId × Value → H) :
    ReturnsInHanded {} Try.checked os 6 .any (Rows.rlogBackSpec.pre6 enc Try.prog Try.f6 Rows.rlogBackRow.domain false) (Rows.rlogBackSpec.post enc Try.prog Try.f6 false true false false) := by
  refine returnsInHanded_of_change (C := Try.checked) own started (by kernel_rfl) Try.func6
    (ChangeSpec.witness6 (enc := enc) (C := Try.checked) false ⟨#[], #[.agg #[.int .u64 0, .int .u64 0], .agg #[.int .u64 0, .int .u64 0, .slice none 0 0, .slice none 0 0], .slice none 0 0], []⟩ 8 (by kernel_rfl) (by kernel_rfl) (by kernel_rfl) (by kernel_rfl)) ?_
  intro W base args ds gs before hval0 hW hcnd _
  have hval : ∀ (j : Nat) t v, Try.f6.params[j]? = some t → args[j]? = some v → Value.okWide Try.prog W .any base t v := hval0
  have hW' := hW
  obtain ⟨p, q, hA0, hV, rfl, hfz, hnd⟩ := hW
  have hA : DataW.TrodAll enc Try.prog W 0 (fun _ => true) true Try.f6.params.toList args.toList ds p := hA0
  rw [Try.params6] at hA hval
  obtain ⟨v0, vs0, d0, ds0, p0, q0, hargs, rfl, rfl, h0, r0⟩ := trodAll_cons hA
  obtain ⟨v1, vs1, d1, ds1, p1, q1, rfl, rfl, rfl, h1, r1⟩ := trodAll_cons r0
  obtain ⟨v2, vs2, d2, ds2, p2, q2, rfl, rfl, rfl, h2, r2⟩ := trodAll_cons r1
  obtain ⟨rfl, rfl, rfl⟩ := trodAll_nil r2
  obtain rfl : args = #[v0, v1, v2] := by cases args; simp_all
  obtain ⟨rfl, rfl⟩ := trodVars_none hV
  have k0 := h0
  have lt0 : ∀ x ∈ p0, x.block < W.heap.size := by obtain ⟨m, hm⟩ := k0; exact DataW.trod_lt m _ _ _ hm
  obtain ⟨cs0, rfl, hz0⟩ := okWide_struct Try.underlying48 (hval 0 48 v0 rfl rfl)
  obtain ⟨u00, u01, rfl⟩ := Go.Joins.array2 (hz0.trans (by kernel_rfl))
  obtain ⟨fuel0, hf0⟩ := h0
  obtain ⟨t0, v0, rfl, rfl, w0⟩ := open_hard (by simpa [Value.cells] using hf0)
  have k1 := h1
  have lt1 : ∀ x ∈ p1, x.block < W.heap.size := by obtain ⟨m, hm⟩ := k1; exact DataW.trod_lt m _ _ _ hm
  obtain ⟨cs1, rfl, hz1⟩ := okWide_struct Try.underlying26 (hval 1 26 v1 rfl rfl)
  obtain ⟨u10, u11, u12, u13, rfl⟩ := Go.Joins.array4 (hz1.trans (by kernel_rfl))
  obtain ⟨fuel1, hf1⟩ := h1
  obtain ⟨i1, t1, ma1, mn1, mc1, m1, da1, dn1, dc1, d1, rfl, rfl, rfl, rfl, w1⟩ := open_snap (by simpa [Value.cells] using hf1)
  obtain ⟨a2, len2, cap2, rfl⟩ := okWide_slice Try.underlying34 (hval 2 34 v2 rfl rfl)
  have k2 := h2
  have lt2 : ∀ x ∈ p2, x.block < W.heap.size := by obtain ⟨m, hm⟩ := k2; exact DataW.trod_lt m _ _ _ hm
  obtain ⟨x2, w2⟩ : ∃ xs, IsMs (fun _ => False) W a2 len2 cap2 xs := by
    obtain ⟨fuel, hf⟩ := h2
    exact open_ms (by simpa [Value.cells] using hf)
  clear hA0 hval0
  refine (walk t0 v0 i1 t1 ma1 mn1 mc1 m1 da1 dn1 dc1 d1 a2 len2 cap2 x2 W w0 w1 w2).mono fun e W' ⟨he, bel⟩ => ?_
  subst he
  exact ⟨_, rfl, _, _, _, [], _, [], hW', trodAll_mk1 (shut_bool Try.underlying4 _), (trodAll_cons_mk (Below.trod laidOut (by kernel_rfl) (of_decide_eq_true (by kernel_rfl)) k0 bel lt0) (trodAll_cons_mk (Below.trod laidOut (by kernel_rfl) (of_decide_eq_true (by kernel_rfl)) k1 bel lt1) (trodAll_cons_mk (Below.trod laidOut (by kernel_rfl) (of_decide_eq_true (by kernel_rfl)) k2 bel lt2) trodAll_mk0))), rfl, bel.frame _, fun h => by cases h⟩

theorem over : Rows.rlogBackRow.holds Try.pinned (OpenSpec.ofChange Rows.rlogBackSpec) :=
  OpenClaim.holds_of_wide 6 Try.f6 rfl rfl rfl rfl rfl rfl rfl ⟨rfl, rfl, rfl, rfl, rfl⟩ rfl rfl rfl rfl rfl (by kernel_rfl) Try.func6 (by kernel_rfl)
    (of_decide_eq_true (by kernel_rfl)) (by unfold Func.isWrapper; first | (rw [if_pos (by decide +kernel)]; kernel_rfl) | (rw [if_neg (by decide +kernel)]; exact ⟨rfl, rfl⟩))
    (fun os started H enc _ => lifted os started H enc)

theorem proved : Rows.RlogBackSaid := over
end Go.Proofs.Ytjeijeaogdednaa.rlogBack
namespace Go.Proofs.Ytjeijeaogdednaa
theorem rlogBack_holds : Rows.RlogBackSaid := rlogBack.proved
#print axioms rlogBack_holds
end Go.Proofs.Ytjeijeaogdednaa
