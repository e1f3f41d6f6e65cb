/- For any hard state, entry, snapshot, numbers and bytes plenumlaw08.RlogPuts returns true (of an entry with more than 100 bytes of data, a snapshot of more than 9 members or more than 200 bytes of data, of more than 20 numbers or more than 200 bytes the law itself asks nothing): PutHard, PutEntry, PutSnap, PutMembers and OfMembers answer as the document's reference does, the error too; what was handed in is left as it was. No condition. -/
import Derived.Test.YtjeijeaogdednaaRows
import Derived.WalkKit
import Derived.ProofKit
import Derived.OpenShut
import Derived.ShutString
import Derived.ChangeOld
import Derived.Below
import Derived.Test.YtjeijeaogdednaaPp1
import Derived.Test.YtjeijeaogdednaaOpen8
namespace Go.Proofs.Ytjeijeaogdednaa.rlogPuts
open Go.ChangeShapes Go.WideShapes Go.ChangeAt Go.RowKit
open Go.ChangeMaps (open_string shut_string)
set_option linter.unusedVariables false

theorem own : ownKnob Try.prog.godebug = none := by kernel_rfl
theorem laidOut : laidOutB Try.prog = true := by kernel_rfl

open NumMath

theorem walk (t0 v0 : Int) (e1 : MEnt) (i2 t2 : Int) (ma2 : Option Addr) (mn2 mc2 : Nat) (m2 : List Int) (da2 : Option Addr) (dn2 dc2 : Nat) (d2 : List Int) (a3 : Option Addr) (len3 cap3 : Nat) (x3 : List Int) (a4 : Option Addr) (len4 cap4 : Nat) (x4 : List Int) (w : World) (w0 : (0 ≤ t0 ∧ t0 ≤ 18446744073709551615) ∧ (0 ≤ v0 ∧ v0 ≤ 18446744073709551615)) (w1 : e1.ok (fun _ => False) w) (w2 : IsSnap w i2 t2 ma2 mn2 mc2 m2 da2 dn2 dc2 d2) (w3 : IsNums w a3 len3 cap3 x3) (w4 : IsBytes w a4 len4 cap4 x4) :
    Calls Try.prog 4 #[.agg #[.int .u64 t0, .int .u64 v0], .agg #[.int .u64 e1.e.i, .int .u64 e1.e.t, .int .i64 e1.e.k, .slice e1.b e1.n e1.c], .agg #[.int .u64 i2, .int .u64 t2, .slice ma2 mn2 mc2, .slice da2 dn2 dc2], .slice a3 len3 cap3, .slice a4 len4 cap4] w fun e w' => e = .returned (.bool true) ∧ Below w.heap.size w w' := by
  exact rlputs_any t0 v0 e1 i2 t2 ma2 mn2 mc2 m2 da2 dn2 dc2 d2 a3 len3 cap3 x3 a4 len4 cap4 x4 w w0 w1 w2 w3 w4

set_option maxRecDepth 100000 in
theorem lifted (os : Os) (started : os.Started) (H : Type) (enc : TypeId × Value → H) :
    ReturnsInHanded {} Try.checked os 4 .any (Rows.rlogPutsSpec.pre6 enc Try.prog Try.f4 Rows.rlogPutsRow.domain false) (Rows.rlogPutsSpec.post enc Try.prog Try.f4 false true false false) := by
  refine returnsInHanded_of_change (C := Try.checked) own started (by kernel_rfl) Try.func4
    (ChangeSpec.witness6 (enc := enc) (C := Try.checked) false ⟨#[], #[.agg #[.int .u64 0, .int .u64 0], .agg #[.int .u64 0, .int .u64 0, .int .i64 0, .slice none 0 0], .agg #[.int .u64 0, .int .u64 0, .slice none 0 0, .slice none 0 0], .slice none 0 0, .slice none 0 0], []⟩ 8 (by kernel_rfl) (by kernel_rfl) (by kernel_rfl) (by kernel_rfl)) ?_
  intro W base args ds gs before hval0 hW hcnd _
  have hval : ∀ (j : Nat) t v, Try.f4.params[j]? = some t → args[j]? = some v → Value.okWide Try.prog W .any base t v := hval0
  have hW' := hW
  obtain ⟨p, q, hA0, hV, rfl, hfz, hnd⟩ := hW
  have hA : DataW.TrodAll enc Try.prog W 0 (fun _ => true) true Try.f4.params.toList args.toList ds p := hA0
  rw [Try.params4] at hA hval
  obtain ⟨v0, vs0, d0, ds0, p0, q0, hargs, rfl, rfl, h0, r0⟩ := trodAll_cons hA
  obtain ⟨v1, vs1, d1, ds1, p1, q1, rfl, rfl, rfl, h1, r1⟩ := trodAll_cons r0
  obtain ⟨v2, vs2, d2, ds2, p2, q2, rfl, rfl, rfl, h2, r2⟩ := trodAll_cons r1
  obtain ⟨v3, vs3, d3, ds3, p3, q3, rfl, rfl, rfl, h3, r3⟩ := trodAll_cons r2
  obtain ⟨v4, vs4, d4, ds4, p4, q4, rfl, rfl, rfl, h4, r4⟩ := trodAll_cons r3
  obtain ⟨rfl, rfl, rfl⟩ := trodAll_nil r4
  obtain rfl : args = #[v0, v1, v2, v3, v4] := by cases args; simp_all
  obtain ⟨rfl, rfl⟩ := trodVars_none hV
  have k0 := h0
  have lt0 : ∀ x ∈ p0, x.block < W.heap.size := by obtain ⟨m, hm⟩ := k0; exact DataW.trod_lt m _ _ _ hm
  obtain ⟨cs0, rfl, hz0⟩ := okWide_struct Try.underlying48 (hval 0 48 v0 rfl rfl)
  obtain ⟨u00, u01, rfl⟩ := Go.Joins.array2 (hz0.trans (by kernel_rfl))
  obtain ⟨fuel0, hf0⟩ := h0
  obtain ⟨t0, v0, rfl, rfl, w0⟩ := open_hard (by simpa [Value.cells] using hf0)
  have k1 := h1
  have lt1 : ∀ x ∈ p1, x.block < W.heap.size := by obtain ⟨m, hm⟩ := k1; exact DataW.trod_lt m _ _ _ hm
  obtain ⟨cs1, rfl, hz1⟩ := okWide_struct Try.underlying50 (hval 1 50 v1 rfl rfl)
  obtain ⟨u10, u11, u12, u13, rfl⟩ := Go.Joins.array4 (hz1.trans (by kernel_rfl))
  obtain ⟨fuel1, hf1⟩ := h1
  obtain ⟨e1, rfl, rfl, rfl, rfl, w1⟩ := open_ent (by simpa [Value.cells] using hf1)
  have k2 := h2
  have lt2 : ∀ x ∈ p2, x.block < W.heap.size := by obtain ⟨m, hm⟩ := k2; exact DataW.trod_lt m _ _ _ hm
  obtain ⟨cs2, rfl, hz2⟩ := okWide_struct Try.underlying26 (hval 2 26 v2 rfl rfl)
  obtain ⟨u20, u21, u22, u23, rfl⟩ := Go.Joins.array4 (hz2.trans (by kernel_rfl))
  obtain ⟨fuel2, hf2⟩ := h2
  obtain ⟨i2, t2, ma2, mn2, mc2, m2, da2, dn2, dc2, d2, rfl, rfl, rfl, rfl, w2⟩ := open_snap (by simpa [Value.cells] using hf2)
  obtain ⟨a3, len3, cap3, rfl⟩ := okWide_slice Try.underlying23 (hval 3 23 v3 rfl rfl)
  have k3 := h3
  have lt3 : ∀ x ∈ p3, x.block < W.heap.size := by obtain ⟨m, hm⟩ := k3; exact DataW.trod_lt m _ _ _ hm
  obtain ⟨x3, w3⟩ : ∃ xs, IsNums W a3 len3 cap3 xs := by
    obtain ⟨fuel, hf⟩ := h3
    exact open_nums (by simpa [Value.cells] using hf)
  obtain ⟨a4, len4, cap4, rfl⟩ := okWide_slice Try.underlying24 (hval 4 24 v4 rfl rfl)
  have k4 := h4
  have lt4 : ∀ x ∈ p4, x.block < W.heap.size := by obtain ⟨m, hm⟩ := k4; exact DataW.trod_lt m _ _ _ hm
  obtain ⟨x4, w4⟩ : ∃ xs, IsBytes W a4 len4 cap4 xs := by
    obtain ⟨fuel, hf⟩ := h4
    exact open_bytes (by simpa [Value.cells] using hf)
  clear hA0 hval0
  refine (walk t0 v0 e1 i2 t2 ma2 mn2 mc2 m2 da2 dn2 dc2 d2 a3 len3 cap3 x3 a4 len4 cap4 x4 W w0 w1 w2 w3 w4).mono fun e W' ⟨he, bel⟩ => ?_
  subst he
  exact ⟨_, rfl, _, _, _, [], _, [], hW', trodAll_mk1 (shut_bool Try.underlying4 _), (trodAll_cons_mk (Below.trod laidOut (by kernel_rfl) (of_decide_eq_true (by kernel_rfl)) k0 bel lt0) (trodAll_cons_mk (Below.trod laidOut (by kernel_rfl) (of_decide_eq_true (by kernel_rfl)) k1 bel lt1) (trodAll_cons_mk (Below.trod laidOut (by kernel_rfl) (of_decide_eq_true (by kernel_rfl)) k2 bel lt2) (trodAll_cons_mk (Below.trod laidOut (by kernel_rfl) (of_decide_eq_true (by kernel_rfl)) k3 bel lt3) (trodAll_cons_mk (Below.trod laidOut (by kernel_rfl) (of_decide_eq_true (by kernel_rfl)) k4 bel lt4) trodAll_mk0))))), rfl, bel.frame _, fun h => by cases h⟩

theorem over : Rows.rlogPutsRow.holds Try.pinned (OpenSpec.ofChange Rows.rlogPutsSpec) :=
  OpenClaim.holds_of_wide 4 Try.f4 rfl rfl rfl rfl rfl rfl rfl ⟨rfl, rfl, rfl, rfl, rfl⟩ rfl rfl rfl rfl rfl (by kernel_rfl) Try.func4 (by kernel_rfl)
    (of_decide_eq_true (by kernel_rfl)) (by unfold Func.isWrapper; first | (rw [if_pos (by decide +kernel)]; kernel_rfl) | (rw [if_neg (by decide +kernel)]; exact ⟨rfl, rfl⟩))
    (fun os started H enc _ => lifted os started H enc)

theorem proved : Rows.RlogPutsSaid := over
end Go.Proofs.Ytjeijeaogdednaa.rlogPuts
namespace Go.Proofs.Ytjeijeaogdednaa
theorem rlogPuts_holds : Rows.RlogPutsSaid := rlogPuts.proved
#print axioms rlogPuts_holds
end Go.Proofs.Ytjeijeaogdednaa
