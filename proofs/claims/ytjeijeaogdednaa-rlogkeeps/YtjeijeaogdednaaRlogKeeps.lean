/- For any snapshot and any two lists of entries plenumlaw08.RlogKeeps returns true (of more than 9 members, more than 200 bytes of data, of lists of more than 12 entries or with more than 100 bytes of data, and of an empty second list the law itself asks nothing): what stands ahead of what is appended stays as it was, and what can't be appended changes nothing; what was handed in is left as it was. No condition. -/
import Derived.Test.YtjeijeaogdednaaRows
import Derived.WalkKit
import Derived.ProofKit
import Derived.OpenShut
import Derived.ShutString
import Derived.ChangeOld
import Derived.Below
import Derived.Test.YtjeijeaogdednaaKp
import Derived.Test.YtjeijeaogdednaaOpen8
namespace Go.Proofs.Ytjeijeaogdednaa.rlogKeeps
open Go.ChangeShapes Go.WideShapes Go.ChangeAt Go.RowKit
open Go.ChangeMaps (open_string shut_string)
set_option linter.unusedVariables false

theorem own : ownKnob Try.prog.godebug = none := by kernel_rfl
theorem laidOut : laidOutB Try.prog = true := by kernel_rfl

open NumMath

theorem walk (i0 t0 : Int) (ma0 : Option Addr) (mn0 mc0 : Nat) (m0 : List Int) (da0 : Option Addr) (dn0 dc0 : Nat) (d0 : List Int) (a1 : Option Addr) (len1 cap1 : Nat) (x1 : List MEnt) (a2 : Option Addr) (len2 cap2 : Nat) (x2 : List MEnt) (w : World) (w0 : IsSnap w i0 t0 ma0 mn0 mc0 m0 da0 dn0 dc0 d0) (w1 : IsMs (fun _ => False) w a1 len1 cap1 x1) (w2 : IsMs (fun _ => False) w a2 len2 cap2 x2) :
    Calls Try.prog 7 #[.agg #[.int .u64 i0, .int .u64 t0, .slice ma0 mn0 mc0, .slice da0 dn0 dc0], .slice a1 len1 cap1, .slice a2 len2 cap2] w fun e w' => e = .returned (.bool true) ∧ Below w.heap.size w w' := by
  exact rlkeeps_any i0 t0 ma0 mn0 mc0 m0 da0 dn0 dc0 d0 a1 len1 cap1 x1 a2 len2 cap2 x2 w w0 w1 w2

set_option maxRecDepth 100000 in
theorem lifted (os : Os) (started : os.Started) (H : Type) (enc : TypeId × Value → H) :
    ReturnsInHanded {} Try.checked os 7 .any (Rows.rlogKeepsSpec.pre6 enc Try.prog Try.f7 Rows.rlogKeepsRow.domain false) (Rows.rlogKeepsSpec.post enc Try.prog Try.f7 false true false false) := by
  refine returnsInHanded_of_change (C := Try.checked) own started (by kernel_rfl) Try.func7
    (ChangeSpec.witness6 (enc := enc) (C := Try.checked) false ⟨#[], #[.agg #[.int .u64 0, .int .u64 0, .slice none 0 0, .slice none 0 0], .slice none 0 0, .slice none 0 0], []⟩ 8 (by kernel_rfl) (by kernel_rfl) (by kernel_rfl) (by kernel_rfl)) ?_
  intro W base args ds gs before hval0 hW hcnd _
  have hval : ∀ (j : Nat) t v, Try.f7.params[j]? = some t → args[j]? = some v → Value.okWide Try.prog W .any base t v := hval0
  have hW' := hW
  obtain ⟨p, q, hA0, hV, rfl, hfz, hnd⟩ := hW
  have hA : DataW.TrodAll enc Try.prog W 0 (fun _ => true) true Try.f7.params.toList args.toList ds p := hA0
  rw [Try.params7] at hA hval
  obtain ⟨v0, vs0, d0, ds0, p0, q0, hargs, rfl, rfl, h0, r0⟩ := trodAll_cons hA
  obtain ⟨v1, vs1, d1, ds1, p1, q1, rfl, rfl, rfl, h1, r1⟩ := trodAll_cons r0
  obtain ⟨v2, vs2, d2, ds2, p2, q2, rfl, rfl, rfl, h2, r2⟩ := trodAll_cons r1
  obtain ⟨rfl, rfl, rfl⟩ := trodAll_nil r2
  obtain rfl : args = #[v0, v1, v2] := by cases args; simp_all
  obtain ⟨rfl, rfl⟩ := trodVars_none hV
  have k0 := h0
  have lt0 : ∀ x ∈ p0, x.block < W.heap.size := by obtain ⟨m, hm⟩ := k0; exact DataW.trod_lt m _ _ _ hm
  obtain ⟨cs0, rfl, hz0⟩ := okWide_struct Try.underlying26 (hval 0 26 v0 rfl rfl)
  obtain ⟨u00, u01, u02, u03, rfl⟩ := Go.Joins.array4 (hz0.trans (by kernel_rfl))
  obtain ⟨fuel0, hf0⟩ := h0
  obtain ⟨i0, t0, ma0, mn0, mc0, m0, da0, dn0, dc0, d0, rfl, rfl, rfl, rfl, w0⟩ := open_snap (by simpa [Value.cells] using hf0)
  obtain ⟨a1, len1, cap1, rfl⟩ := okWide_slice Try.underlying34 (hval 1 34 v1 rfl rfl)
  have k1 := h1
  have lt1 : ∀ x ∈ p1, x.block < W.heap.size := by obtain ⟨m, hm⟩ := k1; exact DataW.trod_lt m _ _ _ hm
  obtain ⟨x1, w1⟩ : ∃ xs, IsMs (fun _ => False) W a1 len1 cap1 xs := by
    obtain ⟨fuel, hf⟩ := h1
    exact open_ms (by simpa [Value.cells] using hf)
  obtain ⟨a2, len2, cap2, rfl⟩ := okWide_slice Try.underlying34 (hval 2 34 v2 rfl rfl)
  have k2 := h2
  have lt2 : ∀ x ∈ p2, x.block < W.heap.size := by obtain ⟨m, hm⟩ := k2; exact DataW.trod_lt m _ _ _ hm
  obtain ⟨x2, w2⟩ : ∃ xs, IsMs (fun _ => False) W a2 len2 cap2 xs := by
    obtain ⟨fuel, hf⟩ := h2
    exact open_ms (by simpa [Value.cells] using hf)
  clear hA0 hval0
  refine (walk i0 t0 ma0 mn0 mc0 m0 da0 dn0 dc0 d0 a1 len1 cap1 x1 a2 len2 cap2 x2 W w0 w1 w2).mono fun e W' ⟨he, bel⟩ => ?_
  subst he
  exact ⟨_, rfl, _, _, _, [], _, [], hW', trodAll_mk1 (shut_bool Try.underlying4 _), (trodAll_cons_mk (Below.trod laidOut (by kernel_rfl) (of_decide_eq_true (by kernel_rfl)) k0 bel lt0) (trodAll_cons_mk (Below.trod laidOut (by kernel_rfl) (of_decide_eq_true (by kernel_rfl)) k1 bel lt1) (trodAll_cons_mk (Below.trod laidOut (by kernel_rfl) (of_decide_eq_true (by kernel_rfl)) k2 bel lt2) trodAll_mk0))), rfl, bel.frame _, fun h => by cases h⟩

theorem over : Rows.rlogKeepsRow.holds Try.pinned (OpenSpec.ofChange Rows.rlogKeepsSpec) :=
  OpenClaim.holds_of_wide 7 Try.f7 rfl rfl rfl rfl rfl rfl rfl ⟨rfl, rfl, rfl, rfl, rfl⟩ rfl rfl rfl rfl rfl (by kernel_rfl) Try.func7 (by kernel_rfl)
    (of_decide_eq_true (by kernel_rfl)) (by unfold Func.isWrapper; first | (rw [if_pos (by decide +kernel)]; kernel_rfl) | (rw [if_neg (by decide +kernel)]; exact ⟨rfl, rfl⟩))
    (fun os started H enc _ => lifted os started H enc)

theorem proved : Rows.RlogKeepsSaid := over
end Go.Proofs.Ytjeijeaogdednaa.rlogKeeps
namespace Go.Proofs.Ytjeijeaogdednaa
theorem rlogKeeps_holds : Rows.RlogKeepsSaid := rlogKeeps.proved
#print axioms rlogKeeps_holds
end Go.Proofs.Ytjeijeaogdednaa
