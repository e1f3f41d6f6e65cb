/- For any snapshot and any list of deeds plenumlaw08.RlogDoes returns true (of more than 9 members, more than 200 bytes of data, of more than 20 deeds, and from a deed on that has more than 12 entries, an entry of more than 100 bytes or more than 200 bytes of data, the law itself asks nothing): behind each append, compaction and cleaning the log's answer, and what it has, are those of the document's reference; what was handed in is left as it was. No condition. -/
import Derived.Test.YtjeijeaogdednaaRows
import Derived.WalkKit
import Derived.ProofKit
import Derived.OpenShut
import Derived.ShutString
import Derived.ChangeOld
import Derived.Below
import Derived.Test.YtjeijeaogdednaaDoes8
namespace Go.Proofs.Ytjeijeaogdednaa.rlogDoes
open Go.ChangeShapes Go.WideShapes Go.ChangeAt Go.RowKit
open Go.ChangeMaps (open_string shut_string)
set_option linter.unusedVariables false

theorem own : ownKnob Try.prog.godebug = none := by kernel_rfl
theorem laidOut : laidOutB Try.prog = true := by kernel_rfl

open NumMath

theorem walk (i0 t0 : Int) (ma0 : Option Addr) (mn0 mc0 : Nat) (m0 : List Int) (da0 : Option Addr) (dn0 dc0 : Nat) (d0 : List Int) (a1 : Option Addr) (len1 cap1 : Nat) (x1 : List Deed8) (w : World) (w0 : IsSnap w i0 t0 ma0 mn0 mc0 m0 da0 dn0 dc0 d0) (w1 : IsDeeds8 w a1 len1 cap1 x1) :
    Calls Try.prog 3 #[.agg #[.int .u64 i0, .int .u64 t0, .slice ma0 mn0 mc0, .slice da0 dn0 dc0], .slice a1 len1 cap1] w fun e w' => e = .returned (.bool true) ∧ Below w.heap.size w w' := by
  exact rldoes_any i0 t0 ma0 mn0 mc0 m0 da0 dn0 dc0 d0 a1 len1 cap1 x1 w w0 w1

set_option maxRecDepth 100000 in
theorem lifted (os : Os) (started : os.Started) (H : Type) (enc : TypeId × Value → H) :
    ReturnsInHanded {} Try.checked os 3 .any (Rows.rlogDoesSpec.pre6 enc Try.prog Try.f3 Rows.rlogDoesRow.domain false) (Rows.rlogDoesSpec.post enc Try.prog Try.f3 false true false false) := by
  refine returnsInHanded_of_change (C := Try.checked) own started (by kernel_rfl) Try.func3
    (ChangeSpec.witness6 (enc := enc) (C := Try.checked) false ⟨#[], #[.agg #[.int .u64 0, .int .u64 0, .slice none 0 0, .slice none 0 0], .slice none 0 0], []⟩ 8 (by kernel_rfl) (by kernel_rfl) (by kernel_rfl) (by kernel_rfl)) ?_
  intro W base args ds gs before hval0 hW hcnd _
  have hval : ∀ (j : Nat) t v, Try.f3.params[j]? = some t → args[j]? = some v → Value.okWide Try.prog W .any base t v := hval0
  have hW' := hW
  obtain ⟨p, q, hA0, hV, rfl, hfz, hnd⟩ := hW
  have hA : DataW.TrodAll enc Try.prog W 0 (fun _ => true) true Try.f3.params.toList args.toList ds p := hA0
  rw [Try.params3] at hA hval
  obtain ⟨v0, vs0, d0, ds0, p0, q0, hargs, rfl, rfl, h0, r0⟩ := trodAll_cons hA
  obtain ⟨v1, vs1, d1, ds1, p1, q1, rfl, rfl, rfl, h1, r1⟩ := trodAll_cons r0
  obtain ⟨rfl, rfl, rfl⟩ := trodAll_nil r1
  obtain rfl : args = #[v0, v1] := by cases args; simp_all
  obtain ⟨rfl, rfl⟩ := trodVars_none hV
  have k0 := h0
  have lt0 : ∀ x ∈ p0, x.block < W.heap.size := by obtain ⟨m, hm⟩ := k0; exact DataW.trod_lt m _ _ _ hm
  obtain ⟨cs0, rfl, hz0⟩ := okWide_struct Try.underlying26 (hval 0 26 v0 rfl rfl)
  obtain ⟨u00, u01, u02, u03, rfl⟩ := Go.Joins.array4 (hz0.trans (by kernel_rfl))
  obtain ⟨fuel0, hf0⟩ := h0
  obtain ⟨i0, t0, ma0, mn0, mc0, m0, da0, dn0, dc0, d0, rfl, rfl, rfl, rfl, w0⟩ := open_snap (by simpa [Value.cells] using hf0)
  obtain ⟨a1, len1, cap1, rfl⟩ := okWide_slice Try.underlying27 (hval 1 27 v1 rfl rfl)
  have k1 := h1
  have lt1 : ∀ x ∈ p1, x.block < W.heap.size := by obtain ⟨m, hm⟩ := k1; exact DataW.trod_lt m _ _ _ hm
  obtain ⟨x1, w1⟩ : ∃ xs, IsDeeds8 W a1 len1 cap1 xs := by
    obtain ⟨fuel, hf⟩ := h1
    exact open_deeds8 (by simpa [Value.cells] using hf)
  clear hA0 hval0
  refine (walk i0 t0 ma0 mn0 mc0 m0 da0 dn0 dc0 d0 a1 len1 cap1 x1 W w0 w1).mono fun e W' ⟨he, bel⟩ => ?_
  subst he
  exact ⟨_, rfl, _, _, _, [], _, [], hW', trodAll_mk1 (shut_bool Try.underlying4 _), (trodAll_cons_mk (Below.trod laidOut (by kernel_rfl) (of_decide_eq_true (by kernel_rfl)) k0 bel lt0) (trodAll_cons_mk (Below.trod laidOut (by kernel_rfl) (of_decide_eq_true (by kernel_rfl)) k1 bel lt1) trodAll_mk0)), rfl, bel.frame _, fun h => by cases h⟩

theorem over : Rows.rlogDoesRow.holds Try.pinned (OpenSpec.ofChange Rows.rlogDoesSpec) :=
  OpenClaim.holds_of_wide 3 Try.f3 rfl rfl rfl rfl rfl rfl rfl ⟨rfl, rfl, rfl, rfl, rfl⟩ rfl rfl rfl rfl rfl (by kernel_rfl) Try.func3 (by kernel_rfl)
    (of_decide_eq_true (by kernel_rfl)) (by unfold Func.isWrapper; first | (rw [if_pos (by decide +kernel)]; kernel_rfl) | (rw [if_neg (by decide +kernel)]; exact ⟨rfl, rfl⟩))
    (fun os started H enc _ => lifted os started H enc)

theorem proved : Rows.RlogDoesSaid := over
end Go.Proofs.Ytjeijeaogdednaa.rlogDoes
namespace Go.Proofs.Ytjeijeaogdednaa
theorem rlogDoes_holds : Rows.RlogDoesSaid := rlogDoes.proved
#print axioms rlogDoes_holds
end Go.Proofs.Ytjeijeaogdednaa
