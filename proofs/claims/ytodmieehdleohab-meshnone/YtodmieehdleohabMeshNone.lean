/- MeshNone: for every message: a mesh that nobody made takes no message, tells none, and has none that waits. No condition. -/
import Derived.Test.YtodmieehdleohabRows
import Derived.WalkKit
import Derived.ProofKit
import Derived.OpenShut
import Derived.ShutString
import Derived.ChangeOld
import Derived.Below
import Derived.Test.YtodmieehdleohabMsB
import Derived.Test.YtodmieehdleohabMsN
import Derived.Test.YtodmieehdleohabMsO
namespace Go.Proofs.Ytodmieehdleohab.meshNone
open Go.ChangeShapes Go.WideShapes Go.ChangeAt Go.RowKit
open Go.ChangeMaps (open_string shut_string)
set_option linter.unusedVariables false

theorem own : ownKnob Try.prog.godebug = none := by kernel_rfl
theorem laidOut : laidOutB Try.prog = true := by kernel_rfl

set_option maxRecDepth 100000
set_option maxHeartbeats 8000000
theorem walk (y0 : MMsg) (w : World) (w0 : y0.okX (fun _ => False) w) :
    Calls Try.prog 3 #[.agg #[.int .i64 y0.k, .int .u64 y0.fr, .int .u64 y0.tt, .int .u64 y0.tm, .int .u64 y0.ix, .int .u64 y0.lt, .int .u64 y0.cm, .int .u64 y0.hn, .bool y0.rj, .slice y0.ea y0.en y0.ec, .int .u64 y0.si, .int .u64 y0.st, .slice y0.ma y0.mn y0.mc, .slice y0.sa y0.sn y0.sc]] w fun e w' => e = .returned (.bool true) ∧ Below w.heap.size w w' := by
  have HX0 := hide (boxG_new w y0 w.heap.size 29 rfl)
  clear w0
  go_enter Try.func3, Try.ntmps3
  go_wp2_with (first
    | (go_at_call 4; go_must (refine (awake10_any _).mono ?_); rintro e w1 ⟨rfl, hb1⟩; have HX1 := hide (HX0.out.keep hb1); have HB1 := hide ((new_below w (.cells #[.int .i64 y0.k, .int .u64 y0.fr, .int .u64 y0.tt, .int .u64 y0.tm, .int .u64 y0.ix, .int .u64 y0.lt, .int .u64 y0.cm, .int .u64 y0.hn, .bool y0.rj, .slice y0.ea y0.en y0.ec, .int .u64 y0.si, .int .u64 y0.st, .slice y0.ma y0.mn y0.mc, .slice y0.sa y0.sn y0.sc] 29)).trans (hb1.mono (by simp))); clear hb1)
    | (refine wp_loadG _ rfl (.tmp 1) rfl w.heap.size 0 y0 rfl HX1.out.c ?_)
    | (go_at_call 5; go_must (refine (sendM_nil _ _ _ _).mono ?_); rintro e w2 ⟨rfl, hb2⟩; have HX2 := hide ((HX1.out.keep (new_below w1 (.cells #[.int .i64 y0.k, .int .u64 y0.fr, .int .u64 y0.tt, .int .u64 y0.tm, .int .u64 y0.ix, .int .u64 y0.lt, .int .u64 y0.cm, .int .u64 y0.hn, .bool y0.rj, .slice y0.ea y0.en y0.ec, .int .u64 y0.si, .int .u64 y0.st, .slice y0.ma y0.mn y0.mc, .slice y0.sa y0.sn y0.sc] 29))).keep hb2); have HB2 := hide ((HB1.out.alloc HB1.out.size (.cells #[.int .i64 y0.k, .int .u64 y0.fr, .int .u64 y0.tt, .int .u64 y0.tm, .int .u64 y0.ix, .int .u64 y0.lt, .int .u64 y0.cm, .int .u64 y0.hn, .bool y0.rj, .slice y0.ea y0.en y0.ec, .int .u64 y0.si, .int .u64 y0.st, .slice y0.ma y0.mn y0.mc, .slice y0.sa y0.sn y0.sc] 29)).trans (hb2.mono (by have := HB1.out.size; simp; omega))); clear hb2)
    | (go_at_call 6; go_must (refine (tickM_nil _).mono ?_); rintro e w3 ⟨rfl, hb3⟩; have HX3 := hide (HX2.out.keep hb3); have HB3 := hide (HB2.out.trans (hb3.mono HB2.out.size)); obtain ⟨-, q1, q2, -⟩ := HX3.out.x; clear hb3)
    | (go_at_call 7; go_must (refine (cutM_nil y0.fr y0.tt true _).mono ?_); rintro e w4 ⟨rfl, hb4⟩; have HB4 := hide (HB3.out.trans (hb4.mono HB3.out.size)); clear hb4)
    | (go_at_call 8; go_must (refine (nextM_nil _).mono ?_); rintro e w5 ⟨rfl, hb5⟩; have HB5 := hide (HB4.out.trans (hb5.mono HB4.out.size)); have HB5a := hide (HB5.out.alloc HB5.out.size (.cells #[.int .i64 msg0.k, .int .u64 msg0.fr, .int .u64 msg0.tt, .int .u64 msg0.tm, .int .u64 msg0.ix, .int .u64 msg0.lt, .int .u64 msg0.cm, .int .u64 msg0.hn, .bool msg0.rj, .slice msg0.ea msg0.en msg0.ec, .int .u64 msg0.si, .int .u64 msg0.st, .slice msg0.ma msg0.mn msg0.mc, .slice msg0.sa msg0.sn msg0.sc] 29)); clear hb5)
    | (refine wp_storeN w5 rfl (.tmp 4) (.tmp 23) rfl w5.heap.size rfl msg0 rfl rfl ?_)
    | (go_at_call 9; go_must (refine (waitM_nil _).mono ?_); rintro e w6 ⟨rfl, hb6⟩; have HB6 := hide (HB5a.out.trans (hb6.mono HB5a.out.size)); clear hb6))
  go_ret
  exact ⟨rfl, HB6.out⟩

set_option maxRecDepth 100000 in
theorem lifted (os : Os) (started : os.Started) (H : Type) (enc : TypeId × Value → H) :
    ReturnsInHanded {} Try.checked os 3 .any (Rows.meshNoneSpec.pre6 enc Try.prog Try.f3 Rows.meshNoneRow.domain false) (Rows.meshNoneSpec.post enc Try.prog Try.f3 false true false false) := by
  refine returnsInHanded_of_change (C := Try.checked) own started (by kernel_rfl) Try.func3
    (ChangeSpec.witness6 (enc := enc) (C := Try.checked) false ⟨#[], #[.agg #[.int .i64 0, .int .u64 0, .int .u64 0, .int .u64 0, .int .u64 0, .int .u64 0, .int .u64 0, .int .u64 0, .bool false, .slice none 0 0, .int .u64 0, .int .u64 0, .slice none 0 0, .slice none 0 0]], []⟩ 8 (by kernel_rfl) (by kernel_rfl) (by kernel_rfl) (by kernel_rfl)) ?_
  intro W base args ds gs before hval0 hW hcnd _
  have hval : ∀ (j : Nat) t v, Try.f3.params[j]? = some t → args[j]? = some v → Value.okWide Try.prog W .any base t v := hval0
  have hW' := hW
  obtain ⟨p, q, hA0, hV, rfl, hfz, hnd⟩ := hW
  have hA : DataW.TrodAll enc Try.prog W 0 (fun _ => true) true Try.f3.params.toList args.toList ds p := hA0
  rw [Try.params3] at hA hval
  obtain ⟨v0, vs0, d0, ds0, p0, q0, hargs, rfl, rfl, h0, r0⟩ := trodAll_cons hA
  obtain ⟨rfl, rfl, rfl⟩ := trodAll_nil r0
  obtain rfl : args = #[v0] := by cases args; simp_all
  obtain ⟨rfl, rfl⟩ := trodVars_none hV
  have k0 := h0
  have lt0 : ∀ x ∈ p0, x.block < W.heap.size := by obtain ⟨m, hm⟩ := k0; exact DataW.trod_lt m _ _ _ hm
  obtain ⟨cs0, rfl, hz0⟩ := okWide_struct Try.underlying29 (hval 0 29 v0 rfl rfl)
  obtain ⟨fuel0, hf0⟩ := h0
  obtain ⟨y0, rfl, w0⟩ := open_msg14 (hz0.trans (by kernel_rfl)) (by simpa [Value.cells] using hf0)
  clear hA0 hval0
  refine (walk y0 W w0).mono fun e W' ⟨he, bel⟩ => ?_
  subst he
  exact ⟨_, rfl, _, _, _, [], _, [], hW', trodAll_mk1 (shut_bool Try.underlying4 _), (trodAll_cons_mk (Below.trod laidOut (by kernel_rfl) (of_decide_eq_true (by kernel_rfl)) k0 bel lt0) trodAll_mk0), rfl, bel.frame _, fun h => by cases h⟩

theorem over : Rows.meshNoneRow.holds Try.pinned (OpenSpec.ofChange Rows.meshNoneSpec) :=
  OpenClaim.holds_of_wide 3 Try.f3 rfl rfl rfl rfl rfl rfl rfl ⟨rfl, rfl, rfl, rfl, rfl⟩ rfl rfl rfl rfl rfl (by kernel_rfl) Try.func3 (by kernel_rfl)
    (of_decide_eq_true (by kernel_rfl)) (by unfold Func.isWrapper; first | (rw [if_pos (by decide +kernel)]; kernel_rfl) | (rw [if_neg (by decide +kernel)]; exact ⟨rfl, rfl⟩))
    (fun os started H enc _ => lifted os started H enc)

theorem proved : Rows.MeshNoneSaid := over
end Go.Proofs.Ytodmieehdleohab.meshNone
namespace Go.Proofs.Ytodmieehdleohab
theorem meshNone_holds : Rows.MeshNoneSaid := meshNone.proved
#print axioms meshNone_holds
end Go.Proofs.Ytodmieehdleohab
