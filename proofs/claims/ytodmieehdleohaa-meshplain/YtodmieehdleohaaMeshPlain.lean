/- MeshPlain: for every list of messages, and whether the first one's nodes are cut off from each other or not, plenumlaw10.MeshPlain returns true (of more than 30 messages, and from a message on that has more than 12 entries, an entry of more than 100 bytes, more than 9 members or more than 200 bytes of data, the law itself asks nothing): without fates the messages come in order, once each, as they were sent; between the two that are cut off none comes; and then none is left. What was handed in is left as it was. No condition. -/
import Derived.Test.YtodmieehdleohaaRows
import Derived.WalkKit
import Derived.ProofKit
import Derived.OpenShut
import Derived.ShutString
import Derived.ChangeOld
import Derived.Below
import Derived.SizedLaws
import Derived.Test.YtodmieehdleohaaMshB
import Derived.Test.YtodmieehdleohaaMshC
namespace Go.Proofs.Ytodmieehdleohaa.meshPlain
open Go.ChangeShapes Go.WideShapes Go.ChangeAt Go.RowKit
open Go.ChangeMaps (open_string shut_string)
set_option linter.unusedVariables false

theorem own : ownKnob Try.prog.godebug = none := by kernel_rfl
theorem laidOut : laidOutB Try.prog = true := by kernel_rfl

open NumMath

theorem walk (a0 : Option Addr) (len0 cap0 : Nat) (x0 : List MMsg) (a1 : Bool) (w : World) (w0 : IsGs w a0 len0 cap0 x0) :
    Calls Try.prog 4 #[.slice a0 len0 cap0, .bool a1] w fun e w' => e = .returned (.bool true) ∧ Below w.heap.size w w' := by
  by_cases g0 : (30 : Int) < (len0 : Int)
  · have hm0 : (len0 : Int) ≤ 9223372036854775807 := by have := w0.1.2.1; have := w0.1.2.2.1; unfold maxLen at this; omega
    clear w0
    go_enter Try.func4, Try.ntmps4
    go_wp2_with (first
      | (go_at_call 5; go_must (refine (awake10_any _).mono ?_); rintro e wa ⟨rfl, hba⟩))
    go_ret
    exact ⟨rfl, hba⟩
  · cases a1 with
    | false => exact mplain_no a0 len0 cap0 x0 w w0 (by omega)
    | true =>
      by_cases h0 : len0 = 0
      · subst h0
        exact mplain_zero cap0 a0 x0 w w0
      · obtain ⟨g, off, rfl, _, _⟩ := w0.1.at (k := 0) (by omega)
        exact mplain_yes g off len0 cap0 x0 w w0 (by omega) (by omega)

set_option maxRecDepth 100000 in
theorem lifted (os : Os) (started : os.Started) (H : Type) (enc : TypeId × Value → H) :
    ReturnsInHanded {} Try.checked os 4 .any (Rows.meshPlainSpec.pre6 enc Try.prog Try.f4 Rows.meshPlainRow.domain false) (Rows.meshPlainSpec.post enc Try.prog Try.f4 false true false false) := by
  refine returnsInHanded_of_change_sized (C := Try.checked) own started (by kernel_rfl) Try.func4
    (ChangeSpec.witness6 (enc := enc) (C := Try.checked) false ⟨#[], #[.slice none 0 0, .bool false], []⟩ 8 (by kernel_rfl) (by kernel_rfl) (by kernel_rfl) (by kernel_rfl)) ?_
  intro W base args ds gs before hval0 hW hcnd hsz0 _
  have hval : ∀ (j : Nat) t v, Try.f4.params[j]? = some t → args[j]? = some v → Value.okWide Try.prog W .any base t v := hval0
  have hW' := hW
  obtain ⟨p, q, hA0, hV, rfl, hfz, hnd⟩ := hW
  have hA : DataW.TrodAll enc Try.prog W 0 (fun _ => true) true Try.f4.params.toList args.toList ds p := hA0
  have hsz : (DataW.weightsEach Try.prog (Try.f4.params.toList ++ Rows.meshPlainSpec.plain.varTypes Try.prog) (ds ++ gs)).all (fun x => decide (x ≤ reachBytes)) = true := hsz0
  rw [Try.params4] at hA hval hsz
  obtain ⟨v0, vs0, d0, ds0, p0, q0, hargs, rfl, rfl, h0, r0⟩ := trodAll_cons hA
  obtain ⟨v1, vs1, d1, ds1, p1, q1, rfl, rfl, rfl, h1, r1⟩ := trodAll_cons r0
  obtain ⟨rfl, rfl, rfl⟩ := trodAll_nil r1
  obtain rfl : args = #[v0, v1] := by cases args; simp_all
  obtain ⟨rfl, rfl⟩ := trodVars_none hV
  obtain ⟨a0, len0, cap0, rfl⟩ := okWide_slice Try.underlying46 (hval 0 46 v0 rfl rfl)
  have k0 := h0
  have lt0 : ∀ x ∈ p0, x.block < W.heap.size := by obtain ⟨m, hm⟩ := k0; exact DataW.trod_lt m _ _ _ hm
  obtain ⟨x0, w0⟩ : ∃ xs, IsGs W a0 len0 cap0 xs := by
    obtain ⟨fuel, hf⟩ := h0
    exact open_gs (by simpa [Value.cells] using hf) (fun n hn => by have := List.all_eq_true.1 hsz n (DataW.weights_mem_each (j := 0) (t := 46) (d := d0) rfl rfl n hn); simpa using this)
  have k1 := h1
  have lt1 : ∀ x ∈ p1, x.block < W.heap.size := by obtain ⟨m, hm⟩ := k1; exact DataW.trod_lt m _ _ _ hm
  obtain ⟨a1, rfl⟩ : ∃ n, v1 = .bool n := by
    obtain ⟨n, hn, _⟩ := open_bool Try.underlying4 (hval 1 4 v1 rfl rfl) h1
    exact ⟨n, hn⟩
  clear hA0 hval0
  refine (walk a0 len0 cap0 x0 a1 W w0).mono fun e W' ⟨he, bel⟩ => ?_
  subst he
  exact ⟨_, rfl, _, _, _, [], _, [], hW', trodAll_mk1 (shut_bool Try.underlying4 _), (trodAll_cons_mk (Below.trod laidOut (by kernel_rfl) (of_decide_eq_true (by kernel_rfl)) k0 bel lt0) (trodAll_cons_mk (Below.trod laidOut (by kernel_rfl) (of_decide_eq_true (by kernel_rfl)) k1 bel lt1) trodAll_mk0)), rfl, bel.frame _, fun h => by cases h⟩

theorem over : Rows.meshPlainRow.holds Try.pinned (OpenSpec.ofChange Rows.meshPlainSpec) :=
  OpenClaim.holds_of_wide 4 Try.f4 rfl rfl rfl rfl rfl rfl rfl ⟨rfl, rfl, rfl, rfl, rfl⟩ rfl rfl rfl rfl rfl (by kernel_rfl) Try.func4 (by kernel_rfl)
    (of_decide_eq_true (by kernel_rfl)) (by unfold Func.isWrapper; first | (rw [if_pos (by decide +kernel)]; kernel_rfl) | (rw [if_neg (by decide +kernel)]; exact ⟨rfl, rfl⟩))
    (fun os started H enc _ => lifted os started H enc)

theorem proved : Rows.MeshPlainSaid := over
end Go.Proofs.Ytodmieehdleohaa.meshPlain
namespace Go.Proofs.Ytodmieehdleohaa
theorem meshPlain_holds : Rows.MeshPlainSaid := meshPlain.proved
#print axioms meshPlain_holds
end Go.Proofs.Ytodmieehdleohaa
