/- For any two int64 numbers plenumlaw01.NumDivides returns true: where num.Div and num.Mod answer, the quotient times the second number and what is left are the first again, by num.Mul and num.Add; where they do not, the second number is 0 or -1. No condition. -/
import Derived.Test.YtlmimmoodljbeaaRows
import Derived.WalkKit
import Derived.ProofKit
import Derived.OpenShut
import Derived.ShutString
import Derived.Test.YtlmimmoodljbeaaNumWalks2
namespace Go.Proofs.Ytlmimmoodljbeaa.numDivides
open Go.ChangeShapes Go.WideShapes Go.ChangeAt Go.RowKit
open Go.ChangeMaps (open_string shut_string)
set_option linter.unusedVariables false    

theorem own : ownKnob Try.prog.godebug = none := by kernel_rfl

open NumMath
theorem walk (a0 : Int) (a1 : Int) (w0 : (Lit.int .i64 a0).wf = true) (w1 : (Lit.int .i64 a1).wf = true) (w : World) :
    Calls Try.prog 6 #[.int .i64 a0, .int .i64 a1] w fun e w' => e = .returned (.bool true) ∧ Grown w w' := by
  obtain ⟨a1l, a1h⟩ := wf_i64 w0
  obtain ⟨b1l, b1h⟩ := wf_i64 w1
  clear w0 w1
  by_cases z0 : a1 = 0
  · subst z0
    have e1 : divB a0 0 = false := rfl
    go_enter Try.func6, Try.ntmps6
    go_wp2_with (first | (go_at_call 9; refine (awake_any _).mono ?_; rintro e w' ⟨rfl, rfl⟩) | (go_at_call 16; refine (div_any _ _ _ a1l a1h b1l b1h).mono ?_; rintro e w' ⟨rfl, rfl⟩) | (go_at_call 18; refine (mod_any _ _ _ a1l a1h b1l b1h).mono ?_; rintro e w' ⟨rfl, rfl⟩) | (go_at_call 14; refine (mul_any _ _ _ ?_ ?_ ?_ ?_).mono ?_ <;> first | assumption | (rintro e w' ⟨rfl, rfl⟩)) | (go_at_call 10; refine (add_any _ _ _ ?_ ?_ ?_ ?_).mono ?_ <;> first | assumption | (rintro e w' ⟨rfl, rfl⟩)))
    go_ret
    exact ⟨rfl, Grown.refl _⟩
  · have e0 : modB a1 = true := by unfold modB; simpa using z0
    have c0 : (a1 == 0) = false := by simpa using z0
    by_cases q : -9223372036854775808 ≤ a0.tdiv a1 ∧ a0.tdiv a1 ≤ 9223372036854775807
    · have qt := quo_times a0 a1 a1l a1h
      have e1 : divB a0 a1 = true := by unfold divB; rw [if_neg z0, inB_true q]
      have e2 : divV a0 a1 = a0.tdiv a1 := by unfold divV; rw [if_neg z0, inV_true q]
      have e3 : modV a0 a1 = a0.tmod a1 := by unfold modV; rw [if_neg z0]
      have ts := tmod_side a0 a1
      have t1 : -9223372036854775808 ≤ a0.tmod a1 ∧ a0.tmod a1 ≤ 9223372036854775807 := by omega
      obtain ⟨x, hx⟩ : ∃ x, a0.tdiv a1 = x := ⟨_, rfl⟩
      obtain ⟨z, hz⟩ : ∃ z, a0.tmod a1 = z := ⟨_, rfl⟩
      rw [hx] at e2 q
      rw [hz] at e3 t1
      rw [hx, hz] at qt
      have e4 : inV (x * a1) = x * a1 := inV_true qt.1
      have e5 : inB (x * a1) = true := inB_true qt.1
      have e6 : inV (x * a1 + z) = a0 := by rw [qt.2]; exact inV_true ⟨a1l, a1h⟩
      have e7 : inB (x * a1 + z) = true := by rw [qt.2]; exact inB_true ⟨a1l, a1h⟩
      obtain ⟨q1, q2⟩ := q
      obtain ⟨r1, r2⟩ := t1
      obtain ⟨⟨m1, m2⟩, m3⟩ := qt
      clear hx hz ts z0 m3
      go_enter Try.func6, Try.ntmps6
      go_wp2_with (first | (go_at_call 9; refine (awake_any _).mono ?_; rintro e w' ⟨rfl, rfl⟩) | (go_at_call 16; refine (div_any _ _ _ a1l a1h b1l b1h).mono ?_; rintro e w' ⟨rfl, rfl⟩) | (go_at_call 18; refine (mod_any _ _ _ a1l a1h b1l b1h).mono ?_; rintro e w' ⟨rfl, rfl⟩) | (go_at_call 14; refine (mul_any _ _ _ ?_ ?_ ?_ ?_).mono ?_ <;> first | assumption | (rintro e w' ⟨rfl, rfl⟩)) | (go_at_call 10; refine (add_any _ _ _ ?_ ?_ ?_ ?_).mono ?_ <;> first | assumption | (rintro e w' ⟨rfl, rfl⟩)))
      go_ret
      exact ⟨rfl, Grown.refl _⟩
    · have e1 : divB a0 a1 = false := by unfold divB; rw [if_neg z0, inB_false q]
      have b1 : a1 = -1 := by
        by_cases b1 : a1 = -1
        · exact b1
        · exact absurd (tdiv_range a0 a1 a1l a1h b1) q
      subst b1
      clear q
      go_enter Try.func6, Try.ntmps6
      go_wp2_with (first | (go_at_call 9; refine (awake_any _).mono ?_; rintro e w' ⟨rfl, rfl⟩) | (go_at_call 16; refine (div_any _ _ _ a1l a1h b1l b1h).mono ?_; rintro e w' ⟨rfl, rfl⟩) | (go_at_call 18; refine (mod_any _ _ _ a1l a1h b1l b1h).mono ?_; rintro e w' ⟨rfl, rfl⟩) | (go_at_call 14; refine (mul_any _ _ _ ?_ ?_ ?_ ?_).mono ?_ <;> first | assumption | (rintro e w' ⟨rfl, rfl⟩)) | (go_at_call 10; refine (add_any _ _ _ ?_ ?_ ?_ ?_).mono ?_ <;> first | assumption | (rintro e w' ⟨rfl, rfl⟩)))
      go_ret
      exact ⟨rfl, Grown.refl _⟩

set_option maxRecDepth 100000 in
theorem lifted (os : Os) (started : os.Started) (H : Type) (enc : TypeId × Value → H) :
    ReturnsInHanded {} Try.checked os 6 .any (Rows.numDividesSpec.pre6 enc Try.prog Try.f6 Rows.numDividesRow.domain false) (Rows.numDividesSpec.post enc Try.prog Try.f6 false true false false) := by
  refine returnsInHanded_of_change (C := Try.checked) own started (by kernel_rfl) Try.func6
    (ChangeSpec.witness6 (enc := enc) (C := Try.checked) false ⟨#[], #[.int .i64 0, .int .i64 0], []⟩ 8 (by kernel_rfl) (by kernel_rfl) (by kernel_rfl) (by kernel_rfl)) ?_
  intro W base args ds gs before hval0 hW hcnd _
  have hval : ∀ (j : Nat) t v, Try.f6.params[j]? = some t → args[j]? = some v → Value.okWide Try.prog W .any base t v := hval0
  have hW' := hW
  obtain ⟨p, q, hA0, hV, rfl, hfz, hnd⟩ := hW
  have hA : DataW.TrodAll enc Try.prog W 0 (fun _ => true) true Try.f6.params.toList args.toList ds p := hA0
  rw [Try.params6] at hA hval
  obtain ⟨v0, vs0, d0, ds0, p0, q0, hargs, rfl, rfl, h0, r0⟩ := trodAll_cons hA
  obtain ⟨v1, vs1, d1, ds1, p1, q1, rfl, rfl, rfl, h1, r1⟩ := trodAll_cons r0
  obtain ⟨rfl, rfl, rfl⟩ := trodAll_nil r1
  obtain rfl : args = #[v0, v1] := by cases args; simp_all
  obtain ⟨rfl, rfl⟩ := trodVars_none hV
  obtain ⟨a0, rfl, rfl, rfl, w0⟩ := open_int Try.underlying2 (hval 0 2 v0 rfl rfl) h0
  obtain ⟨a1, rfl, rfl, rfl, w1⟩ := open_int Try.underlying2 (hval 1 2 v1 rfl rfl) h1
  clear hA0 hval0
  simp only [List.append_nil] at hW'
  refine (walk a0 a1 w0 w1 W).mono fun e W' ⟨he, hg⟩ => ?_
  subst he
  exact ⟨_, rfl, post_of_same (pa := []) (pv := []) hW' (fun _ _ _ => (trodAll_cons_mk (shut_bool Try.underlying4 _) trodAll_mk0)) (fun sp _ => (trodAll_cons_mk (shut_int Try.underlying2 w0) (trodAll_cons_mk (shut_int Try.underlying2 w1) trodAll_mk0))) (fun _ _ => rfl) rfl
    (hg.frame _) hg.2.1 (ok_one (by kernel_rfl) rfl (okWide_bool_mk Try.underlying4 _))⟩

theorem over : Rows.numDividesRow.holds Try.pinned (OpenSpec.ofChange Rows.numDividesSpec) :=
  OpenClaim.holds_of_wide 6 Try.f6 rfl rfl rfl rfl rfl rfl rfl ⟨rfl, rfl, rfl, rfl, rfl⟩ rfl rfl rfl rfl rfl (by kernel_rfl) Try.func6 (by kernel_rfl)
    (of_decide_eq_true (by kernel_rfl)) (by unfold Func.isWrapper; first | (rw [if_pos (by decide +kernel)]; kernel_rfl) | (rw [if_neg (by decide +kernel)]; exact ⟨rfl, rfl⟩))
    (fun os started H enc _ => lifted os started H enc)

theorem proved : Rows.NumDividesSaid :=
  over
end Go.Proofs.Ytlmimmoodljbeaa.numDivides
namespace Go.Proofs.Ytlmimmoodljbeaa
theorem numDivides_holds : Rows.NumDividesSaid := numDivides.proved
#print axioms numDivides_holds
end Go.Proofs.Ytlmimmoodljbeaa
