/- A mesh that nobody made: its calls. -/
import Derived.Test.YtodmieehdleohabMs3
namespace Go.Proofs.Ytodmieehdleohab
open Go.RowKit NumMath Go.ChangeShapes Go.WideShapes Go.Deep
set_option linter.unusedVariables false
set_option maxRecDepth 100000

theorem sendM_nil (a : Option Addr) (len cap : Nat) (w : World) :
    Calls Try.prog 5 #[.pointer none, .slice a len cap] w fun e w' => e = .returned (.tuple #[]) ∧ Below w.heap.size w w' := by
  go_enter Try.func5, Try.ntmps5
  go_wp2_with (first
    | (go_at_call 11; go_must (refine (madeM_nil _).mono ?_); rintro e w' ⟨rfl, hw⟩; have hw := hw.symm; subst hw))
  refine bodyPost_ret (results_none rfl _ _ _) rfl ?_
  exact ⟨rfl, (by repeat (first | exact Below.refl _ _ | refine belA ?_ _ | refine Below.drew ?_))⟩

theorem tickM_nil (w : World) :
    Calls Try.prog 6 #[.pointer none] w fun e w' => e = .returned (.tuple #[]) ∧ Below w.heap.size w w' := by
  go_enter Try.func6, Try.ntmps6
  go_wp2_with (first
    | (go_at_call 11; go_must (refine (madeM_nil _).mono ?_); rintro e w' ⟨rfl, hw⟩; have hw := hw.symm; subst hw))
  refine bodyPost_ret (results_none rfl _ _ _) rfl ?_
  exact ⟨rfl, (by repeat (first | exact Below.refl _ _ | refine belA ?_ _ | refine Below.drew ?_))⟩

theorem waitM_nil (w : World) :
    Calls Try.prog 9 #[.pointer none] w fun e w' => e = .returned (.int .i64 0) ∧ Below w.heap.size w w' := by
  go_enter Try.func9, Try.ntmps9
  go_wp2_with (first
    | (go_at_call 11; go_must (refine (madeM_nil _).mono ?_); rintro e w' ⟨rfl, hw⟩; have hw := hw.symm; subst hw))
  go_ret
  exact ⟨rfl, (by repeat (first | exact Below.refl _ _ | refine belA ?_ _ | refine Below.drew ?_))⟩

theorem cutM_nil (x y : Int) (c : Bool) (w : World) :
    Calls Try.prog 7 #[.pointer none, .int .u64 x, .int .u64 y, .bool c] w fun e w' => e = .returned (.tuple #[]) ∧ Below w.heap.size w w' := by
  go_enter Try.func7, Try.ntmps7
  go_wp2_with (first
    | (go_at_call 11; go_must (refine (madeM_nil _).mono ?_); rintro e w' ⟨rfl, hw⟩; have hw := hw.symm; subst hw))
  go_end0
  exact ⟨rfl, (by repeat (first | exact Below.refl _ _ | refine belA ?_ _ | refine Below.drew ?_))⟩

end Go.Proofs.Ytodmieehdleohab
