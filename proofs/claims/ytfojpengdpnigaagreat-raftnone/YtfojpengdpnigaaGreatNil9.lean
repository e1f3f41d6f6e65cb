/- A node that nobody made. -/
import Derived.Test.YtfojpengdpnigaaGreatNdA
namespace Go.Proofs.YtfojpengdpnigaaGreat
open Go.RowKit NumMath
set_option linter.unusedVariables false
set_option maxRecDepth 100000

theorem tick_nil (d : Int) (w : World) :
    Calls Tryz.prog 22 #[.pointer none, .int .u64 d] w fun e w' => e = .returned (.tuple #[]) ∧ Below w.heap.size w w' := by
  go_enter Tryz.func22, Tryz.ntmps22
  go_wp2_with (first
    | (go_at_call 56; go_must (refine (made_nil _).mono ?_); rintro e w' ⟨rfl, hw⟩; have hw := hw.symm; subst hw))
  go_end0
  exact ⟨rfl, Below.refl _ _⟩

set_option maxHeartbeats 1000000 in
theorem step_nil (kd fr tt tm ix lt cm hn : Int) (rj : Bool) (ea : Option Addr) (en ec : Nat) (si st : Int) (ma : Option Addr) (mn mc : Nat) (da : Option Addr) (dn dc : Nat) (w : World) :
    Calls Tryz.prog 23 #[.pointer none, .agg #[.int .i64 kd, .int .u64 fr, .int .u64 tt, .int .u64 tm, .int .u64 ix, .int .u64 lt, .int .u64 cm, .int .u64 hn, .bool rj, .slice ea en ec, .int .u64 si, .int .u64 st, .slice ma mn mc, .slice da dn dc]] w fun e w' => e = .returned (.tuple #[]) ∧ Below w.heap.size w w' := by
  go_enter Tryz.func23, Tryz.ntmps23
  go_wp2_with fail
  first
    | (go_region_with (first
        | (go_at_call 56; go_must (refine (made_nil _).mono ?_); rintro e w' ⟨rfl, hw⟩; have hw := hw.symm; subst hw)))
    | fail
  all_goals
    go_wp2
    refine bodyPost_ret (results_none rfl _ _ _) rfl ?_
    exact ⟨rfl, by repeat (first | exact Below.refl _ _ | refine bel_alloc ?_ _ | refine Below.drew ?_)⟩

theorem propose_nil (a : Option Addr) (n c : Nat) (w : World) :
    Calls Tryz.prog 24 #[.pointer none, .slice a n c] w fun e w' => e = .returned (.tuple #[.int .u64 0, .int .i64 1]) ∧ Below w.heap.size w w' := by
  go_enter Tryz.func24, Tryz.ntmps24
  go_wp2_with (first
    | (go_at_call 56; go_must (refine (made_nil _).mono ?_); rintro e w' ⟨rfl, hw⟩; have hw := hw.symm; subst hw))
  go_ret2
  exact ⟨rfl, Below.refl _ _⟩

theorem change_nil (a : Option Addr) (n c : Nat) (w : World) :
    Calls Tryz.prog 25 #[.pointer none, .slice a n c] w fun e w' => e = .returned (.tuple #[.int .u64 0, .int .i64 1]) ∧ Below w.heap.size w w' := by
  go_enter Tryz.func25, Tryz.ntmps25
  go_wp2_with (first
    | (go_at_call 56; go_must (refine (made_nil _).mono ?_); rintro e w' ⟨rfl, hw⟩; have hw := hw.symm; subst hw))
  go_ret2
  exact ⟨rfl, Below.refl _ _⟩

theorem compact_nil (i : Int) (a : Option Addr) (n c : Nat) (w : World) :
    Calls Tryz.prog 27 #[.pointer none, .int .u64 i, .slice a n c] w fun e w' => e = .returned (.int .i64 1) ∧ Below w.heap.size w w' := by
  go_enter Tryz.func27, Tryz.ntmps27
  go_wp2_with (first
    | (go_at_call 56; go_must (refine (made_nil _).mono ?_); rintro e w' ⟨rfl, hw⟩; have hw := hw.symm; subst hw))
  go_ret
  exact ⟨rfl, Below.refl _ _⟩

theorem records_nil (w : World) :
    Calls Tryz.prog 28 #[.pointer none] w fun e w' => e = .returned (.slice none 0 0) ∧ Below w.heap.size w w' := by
  go_enter Tryz.func28, Tryz.ntmps28
  go_wp2_with (first
    | (go_at_call 56; go_must (refine (made_nil _).mono ?_); rintro e w' ⟨rfl, hw⟩; have hw := hw.symm; subst hw))
  go_ret
  exact ⟨rfl, Below.refl _ _⟩

theorem outbox_nil (w : World) :
    Calls Tryz.prog 29 #[.pointer none] w fun e w' => e = .returned (.slice none 0 0) ∧ Below w.heap.size w w' := by
  go_enter Tryz.func29, Tryz.ntmps29
  go_wp2_with (first
    | (go_at_call 56; go_must (refine (made_nil _).mono ?_); rintro e w' ⟨rfl, hw⟩; have hw := hw.symm; subst hw))
  go_ret
  exact ⟨rfl, Below.refl _ _⟩

set_option maxHeartbeats 4000000 in
theorem committed_nil (w : World) :
    Calls Tryz.prog 30 #[.pointer none, .int .i64 9] w fun e w' => e = .returned (.slice none 0 0) ∧ Below w.heap.size w w' := by
  go_enter Tryz.func30, Tryz.ntmps30
  go_wp2_with fail
  first
    | (go_region_with (first
        | (go_at_call 56; go_must (refine (made_nil _).mono ?_); rintro e w' ⟨rfl, hw⟩; have hw := hw.symm; subst hw)))
    | fail
  all_goals
    go_wp2
    go_ret
    exact ⟨rfl, by repeat (first | exact Below.refl _ _ | refine bel_alloc ?_ _ | refine Below.drew ?_)⟩

theorem state_nil (w : World) :
    Calls Tryz.prog 21 #[.pointer none] w fun e w' => e = .returned (.tuple #[.int .i64 0, .int .u64 0, .int .u64 0, .int .u64 0]) ∧ Below w.heap.size w w' := by
  go_enter Tryz.func21, Tryz.ntmps21
  go_wp2_with (first
    | (go_at_call 56; go_must (refine (made_nil _).mono ?_); rintro e w' ⟨rfl, hw⟩; have hw := hw.symm; subst hw))
  refine bodyPost_ret (v := .tuple #[.int .i64 0, .int .u64 0, .int .u64 0, .int .u64 0]) (by simp [results, Tryz.results21, go_sem]) rfl ?_
  exact ⟨rfl, Below.refl _ _⟩

theorem restored_nil (w : World) :
    Calls Tryz.prog 26 #[.pointer none] w fun e w' => e = .returned (.tuple #[.agg #[.int .u64 0, .int .u64 0, .slice none 0 0, .slice none 0 0], .bool false]) ∧ Below w.heap.size w w' := by
  go_enter Tryz.func26, Tryz.ntmps26
  go_wp2_with (first
    | (go_at_call 56; go_must (refine (made_nil _).mono ?_); rintro e w' ⟨rfl, hw⟩; have hw := hw.symm; subst hw))
  refine bodyPost_ret (v := .tuple #[.agg #[.int .u64 0, .int .u64 0, .slice none 0 0, .slice none 0 0], .bool false]) (by simp [results, Tryz.results26, go_sem]) rfl ?_
  exact ⟨rfl, new_below _ _⟩

end Go.Proofs.YtfojpengdpnigaaGreat
