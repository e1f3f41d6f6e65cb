/- What num.Add, num.Sub and their kin answer, for any numbers of 64 bits; the world stays as it was. -/
import Derived.Test.YtlmimmoodljbeabRows
import Derived.WalkKit
import Derived.WalkSpells
import Derived.WalkLawsBesides
import Derived.Deep.QuietTactic
import Derived.BigQuiet
import Derived.Test.YtlmimmoodljbeabNumMath
namespace Go.Proofs.Ytlmimmoodljbeab
open Go.RowKit NumMath

set_option maxHeartbeats 400000 in
theorem add_any (a b : Int) (w : World) (ha1 : -9223372036854775808 ≤ a) (ha2 : a ≤ 9223372036854775807) (hb1 : -9223372036854775808 ≤ b) (hb2 : b ≤ 9223372036854775807) :
    Calls Try.prog 7 #[.int .i64 a, .int .i64 b] w fun e w' => e = .returned (.tuple #[.int .i64 (inV (a + b)), .bool (inB (a + b))]) ∧ w' = w := by
  by_cases h : -9223372036854775808 ≤ a + b ∧ a + b ≤ 9223372036854775807
  · have t := add_yes a b ha1 ha2 hb1 hb2 h
    have H : Hid (-9223372036854775808 ≤ a + b ∧ a + b ≤ 9223372036854775807) := h
    obtain ⟨h1, h2⟩ := h
    go_enter Try.func7, Try.ntmps7
    go_wp2
    go_ret2
    exact ⟨ret2 (inV_true H.out).symm (inB_true H.out).symm, rfl⟩
  · have t := (add_test a b ha1 ha2 hb1 hb2).2 h
    have H : Hid (¬ (-9223372036854775808 ≤ a + b ∧ a + b ≤ 9223372036854775807)) := h
    clear h
    go_enter Try.func7, Try.ntmps7
    go_wp2
    go_ret2
    exact ⟨ret2 (inV_false H.out).symm (inB_false H.out).symm, rfl⟩

set_option maxHeartbeats 400000 in
theorem zig_any (n : Int) (w : World) (h1 : -9223372036854775808 ≤ n) (h2 : n ≤ 9223372036854775807) :
    Calls Try.prog 8 #[.int .i64 n] w fun e w' => e = .returned (.int .u64 (zigV n)) ∧ w' = w := by
  go_enter Try.func8, Try.ntmps8
  go_wp2
  go_ret
  exact ⟨ret1 (zig_math n h1 h2), rfl⟩

set_option maxHeartbeats 400000 in
theorem flip_any (n : Int) (w : World) (h1 : -9223372036854775808 ≤ n) (h2 : n ≤ 9223372036854775807) :
    Calls Try.prog 6 #[.int .i64 n] w fun e w' => e = .returned (.int .u64 (flipV n)) ∧ w' = w := by
  go_enter Try.func6, Try.ntmps6
  go_wp2
  go_ret
  exact ⟨ret1 (flip_math n h1 h2), rfl⟩

set_option maxHeartbeats 400000 in
theorem awake_any (w : World) :
    Calls Try.prog 4 #[] w fun e w' => e = .returned (.bool true) ∧ w' = w := by
  have k1 := awake_add
  have k2 := awake_zig
  have k3 := awake_flip
  go_enter Try.func4, Try.ntmps4
  go_wp2_with (first | (go_at_call 7; refine (add_any _ _ _ (by decide) (by decide) (by decide) (by decide)).mono ?_; rintro e w' ⟨rfl, rfl⟩) | (go_at_call 8; refine (zig_any _ _ (by decide) (by decide)).mono ?_; rintro e w' ⟨rfl, rfl⟩) | (go_at_call 6; refine (flip_any _ _ (by decide) (by decide)).mono ?_; rintro e w' ⟨rfl, rfl⟩))
  go_ret
  exact ⟨rfl, rfl⟩

end Go.Proofs.Ytlmimmoodljbeab
