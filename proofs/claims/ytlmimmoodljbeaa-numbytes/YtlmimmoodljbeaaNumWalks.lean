/- What num.Add, num.Sub and their kin answer, for any numbers of 64 bits; the world stays as it was. -/
import Derived.Test.YtlmimmoodljbeaaRows
import Derived.WalkKit
import Derived.WalkSpells
import Derived.WalkLawsBesides
import Derived.Deep.QuietTactic
import Derived.BigQuiet
import Derived.Test.YtlmimmoodljbeaaNumMath
namespace Go.Proofs.Ytlmimmoodljbeaa
open Go.RowKit NumMath

set_option maxHeartbeats 400000 in
theorem add_any (a b : Int) (w : World) (ha1 : -9223372036854775808 ≤ a) (ha2 : a ≤ 9223372036854775807) (hb1 : -9223372036854775808 ≤ b) (hb2 : b ≤ 9223372036854775807) :
    Calls Try.prog 10 #[.int .i64 a, .int .i64 b] w fun e w' => e = .returned (.tuple #[.int .i64 (inV (a + b)), .bool (inB (a + b))]) ∧ w' = w := by
  by_cases h : -9223372036854775808 ≤ a + b ∧ a + b ≤ 9223372036854775807
  · have t := add_yes a b ha1 ha2 hb1 hb2 h
    have H : Hid (-9223372036854775808 ≤ a + b ∧ a + b ≤ 9223372036854775807) := h
    obtain ⟨h1, h2⟩ := h
    go_enter Try.func10, Try.ntmps10
    go_wp2
    go_ret2
    exact ⟨ret2 (inV_true H.out).symm (inB_true H.out).symm, rfl⟩
  · have t := (add_test a b ha1 ha2 hb1 hb2).2 h
    have H : Hid (¬ (-9223372036854775808 ≤ a + b ∧ a + b ≤ 9223372036854775807)) := h
    clear h
    go_enter Try.func10, Try.ntmps10
    go_wp2
    go_ret2
    exact ⟨ret2 (inV_false H.out).symm (inB_false H.out).symm, rfl⟩

set_option maxHeartbeats 400000 in
theorem sub_any (a b : Int) (w : World) (ha1 : -9223372036854775808 ≤ a) (ha2 : a ≤ 9223372036854775807) (hb1 : -9223372036854775808 ≤ b) (hb2 : b ≤ 9223372036854775807) :
    Calls Try.prog 12 #[.int .i64 a, .int .i64 b] w fun e w' => e = .returned (.tuple #[.int .i64 (inV (a - b)), .bool (inB (a - b))]) ∧ w' = w := by
  by_cases h : -9223372036854775808 ≤ a - b ∧ a - b ≤ 9223372036854775807
  · have t := sub_yes a b ha1 ha2 hb1 hb2 h
    have H : Hid (-9223372036854775808 ≤ a - b ∧ a - b ≤ 9223372036854775807) := h
    obtain ⟨h1, h2⟩ := h
    go_enter Try.func12, Try.ntmps12
    go_wp2
    go_ret2
    exact ⟨ret2 (inV_true H.out).symm (inB_true H.out).symm, rfl⟩
  · have t := (sub_test a b ha1 ha2 hb1 hb2).2 h
    have H : Hid (¬ (-9223372036854775808 ≤ a - b ∧ a - b ≤ 9223372036854775807)) := h
    clear h
    go_enter Try.func12, Try.ntmps12
    go_wp2
    go_ret2
    exact ⟨ret2 (inV_false H.out).symm (inB_false H.out).symm, rfl⟩

set_option maxHeartbeats 400000 in
theorem radd_any (a b : Int) (w : World) (ha1 : -9223372036854775808 ≤ a) (ha2 : a ≤ 9223372036854775807) (hb1 : -9223372036854775808 ≤ b) (hb2 : b ≤ 9223372036854775807) :
    Calls Try.prog 11 #[.int .i64 a, .int .i64 b] w fun e w' => e = .returned (.tuple #[.int .i64 (inV (a + b)), .bool (inB (a + b))]) ∧ w' = w := by
  by_cases hb : 0 < b
  · by_cases hx : 9223372036854775807 - b < a
    · go_enter Try.func11, Try.ntmps11
      go_wp2
      go_ret2
      exact ⟨ret2 (inV_false (by omega)).symm (inB_false (by omega)).symm, rfl⟩
    · have hy : ¬ b < 0 := by omega
      go_enter Try.func11, Try.ntmps11
      go_wp2
      go_ret2
      exact ⟨ret2 (inV_true (by omega)).symm (inB_true (by omega)).symm, rfl⟩
  · by_cases hc : b < 0
    · by_cases hx : a < -9223372036854775808 - b
      · go_enter Try.func11, Try.ntmps11
        go_wp2
        go_ret2
        exact ⟨ret2 (inV_false (by omega)).symm (inB_false (by omega)).symm, rfl⟩
      · go_enter Try.func11, Try.ntmps11
        go_wp2
        go_ret2
        exact ⟨ret2 (inV_true (by omega)).symm (inB_true (by omega)).symm, rfl⟩
    · go_enter Try.func11, Try.ntmps11
      go_wp2
      go_ret2
      exact ⟨ret2 (inV_true (by omega)).symm (inB_true (by omega)).symm, rfl⟩

set_option maxHeartbeats 400000 in
theorem rsub_any (a b : Int) (w : World) (ha1 : -9223372036854775808 ≤ a) (ha2 : a ≤ 9223372036854775807) (hb1 : -9223372036854775808 ≤ b) (hb2 : b ≤ 9223372036854775807) :
    Calls Try.prog 13 #[.int .i64 a, .int .i64 b] w fun e w' => e = .returned (.tuple #[.int .i64 (inV (a - b)), .bool (inB (a - b))]) ∧ w' = w := by
  by_cases hb : b = -9223372036854775808
  · subst hb
    by_cases hx : 0 ≤ a
    · go_enter Try.func13, Try.ntmps13
      go_wp2
      go_ret2
      exact ⟨ret2 (inV_false (by omega)).symm (inB_false (by omega)).symm, rfl⟩
    · go_enter Try.func13, Try.ntmps13
      go_wp2
      go_ret2
      exact ⟨ret2 (inV_true (by omega)).symm (inB_true (by omega)).symm, rfl⟩
  · have hc : (b == -9223372036854775808) = false := by simpa using hb
    have hd : -9223372036854775808 < b := by omega
    clear hb
    go_enter Try.func13, Try.ntmps13
    go_wp2_with (go_at_call 11; refine (radd_any _ _ _ ?_ ?_ ?_ ?_).mono ?_ <;> first | omega | (rintro e w' ⟨rfl, rfl⟩))
    go_ret2
    exact ⟨ret2 (by rw [Int.sub_eq_add_neg]) (by rw [Int.sub_eq_add_neg]), rfl⟩

set_option maxHeartbeats 400000 in
theorem zig_any (n : Int) (w : World) (h1 : -9223372036854775808 ≤ n) (h2 : n ≤ 9223372036854775807) :
    Calls Try.prog 22 #[.int .i64 n] w fun e w' => e = .returned (.int .u64 (zigV n)) ∧ w' = w := by
  go_enter Try.func22, Try.ntmps22
  go_wp2
  go_ret
  exact ⟨ret1 (zig_math n h1 h2), rfl⟩

set_option maxHeartbeats 400000 in
theorem zag_any (n : Int) (w : World) (h1 : 0 ≤ n) (h2 : n ≤ 18446744073709551615) :
    Calls Try.prog 24 #[.int .u64 n] w fun e w' => e = .returned (.int .i64 (zagV n)) ∧ w' = w := by
  go_enter Try.func24, Try.ntmps24
  go_wp2
  go_ret
  exact ⟨ret1 (zag_math n h1 h2), rfl⟩

set_option maxHeartbeats 400000 in
theorem flip_any (n : Int) (w : World) (h1 : -9223372036854775808 ≤ n) (h2 : n ≤ 9223372036854775807) :
    Calls Try.prog 25 #[.int .i64 n] w fun e w' => e = .returned (.int .u64 (flipV n)) ∧ w' = w := by
  go_enter Try.func25, Try.ntmps25
  go_wp2
  go_ret
  exact ⟨ret1 (flip_math n h1 h2), rfl⟩

set_option maxHeartbeats 400000 in
theorem unflip_any (n : Int) (w : World) (h1 : 0 ≤ n) (h2 : n ≤ 18446744073709551615) :
    Calls Try.prog 27 #[.int .u64 n] w fun e w' => e = .returned (.int .i64 (unflipV n)) ∧ w' = w := by
  go_enter Try.func27, Try.ntmps27
  go_wp2
  go_ret
  exact ⟨ret1 (unflip_math n h1 h2), rfl⟩

set_option maxHeartbeats 400000 in
theorem rzig_any (n : Int) (w : World) (h1 : -9223372036854775808 ≤ n) (h2 : n ≤ 9223372036854775807) :
    Calls Try.prog 23 #[.int .i64 n] w fun e w' => e = .returned (.int .u64 (zigV n)) ∧ w' = w := by
  by_cases h : 0 ≤ n
  · go_enter Try.func23, Try.ntmps23
    go_wp2
    go_ret
    exact ⟨ret1 (by unfold zigV; rw [if_pos h]), rfl⟩
  · go_enter Try.func23, Try.ntmps23
    go_wp2
    go_ret
    exact ⟨ret1 (by unfold zigV; rw [if_neg (by omega)]; omega), rfl⟩

set_option maxHeartbeats 400000 in
theorem rflip_any (n : Int) (w : World) (h1 : -9223372036854775808 ≤ n) (h2 : n ≤ 9223372036854775807) :
    Calls Try.prog 26 #[.int .i64 n] w fun e w' => e = .returned (.int .u64 (flipV n)) ∧ w' = w := by
  by_cases h : 0 ≤ n
  · go_enter Try.func26, Try.ntmps26
    go_wp2
    go_ret
    exact ⟨ret1 (by unfold flipV; omega), rfl⟩
  · go_enter Try.func26, Try.ntmps26
    go_wp2
    go_ret
    exact ⟨ret1 (by unfold flipV; omega), rfl⟩

set_option maxHeartbeats 400000 in
theorem awake_any (w : World) :
    Calls Try.prog 9 #[] w fun e w' => e = .returned (.bool true) ∧ w' = w := by
  have k1 := awake_add
  have k2 := awake_zig
  have k3 := awake_flip
  go_enter Try.func9, Try.ntmps9
  go_wp2_with (first | (go_at_call 10; refine (add_any _ _ _ (by decide) (by decide) (by decide) (by decide)).mono ?_; rintro e w' ⟨rfl, rfl⟩) | (go_at_call 22; refine (zig_any _ _ (by decide) (by decide)).mono ?_; rintro e w' ⟨rfl, rfl⟩) | (go_at_call 25; refine (flip_any _ _ (by decide) (by decide)).mono ?_; rintro e w' ⟨rfl, rfl⟩))
  go_ret
  exact ⟨rfl, rfl⟩

end Go.Proofs.Ytlmimmoodljbeaa
