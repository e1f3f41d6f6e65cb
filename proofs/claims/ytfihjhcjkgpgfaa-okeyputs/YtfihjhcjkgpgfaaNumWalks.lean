/- What num.Add, num.Sub and their kin answer, for any numbers of 64 bits; the world stays as it was. -/
import Derived.Test.YtfihjhcjkgpgfaaRows
import Derived.WalkKit
import Derived.WalkSpells
import Derived.WalkLawsBesides
import Derived.Deep.QuietTactic
import Derived.BigQuiet
import Derived.Test.YtfihjhcjkgpgfaaNumMath
namespace Go.Proofs.Ytfihjhcjkgpgfaa
open Go.RowKit NumMath

set_option maxHeartbeats 400000 in
theorem flip_any (n : Int) (w : World) (h1 : -9223372036854775808 ≤ n) (h2 : n ≤ 9223372036854775807) :
    Calls Try.prog 31 #[.int .i64 n] w fun e w' => e = .returned (.int .u64 (flipV n)) ∧ w' = w := by
  go_enter Try.func31, Try.ntmps31
  go_wp2
  go_ret
  exact ⟨ret1 (flip_math n h1 h2), rfl⟩

set_option maxHeartbeats 400000 in
theorem unflip_any (n : Int) (w : World) (h1 : 0 ≤ n) (h2 : n ≤ 18446744073709551615) :
    Calls Try.prog 40 #[.int .u64 n] w fun e w' => e = .returned (.int .i64 (unflipV n)) ∧ w' = w := by
  go_enter Try.func40, Try.ntmps40
  go_wp2
  go_ret
  exact ⟨ret1 (unflip_math n h1 h2), rfl⟩

set_option maxHeartbeats 400000 in
theorem rflip_any (n : Int) (w : World) (h1 : -9223372036854775808 ≤ n) (h2 : n ≤ 9223372036854775807) :
    Calls Try.prog 33 #[.int .i64 n] w fun e w' => e = .returned (.int .u64 (flipV n)) ∧ w' = w := by
  by_cases h : 0 ≤ n
  · go_enter Try.func33, Try.ntmps33
    go_wp2
    go_ret
    exact ⟨ret1 (by unfold flipV; omega), rfl⟩
  · go_enter Try.func33, Try.ntmps33
    go_wp2
    go_ret
    exact ⟨ret1 (by unfold flipV; omega), rfl⟩

end Go.Proofs.Ytfihjhcjkgpgfaa
