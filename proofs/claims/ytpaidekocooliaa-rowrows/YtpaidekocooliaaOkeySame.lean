/- The reference's SameRow of a list and itself. -/
import Derived.Test.YtpaidekocooliaaOkeyLists
import Derived.Deep.RegionHeld3
import Derived.Laws.StructEq
namespace Go.Proofs.Ytpaidekocooliaa
open Go.RowKit NumMath
set_option linter.unusedVariables false

set_option maxHeartbeats 1000000 in
theorem same_any (a : Option Addr) (la ca : Nat) (b : Option Addr) (lb cb : Nat) (xs : List Val) (w : World) (h : IsVals w a la ca xs) (h' : IsVals w b lb cb xs) :
    Calls Try.prog 30 #[.slice a la ca, .slice b lb cb] w fun e w' => e = .returned (.bool true) ∧ Below w.heap.size w w' := by
  have HV := hide h
  have HW := hide h'
  obtain ⟨hl, hlc, hm, -, -⟩ := h
  obtain ⟨hl', hlc', hm', -, -⟩ := h'
  unfold maxLen at hm hm'
  have hlb : lb = la := by omega
  subst hlb
  have HL : Hid (xs.length = lb) := hl
  clear hl hl'
  go_enter Try.func30, Try.ntmps30
  go_wp2
  go_loopw [13] (fun i wr => ∃ k : Nat, k ≤ lb ∧ i = .int .i64 k ∧ Below w.heap.size w wr) (fun i _ => lb - (intOf i).toNat)
  case atStart => exact ⟨0, Nat.zero_le _, rfl, Below.refl _ _⟩
  case round =>
    obtain ⟨k, hk, rfl, hb⟩ := hrel
    have hsz := hb.size
    by_cases hlt : k < lb
    · obtain ⟨g, off, rfl, hg, hc⟩ := HV.out.at hlt
      obtain ⟨g', off', rfl, hg', hc'⟩ := HW.out.at hlt
      have hk1 : k < xs.length := by rw [HL.out]; exact hlt
      obtain ⟨⟨ak, an, az⟩, hv, c0, c1, c2⟩ := (hc.below hb hg).row hk1
      obtain ⟨v', hv', d0, d1, d2⟩ := (hc'.below hb hg').row hk1
      rw [hv] at hv'
      subst hv'
      clear hv hk1 hc hc'
      dsimp only at *
      go_wp2
      go_region_held3 (fun w' => w'.cell? ⟨g, off + k * 3, none⟩ = some (.int .i64 ak) ∧ w'.cell? ⟨g, off + k * 3 + 1, none⟩ = some (.int .i64 an) ∧ w'.cell? ⟨g, off + k * 3 + 2, none⟩ = some (.string az) ∧ w'.cell? ⟨g', off' + k * 3, none⟩ = some (.int .i64 ak) ∧ w'.cell? ⟨g', off' + k * 3 + 1, none⟩ = some (.int .i64 an) ∧ w'.cell? ⟨g', off' + k * 3 + 2, none⟩ = some (.string az)) (go_keep) (fail)
      all_goals
        go_wp2
        go_roundw
        case rel => exact ⟨k + 1, by omega, by go_num, hb.drew⟩
        case measure => simp [intOf]; omega
    · have hkl : k = lb := by omega
      subst hkl
      go_wp2
      go_ret
      exact ⟨rfl, hb⟩

end Go.Proofs.Ytpaidekocooliaa
